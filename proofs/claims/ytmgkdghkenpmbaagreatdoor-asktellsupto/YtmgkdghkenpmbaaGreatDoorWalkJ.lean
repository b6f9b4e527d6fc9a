/-
  The walk of package value: Compare.
-/
import Derived.Test.YtmgkdghkenpmbaaGreatDoorWalkI
namespace Go.Proofs.YtmgkdghkenpmbaaGreatDoor
open Go.RowKit
set_option linter.unusedVariables false
set_option linter.unusedSimpArgs false

/-- The fault that Compare tells. -/
def cErr (ta na : Int) (la : List UInt8) (tb nb : Int) (lb : List UInt8) : Int :=
  if vErr ta na la = 0 then (if vErr tb nb lb = 0 then (if ta = tb then 0 else 8) else vErr tb nb lb) else vErr ta na la
/-- How two values stand to one another. -/
def cVal (ta na : Int) (la : List UInt8) (tb nb : Int) (lb : List UInt8) : Int :=
  if cErr ta na la tb nb lb = 0 then (if ta = 3 then Lib.compareBytes la lb else Lib.compareInt na nb) else 0

set_option maxHeartbeats 1000000 in
set_option maxRecDepth 100000 in
theorem compare_any (ta na : Int) (sa : ByteArray) (tb nb : Int) (sb : ByteArray) (w : World) (ha : sa.size ≤ maxLen) (hb : sb.size ≤ maxLen) :
    Calls Tryz.prog 72 #[val ta na sa, val tb nb sb] w fun e w' => e = .returned (.tuple #[.int .i64 (cVal ta na sa.data.toList tb nb sb.data.toList), errV (cErr ta na sa.data.toList tb nb sb.data.toList)]) ∧ Below w.heap.size w w' := by
  have hca := fun w => check_any ta na sa w ha
  have hcb := fun w => check_any tb nb sb w hb
  unfold val at *
  unfold cVal
  by_cases h1 : vErr ta na sa.data.toList = 0
  · by_cases h2 : vErr tb nb sb.data.toList = 0
    · rw [h1, errV_0] at hca
      rw [h2, errV_0] at hcb
      by_cases h3 : ta = tb
      · have hce : cErr ta na sa.data.toList tb nb sb.data.toList = 0 := by unfold cErr; rw [if_pos h1, if_pos h2, if_pos h3]
        rw [hce]
        subst h3
        by_cases h4 : ta = 3
        · subst h4
          rw [if_pos rfl, if_pos rfl, errV_0]
          clear h1 h2 hce
          go_enter Tryz.func72, Tryz.ntmps72
          go_wp2_with (go_at_call 62; refine (hca _).mono ?_; rintro e w' ⟨rfl, rfl⟩; refine Hid.out ?_)
          refine Lib.hid ?_
          go_wp2_with (first | (go_at_call 62; refine (hcb _).mono ?_; rintro e w' ⟨rfl, rfl⟩) | (go_at_call 81; refine (Tryz.strings_Compare _ _ _).mono ?_; rintro e w' ⟨rfl, rfl⟩))
          go_ret2
          exact ⟨rfl, ((((Below.refl _ _).alloc (Nat.le_refl _) _).alloc (by simp) _).alloc (by simp; omega) _).alloc (by simp; omega) _⟩
        · rw [if_pos rfl, if_neg h4, errV_0]
          clear h1 h2 hce
          go_enter Tryz.func72, Tryz.ntmps72
          go_wp2_with (go_at_call 62; refine (hca _).mono ?_; rintro e w' ⟨rfl, rfl⟩; refine Hid.out ?_)
          refine Lib.hid ?_
          go_wp2_with (first | (go_at_call 62; refine (hcb _).mono ?_; rintro e w' ⟨rfl, rfl⟩) | (go_at_call 82; refine (Tryz.cmp_Compare_int _ _ _).mono ?_; rintro e w' ⟨rfl, rfl⟩))
          go_ret2
          exact ⟨rfl, ((((Below.refl _ _).alloc (Nat.le_refl _) _).alloc (by simp) _).alloc (by simp; omega) _).alloc (by simp; omega) _⟩
      · have hce : cErr ta na sa.data.toList tb nb sb.data.toList = 8 := by unfold cErr; rw [if_pos h1, if_pos h2, if_neg h3]
        rw [hce, if_neg (by decide), errV_8]
        clear h1 h2 hce
        go_enter Tryz.func72, Tryz.ntmps72
        go_wp2_with (go_at_call 62; refine (hca _).mono ?_; rintro e w' ⟨rfl, rfl⟩; refine Hid.out ?_)
        refine Lib.hid ?_
        go_wp2_with (first | (go_at_call 62; refine (hcb _).mono ?_; rintro e w' ⟨rfl, rfl⟩))
        go_ret2
        exact ⟨rfl, ((((Below.refl _ _).alloc (Nat.le_refl _) _).alloc (by simp) _).alloc (by simp; omega) _).alloc (by simp; omega) _⟩
    · have hce : cErr ta na sa.data.toList tb nb sb.data.toList = vErr tb nb sb.data.toList := by unfold cErr; rw [if_pos h1, if_neg h2]
      rw [hce, if_neg h2]
      rw [h1, errV_0] at hca
      rw [errV_ne h2] at hcb ⊢
      generalize vErr tb nb sb.data.toList = x at hcb ⊢
      clear h1 h2 hce
      go_enter Tryz.func72, Tryz.ntmps72
      go_wp2_with (go_at_call 62; refine (hca _).mono ?_; rintro e w' ⟨rfl, rfl⟩; refine Hid.out ?_)
      refine Lib.hid ?_
      go_wp2_with (first | (go_at_call 62; refine (hcb _).mono ?_; rintro e w' ⟨rfl, rfl⟩))
      go_ret2
      exact ⟨rfl, ((((Below.refl _ _).alloc (Nat.le_refl _) _).alloc (by simp) _).alloc (by simp; omega) _).alloc (by simp; omega) _⟩
  · have hce : cErr ta na sa.data.toList tb nb sb.data.toList = vErr ta na sa.data.toList := by unfold cErr; rw [if_neg h1]
    rw [hce, if_neg h1]
    rw [errV_ne h1] at hca ⊢
    generalize vErr ta na sa.data.toList = x at hca ⊢
    clear h1 hce hcb
    go_enter Tryz.func72, Tryz.ntmps72
    go_wp2_with (first | (go_at_call 62; refine (hca _).mono ?_; rintro e w' ⟨rfl, rfl⟩))
    go_ret2
    exact ⟨rfl, (((Below.refl _ _).alloc (Nat.le_refl _) _).alloc (by simp) _).alloc (by simp; omega) _⟩
end Go.Proofs.YtmgkdghkenpmbaaGreatDoor
