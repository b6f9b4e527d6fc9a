/-
  The small walks of package graph: isId, compareTies, checkNode, checkTie.
-/
import Derived.Test.YtkgblicmkijpdaaGraM
import Derived.Deep.RegionWith
import Derived.Deep.RegionHeld3
namespace Go.Proofs.Ytkgblicmkijpdaa
open Go.RowKit
set_option linter.unusedVariables false
set_option linter.unusedSimpArgs false

theorem isId_any (i : Int) (w : World) : Calls Try.prog 47 #[.int .i64 i] w fun e w' => e = .returned (.bool (idOk i)) ∧ w' = w := by
  go_enter Try.func47, Try.ntmps47
  go_wp2
  all_goals
    go_ret
    exact ⟨ret_bool (by unfold idOk; simp; omega), rfl⟩

set_option maxHeartbeats 1000000 in
theorem cmp_any (x y : Int) (w : World) : Calls Try.prog 71 #[.int .i64 x, .int .i64 y] w fun e w' => e = .returned (.int .i64 (Lib.compareInt x y)) ∧ w' = w := by
  go_enter Try.func71, Try.ntmps71
  go_wp2
  all_goals (go_ret; refine ⟨?_, rfl⟩; unfold Lib.compareInt; (repeat' split) <;> first | rfl | (exfalso; omega))

set_option maxHeartbeats 1000000 in
set_option maxRecDepth 100000 in
theorem cmpStr_any (a b : ByteArray) (w : World) : Calls Try.prog 94 #[.string a, .string b] w fun e w' => e = .returned (.int .i64 (Lib.compareBytes a.data.toList b.data.toList)) ∧ w' = w := by
  go_enter Try.func94, Try.ntmps94
  go_wp2
  rw [run_callFunc_extern Try.func100 (by kernel_rfl) (by kernel_rfl) (by kernel_rfl) (e := Extern.BytealgCompare.compare) (by kernel_rfl), Lib.run_compareString]
  simp only [Result.andThen]
  rw [Oper.upon_value]
  go_wp2
  go_ret
  exact ⟨rfl, rfl⟩
theorem scmp_any (a b : ByteArray) (w : World) : Calls Try.prog 70 #[.string a, .string b] w fun e w' => e = .returned (.int .i64 (Lib.compareBytes a.data.toList b.data.toList)) ∧ w' = w := by
  go_enter Try.func70, Try.ntmps70
  go_wp2_with (go_at_call 94; refine (cmpStr_any _ _ _).mono ?_; rintro e w' ⟨rfl, rfl⟩)
  go_ret
  exact ⟨rfl, rfl⟩

theorem or3_a {x : Int} (y z : Int) (h : ¬ x = 0) : or3 x y z = x := by unfold or3; rw [if_neg h]
theorem or3_b {x y : Int} (z : Int) (h : x = 0) (h2 : ¬ y = 0) : or3 x y z = y := by unfold or3; rw [if_pos h, if_neg h2]
theorem or3_c {x y : Int} (z : Int) (h : x = 0) (h2 : y = 0) : or3 x y z = z := by unfold or3; rw [if_pos h, if_pos h2]
/-- Where the loop of cmp.Or stands. -/
def OrAt (x y z : Int) (w wr : World) (i : Value) : Prop := wr = w ∧ ((i = .int .i64 0) ∨ (i = .int .i64 1 ∧ x = 0) ∨ (i = .int .i64 2 ∧ x = 0 ∧ y = 0) ∨ (i = .int .i64 3 ∧ x = 0 ∧ y = 0 ∧ z = 0))
set_option maxHeartbeats 1000000 in
theorem or_any (b : Nat) (x y z : Int) (w : World) (c0 : w.cell? ⟨b, 0, none⟩ = some (.int .i64 x)) (c1 : w.cell? ⟨b, 1, none⟩ = some (.int .i64 y)) (c2 : w.cell? ⟨b, 2, none⟩ = some (.int .i64 z)) :
    Calls Try.prog 69 #[.slice (some ⟨b, 0, none⟩) 3 3] w fun e w' => e = .returned (.int .i64 (or3 x y z)) ∧ w' = w := by
  go_enter Try.func69, Try.ntmps69
  go_wp2
  go_loopw [8] (fun i wr => OrAt x y z w wr i) (fun i _ => 3 - (intOf i).toNat)
  case atStart => exact ⟨rfl, .inl rfl⟩
  case round =>
    obtain ⟨rfl, rfl | ⟨rfl, h1⟩ | ⟨rfl, h1, h2⟩ | ⟨rfl, h1, h2, h3⟩⟩ := hrel
    · by_cases h : x = 0
      · subst h
        go_wp2
        go_roundw
        case rel => exact ⟨rfl, .inr (.inl ⟨rfl, rfl⟩)⟩
        case measure => simp [intOf]
      · have H : Hid (¬ x = 0) := h
        go_wp2
        go_ret
        exact ⟨ret_v (congrArg (Value.int .i64) (or3_a y z H.out).symm), rfl⟩
    · subst h1
      by_cases h : y = 0
      · subst h
        go_wp2
        go_roundw
        case rel => exact ⟨rfl, .inr (.inr (.inl ⟨rfl, rfl, rfl⟩))⟩
        case measure => simp [intOf]
      · have H : Hid (¬ y = 0) := h
        go_wp2
        go_ret
        exact ⟨ret_v (congrArg (Value.int .i64) (or3_b z rfl H.out).symm), rfl⟩
    · subst h1 h2
      by_cases h : z = 0
      · subst h
        go_wp2
        go_roundw
        case rel => exact ⟨rfl, .inr (.inr (.inr ⟨rfl, rfl, rfl, rfl⟩))⟩
        case measure => simp [intOf]
      · go_wp2
        go_ret
        exact ⟨ret_v (congrArg (Value.int .i64) (or3_c z rfl rfl).symm), rfl⟩
    · subst h1 h2 h3
      go_wp2
      go_ret
      exact ⟨ret_v (congrArg (Value.int .i64) (or3_c 0 rfl rfl).symm), rfl⟩
theorem b_drew {B : Nat} {a w : World} (h : Below B a w) : Below B a w.drew := ⟨h.os, h.tape, h.output, h.size, h.block⟩
theorem cell_lit3 (w : World) (x y z : Int) : (w.alloc (.cells #[.int .i64 x, .int .i64 y, .int .i64 z] 3)).drew.cell? ⟨w.heap.size, 0, none⟩ = some (.int .i64 x) ∧ (w.alloc (.cells #[.int .i64 x, .int .i64 y, .int .i64 z] 3)).drew.cell? ⟨w.heap.size, 1, none⟩ = some (.int .i64 y) ∧ (w.alloc (.cells #[.int .i64 x, .int .i64 y, .int .i64 z] 3)).drew.cell? ⟨w.heap.size, 2, none⟩ = some (.int .i64 z) := by
  refine ⟨?_, ?_, ?_⟩ <;> simp
theorem or_at (w : World) (A B : Obj) (x y z : Int) :
    Calls Try.prog 69 #[.slice (some ⟨w.heap.size + 1 + 1, 0, none⟩) 3 3] (((w.alloc A).alloc B).alloc (.cells #[.int .i64 x, .int .i64 y, .int .i64 z] 3)).drew fun e w' => e = .returned (.int .i64 (or3 x y z)) ∧ w' = (((w.alloc A).alloc B).alloc (.cells #[.int .i64 x, .int .i64 y, .int .i64 z] 3)).drew := by
  have hs : ((w.alloc A).alloc B).heap.size = w.heap.size + 1 + 1 := by simp
  have h := cell_lit3 ((w.alloc A).alloc B) x y z
  rw [hs] at h
  exact or_any _ x y z _ h.1 h.2.1 h.2.2
set_option maxHeartbeats 4000000 in
set_option maxRecDepth 100000 in
theorem cmpT_any (s t : Te) (w : World) :
    Calls Try.prog 50 #[s.one, t.one] w fun e w' => e = .returned (.int .i64 (tCmp s t)) ∧ Below w.heap.size w w' := by
  obtain ⟨sb, sf, st⟩ := s
  obtain ⟨tb, tf, tt⟩ := t
  have hB : Below w.heap.size w ((w.alloc (.cells #[.string sb, .int .i64 sf, .int .i64 st] 40)).alloc (.cells #[.string tb, .int .i64 tf, .int .i64 tt] 40)) := b_alloc (b_alloc (Below.refl _ _) _) _
  go_enter Try.func50, Try.ntmps50
  go_wp2_with fail
  go_region_held3 (fun w' => w'.cell? ⟨w.heap.size, 0, none⟩ = some (.string sb) ∧ w'.cell? ⟨w.heap.size, 1, none⟩ = some (.int .i64 sf) ∧ w'.cell? ⟨w.heap.size, 2, none⟩ = some (.int .i64 st) ∧ w'.cell? ⟨w.heap.size + 1, 0, none⟩ = some (.string tb) ∧ w'.cell? ⟨w.heap.size + 1, 1, none⟩ = some (.int .i64 tf) ∧ w'.cell? ⟨w.heap.size + 1, 2, none⟩ = some (.int .i64 tt)) (go_keep) (first | (go_at_call 70; refine (scmp_any _ _ _).mono ?_; rintro e w' ⟨rfl, rfl⟩) | (go_at_call 71; refine (cmp_any _ _ _).mono ?_; rintro e w' ⟨rfl, rfl⟩) | (go_at_call 69; refine (or_at _ _ _ _ _ _).mono ?_; rintro e w' ⟨rfl, rfl⟩))
  all_goals
    go_wp2
    go_ret
    exact ⟨rfl, b_drew (b_alloc hB _)⟩
end Go.Proofs.Ytkgblicmkijpdaa
