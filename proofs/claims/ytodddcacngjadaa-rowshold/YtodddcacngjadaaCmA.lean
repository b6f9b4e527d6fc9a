/-
  The walks of what compares: cmp.Compare, strings.Compare, value.Compare, compare of package rows; each as it leaves memory: it draws, and lays blocks of its own, and no more. The order that it is.
-/
import Derived.Test.YtodddcacngjadaaRwC
import Derived.Test.YtodddcacngjadaaCmpB
import Derived.Shelf.SlSortCmp.KitK
namespace Go.Proofs.Ytodddcacngjadaa
open Go.RowKit
set_option linter.unusedVariables false
set_option linter.unusedSimpArgs false

set_option maxHeartbeats 1000000 in
theorem cmp_any (x y : Int) (w : World) : Calls Try.prog 18 #[.int .i64 x, .int .i64 y] w fun e w' => e = .returned (.int .i64 (Lib.compareInt x y)) ∧ w' = w := by
  go_enter Try.func18, Try.ntmps18
  go_wp2
  all_goals (go_ret; refine ⟨?_, rfl⟩; unfold Lib.compareInt; (repeat' split) <;> first | rfl | (exfalso; omega))
set_option maxHeartbeats 1000000 in
set_option maxRecDepth 100000 in
theorem cmpStr_any (a b : ByteArray) (w : World) : Calls Try.prog 29 #[.string a, .string b] w fun e w' => e = .returned (.int .i64 (Lib.compareBytes a.data.toList b.data.toList)) ∧ w' = w := by
  go_enter Try.func29, Try.ntmps29
  go_wp2
  rw [run_callFunc_extern Try.func40 (by kernel_rfl) (by kernel_rfl) (by kernel_rfl) (e := Extern.BytealgCompare.compare) (by kernel_rfl), Lib.run_compareString]
  simp only [Result.andThen]
  rw [Oper.upon_value]
  go_wp2
  go_ret
  exact ⟨rfl, rfl⟩
theorem scmp_any (a b : ByteArray) (w : World) : Calls Try.prog 17 #[.string a, .string b] w fun e w' => e = .returned (.int .i64 (Lib.compareBytes a.data.toList b.data.toList)) ∧ w' = w := by
  go_enter Try.func17, Try.ntmps17
  go_wp2_with (go_at_call 29; refine (cmpStr_any _ _ _).mono ?_; rintro e w' ⟨rfl, rfl⟩)
  go_ret
  exact ⟨rfl, rfl⟩

/-- A world that has drawn, and has blocks more. -/
def Gr (w w' : World) : Prop := ∃ q os, w' = Go.Sort.grow (w.drewN q) os
theorem Gr.refl (w : World) : Gr w w := ⟨0, #[], by simp [Go.Sort.grow, World.drewN]⟩
theorem Gr.alloc {w w' : World} (h : Gr w w') (o : Obj) : Gr w (w'.alloc o) := by
  obtain ⟨q, os, rfl⟩ := h
  exact ⟨q, os ++ #[o], by rw [Go.Sort.alloc_eq_grow, Go.Sort.grow_grow]⟩
theorem Gr.drewN {w w' : World} (h : Gr w w') (n : Nat) : Gr w (w'.drewN n) := by
  obtain ⟨q, os, rfl⟩ := h
  exact ⟨q + n, os, by simp [Go.Sort.grow, World.drewN, Nat.add_assoc]⟩
theorem Gr.grow {w w' : World} (h : Gr w w') (os : Array Obj) : Gr w (Go.Sort.grow w' os) := by
  obtain ⟨q, os', rfl⟩ := h
  exact ⟨q, os' ++ os, by rw [Go.Sort.grow_grow]⟩
theorem Gr.trans {a b c : World} (h : Gr a b) (k : Gr b c) : Gr a c := by
  obtain ⟨q, os, rfl⟩ := k
  exact (h.drewN q).grow os
theorem Gr.below {w w' : World} (h : Gr w w') : Below w.heap.size w w' := by
  obtain ⟨q, os, rfl⟩ := h
  refine ⟨rfl, rfl, rfl, by simp [Go.Sort.grow, World.drewN], fun k hk => ?_⟩
  show (w.heap ++ os)[k]? = w.heap[k]?
  rw [Array.getElem?_append_left hk]

/-- The fault that Compare tells. -/
def cErr (ta na : Int) (la : List UInt8) (tb nb : Int) (lb : List UInt8) : Int :=
  if vErr ta na la = 0 then (if vErr tb nb lb = 0 then (if ta = tb then 0 else 8) else vErr tb nb lb) else vErr ta na la
/-- How two values stand to one another. -/
def cVal (ta na : Int) (la : List UInt8) (tb nb : Int) (lb : List UInt8) : Int :=
  if cErr ta na la tb nb lb = 0 then (if ta = 3 then Lib.compareBytes la lb else Lib.compareInt na nb) else 0

set_option maxHeartbeats 1000000 in
set_option maxRecDepth 100000 in
theorem vcompare_any (ta na : Int) (sa : ByteArray) (tb nb : Int) (sb : ByteArray) (w : World) (ha : sa.size ≤ maxLen) (hb : sb.size ≤ maxLen) :
    Calls Try.prog 6 #[val ta na sa, val tb nb sb] w fun e w' => e = .returned (.tuple #[.int .i64 (cVal ta na sa.data.toList tb nb sb.data.toList), errV (cErr ta na sa.data.toList tb nb sb.data.toList)]) ∧ Gr w w' := by
  have hca := fun w => check_any ta na sa w ha
  have hcb := fun w => check_any tb nb sb w hb
  unfold val at *
  unfold cVal
  by_cases h1 : vErr ta na sa.data.toList = 0
  · by_cases h2 : vErr tb nb sb.data.toList = 0
    · rw [h1, errV_0] at hca
      rw [h2, errV_0] at hcb
      by_cases h3 : ta = tb
      · have hce : cErr ta na sa.data.toList tb nb sb.data.toList = 0 := by unfold cErr; rw [if_pos h1, if_pos h2, if_pos h3]
        rw [hce]
        subst h3
        by_cases h4 : ta = 3
        · subst h4
          rw [if_pos rfl, if_pos rfl, errV_0]
          clear h1 h2 hce
          go_enter Try.func6, Try.ntmps6
          go_wp2_with (go_at_call 16; refine (hca _).mono ?_; rintro e w' ⟨rfl, rfl⟩; refine Hid.out ?_)
          refine Lib.hid ?_
          go_wp2_with (first | (go_at_call 16; refine (hcb _).mono ?_; rintro e w' ⟨rfl, rfl⟩) | (go_at_call 17; refine (scmp_any _ _ _).mono ?_; rintro e w' ⟨rfl, rfl⟩))
          go_ret2
          exact ⟨rfl, ((((Gr.refl _).alloc _).alloc _).alloc _).alloc _⟩
        · rw [if_pos rfl, if_neg h4, errV_0]
          clear h1 h2 hce
          go_enter Try.func6, Try.ntmps6
          go_wp2_with (go_at_call 16; refine (hca _).mono ?_; rintro e w' ⟨rfl, rfl⟩; refine Hid.out ?_)
          refine Lib.hid ?_
          go_wp2_with (first | (go_at_call 16; refine (hcb _).mono ?_; rintro e w' ⟨rfl, rfl⟩) | (go_at_call 18; refine (cmp_any _ _ _).mono ?_; rintro e w' ⟨rfl, rfl⟩))
          go_ret2
          exact ⟨rfl, ((((Gr.refl _).alloc _).alloc _).alloc _).alloc _⟩
      · have hce : cErr ta na sa.data.toList tb nb sb.data.toList = 8 := by unfold cErr; rw [if_pos h1, if_pos h2, if_neg h3]
        rw [hce, if_neg (by decide), errV_8]
        clear h1 h2 hce
        go_enter Try.func6, Try.ntmps6
        go_wp2_with (go_at_call 16; refine (hca _).mono ?_; rintro e w' ⟨rfl, rfl⟩; refine Hid.out ?_)
        refine Lib.hid ?_
        go_wp2_with (first | (go_at_call 16; refine (hcb _).mono ?_; rintro e w' ⟨rfl, rfl⟩))
        go_ret2
        exact ⟨rfl, ((((Gr.refl _).alloc _).alloc _).alloc _).alloc _⟩
    · have hce : cErr ta na sa.data.toList tb nb sb.data.toList = vErr tb nb sb.data.toList := by unfold cErr; rw [if_pos h1, if_neg h2]
      rw [hce, if_neg h2]
      rw [h1, errV_0] at hca
      rw [errV_ne h2] at hcb ⊢
      generalize vErr tb nb sb.data.toList = x at hcb ⊢
      clear h1 h2 hce
      go_enter Try.func6, Try.ntmps6
      go_wp2_with (go_at_call 16; refine (hca _).mono ?_; rintro e w' ⟨rfl, rfl⟩; refine Hid.out ?_)
      refine Lib.hid ?_
      go_wp2_with (first | (go_at_call 16; refine (hcb _).mono ?_; rintro e w' ⟨rfl, rfl⟩))
      go_ret2
      exact ⟨rfl, ((((Gr.refl _).alloc _).alloc _).alloc _).alloc _⟩
  · have hce : cErr ta na sa.data.toList tb nb sb.data.toList = vErr ta na sa.data.toList := by unfold cErr; rw [if_neg h1]
    rw [hce, if_neg h1]
    rw [errV_ne h1] at hca ⊢
    generalize vErr ta na sa.data.toList = x at hca ⊢
    clear h1 hce hcb
    go_enter Try.func6, Try.ntmps6
    go_wp2_with (first | (go_at_call 16; refine (hca _).mono ?_; rintro e w' ⟨rfl, rfl⟩))
    go_ret2
    exact ⟨rfl, (((Gr.refl _).alloc _).alloc _).alloc _⟩

/-- How any two values stand: the types' numbers first. -/
def kcV (ta na : Int) (la : List UInt8) (tb nb : Int) (lb : List UInt8) : Int :=
  if ta = tb then (if ta = 3 then Lib.compareBytes la lb else Lib.compareInt na nb) else Lib.compareInt ta tb
theorem cVal_ok {ta na : Int} {la : List UInt8} {nb : Int} {lb : List UInt8} (h1 : vErr ta na la = 0) (h2 : vErr ta nb lb = 0) : cVal ta na la ta nb lb = kcV ta na la ta nb lb := by
  have hc : cErr ta na la ta nb lb = 0 := by unfold cErr; rw [if_pos h1, if_pos h2, if_pos rfl]
  unfold cVal kcV
  rw [if_pos hc, if_pos rfl]

set_option maxHeartbeats 1000000 in
set_option maxRecDepth 100000 in
theorem rcompare_any (ta na : Int) (sa : ByteArray) (tb nb : Int) (sb : ByteArray) (w : World) (ha : sa.size ≤ maxLen) (hb : sb.size ≤ maxLen) (h1 : vErr ta na sa.data.toList = 0) (h2 : vErr tb nb sb.data.toList = 0) :
    Calls Try.prog 13 #[.agg #[.int .i64 ta, .int .i64 na, .string sa], .agg #[.int .i64 tb, .int .i64 nb, .string sb]] w fun e w' => e = .returned (.int .i64 (kcV ta na sa.data.toList tb nb sb.data.toList)) ∧ Gr w w' := by
  have cC := fun W => vcompare_any ta na sa tb nb sb W ha hb
  by_cases h3 : ta = tb
  · subst h3
    rw [← cVal_ok h1 h2]
    unfold val at cC
    generalize cVal ta na sa.data.toList ta nb sb.data.toList = r at cC ⊢
    generalize errV (cErr ta na sa.data.toList ta nb sb.data.toList) = ev at cC
    clear h1 h2
    go_enter Try.func13, Try.ntmps13
    go_wp2_with (go_at_call 6; refine (cC _).mono ?_; rintro e W1 ⟨rfl, hG⟩)
    go_ret
    exact ⟨rfl, (((Gr.refl _).alloc _).alloc _).trans hG⟩
  · have hk : kcV ta na sa.data.toList tb nb sb.data.toList = Lib.compareInt ta tb := by unfold kcV; rw [if_neg h3]
    have hne : (ta == tb) = false := by simpa using h3
    rw [hk]
    have cI := fun W => cmp_any ta tb W
    generalize Lib.compareInt ta tb = r at cI ⊢
    clear h1 h2 hk cC
    go_enter Try.func13, Try.ntmps13
    go_wp2_with (go_at_call 18; refine (cI _).mono ?_; rintro e w' ⟨rfl, rfl⟩)
    go_ret
    exact ⟨rfl, ((Gr.refl _).alloc _).alloc _⟩

theorem cmpI_anti (a b : Int) : Lib.compareInt b a = -Lib.compareInt a b := by
  unfold Lib.compareInt
  repeat' split
  all_goals omega
theorem cmpI_trans (a b c : Int) (h1 : Lib.compareInt a b ≤ 0) (h2 : Lib.compareInt b c ≤ 0) : Lib.compareInt a c ≤ 0 := by
  unfold Lib.compareInt at *
  repeat' split
  all_goals first | omega | (repeat' split at h1) <;> (repeat' split at h2) <;> omega
theorem cmpI_range (a b : Int) : Lib.compareInt a b = -1 ∨ Lib.compareInt a b = 0 ∨ Lib.compareInt a b = 1 := by
  unfold Lib.compareInt
  repeat' split
  all_goals simp
theorem cmpI_zero {a b : Int} (h : Lib.compareInt a b = 0) : a = b := by
  unfold Lib.compareInt at h
  (repeat' split at h) <;> omega
theorem kcV_anti (ta na : Int) (la : List UInt8) (tb nb : Int) (lb : List UInt8) : kcV tb nb lb ta na la = -kcV ta na la tb nb lb := by
  unfold kcV
  by_cases h : ta = tb
  · subst h
    rw [if_pos rfl, if_pos rfl]
    by_cases h3 : ta = 3
    · rw [if_pos h3, if_pos h3]; exact cmpB_anti _ _
    · rw [if_neg h3, if_neg h3]; exact cmpI_anti _ _
  · rw [if_neg h, if_neg (fun e => h e.symm)]; exact cmpI_anti _ _
theorem kcV_trans (ta na : Int) (la : List UInt8) (tb nb : Int) (lb : List UInt8) (tc nc : Int) (lc : List UInt8) (h1 : kcV ta na la tb nb lb ≤ 0) (h2 : kcV tb nb lb tc nc lc ≤ 0) : kcV ta na la tc nc lc ≤ 0 := by
  unfold kcV at *
  by_cases e1 : ta = tb
  · subst e1
    rw [if_pos rfl] at h1
    by_cases e2 : ta = tc
    · subst e2
      rw [if_pos rfl] at h2 ⊢
      by_cases h3 : ta = 3
      · rw [if_pos h3] at h1 h2 ⊢; exact cmpB_trans _ _ _ h1 h2
      · rw [if_neg h3] at h1 h2 ⊢; exact cmpI_trans _ _ _ h1 h2
    · rw [if_neg e2] at h2 ⊢; exact h2
  · rw [if_neg e1] at h1
    by_cases e2 : tb = tc
    · subst e2; rw [if_neg e1]; exact h1
    · rw [if_neg e2] at h2
      have h3 := cmpI_trans _ _ _ h1 h2
      by_cases e3 : ta = tc
      · subst e3
        exfalso
        have h4 := cmpI_anti ta tb
        have : Lib.compareInt ta tb = 0 := by omega
        exact e1 (cmpI_zero this)
      · rw [if_neg e3]; exact h3
theorem kcV_range (ta na : Int) (la : List UInt8) (tb nb : Int) (lb : List UInt8) : kcV ta na la tb nb lb = -1 ∨ kcV ta na la tb nb lb = 0 ∨ kcV ta na la tb nb lb = 1 := by
  unfold kcV
  split
  · split
    · exact cmpB_range _ _
    · exact cmpI_range _ _
  · exact cmpI_range _ _
/-- What compares so is a strict weak order. -/
theorem swo_of {α : Type} {cf : α → α → Int} (anti : ∀ x y, cf y x = -cf x y) (trans : ∀ x y z, cf x y ≤ 0 → cf y z ≤ 0 → cf x z ≤ 0) : Go.Sort.SWO (ltOf cf) := by
  refine ⟨fun x => decide_eq_false ?_, fun x y z h1 h2 => decide_eq_true ?_, fun x y z h1 h2 => decide_eq_false ?_⟩
  · have := anti x x; omega
  · have q1 := of_decide_eq_true h1
    have q2 := of_decide_eq_true h2
    have q3 := trans x y z (by omega) (by omega)
    have q4 := anti x z
    have q5 := anti y z
    by_cases h0 : cf x z = 0
    · have q6 := trans z x y (by omega) (by omega)
      omega
    · omega
  · have q1 := of_decide_eq_false h1
    have q2 := of_decide_eq_false h2
    have a1 := anti x y
    have a2 := anti y z
    have a3 := anti x z
    have q3 := trans z y x (by omega) (by omega)
    omega
end Go.Proofs.Ytodddcacngjadaa
