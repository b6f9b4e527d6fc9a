/-
  The walk of change.checkAdded.
-/
import Derived.Test.YtkmkhadacppdnaaDoorChF
import Derived.Test.YtkmkhadacppdnaaDoorChB
namespace Go.Proofs.YtkmkhadacppdnaaDoor
open Go.RowKit
set_option linter.unusedVariables false
set_option linter.unusedSimpArgs false

set_option maxHeartbeats 4000000 in
set_option maxRecDepth 100000 in
theorem checkAdded_any (f : Fd) (t n : Int) (s : Nm) (w : World) (hs : s.length ≤ maxLen) :
    Calls Tryd.prog 52 #[f.one, .agg #[.int .i64 t, .int .i64 n, .string (bs s)]] w fun e w' => e = .returned (errV (adE f t n s)) ∧ Below w.heap.size w w' := by
  obtain ⟨fn, ft, fm, fk⟩ := f
  have hB0 : Below w.heap.size w ((w.alloc (.cells #[.string (bs fn), .int .i64 ft, .bool fm, .bool fk] 38)).alloc (.cells #[.int .i64 t, .int .i64 n, .string (bs s)] 40)) := b_alloc (b_alloc (Below.refl _ _) _) _
  by_cases hk : fk = true
  · have H : Hid (adE ⟨fn, ft, fm, fk⟩ t n s = 3) := by show _ = _; unfold adE; rw [if_pos hk]
    subst hk
    go_enter Tryd.func52, Tryd.ntmps52
    go_wp2
    go_ret
    exact ⟨ret_v (by rw [H.out]; rfl), hB0⟩
  · by_cases ht : t = 0
    · by_cases hm : fm = true
      · have H : Hid (adE ⟨fn, ft, fm, fk⟩ t n s = 3) := by show _ = _; unfold adE; rw [if_neg hk, if_pos ht, if_pos hm]
        have hk' : fk = false := by simpa using hk
        subst hk' ht hm
        go_enter Tryd.func52, Tryd.ntmps52
        go_wp2
        go_ret
        exact ⟨ret_v (by rw [H.out]; rfl), hB0⟩
      · have H : Hid (adE ⟨fn, ft, fm, fk⟩ t n s = 0) := by show _ = _; unfold adE; rw [if_neg hk, if_pos ht, if_neg hm]
        have hk' : fk = false := by simpa using hk
        have hm' : fm = false := by simpa using hm
        subst hk' ht hm'
        go_enter Tryd.func52, Tryd.ntmps52
        go_wp2
        go_ret
        exact ⟨ret_v (by rw [H.out]; rfl), hB0⟩
    · have hz : (bs s).size ≤ maxLen := by rw [bs_size]; exact hs
      have cv := fun w => check_any t n (bs s) w hz
      unfold val at cv
      simp only [bs_data] at cv
      have hk' : fk = false := by simpa using hk
      have hte : (t == 0) = false := by simpa using ht
      by_cases hv : vErr t n s = 0
      · rw [hv, errV_0] at cv
        by_cases hft : t = ft
        · have H : Hid (adE ⟨fn, ft, fm, fk⟩ t n s = 0) := by show _ = _; unfold adE; rw [if_neg hk, if_neg ht, if_pos hv, if_pos hft]
          subst hk' hft
          clear hv hk
          go_enter Tryd.func52, Tryd.ntmps52
          go_wp2_with (go_at_call 68; refine (cv _).mono ?_; rintro e w' ⟨rfl, rfl⟩)
          go_ret
          exact ⟨ret_v (by rw [H.out]; rfl), b_alloc hB0 _⟩
        · have H : Hid (adE ⟨fn, ft, fm, fk⟩ t n s = 8) := by show _ = _; unfold adE; rw [if_neg hk, if_neg ht, if_pos hv, if_neg hft]
          have hne : (t != ft) = true := by simpa using hft
          subst hk'
          clear hv hk
          go_enter Tryd.func52, Tryd.ntmps52
          go_wp2_with (go_at_call 68; refine (cv _).mono ?_; rintro e w' ⟨rfl, rfl⟩)
          go_ret
          exact ⟨ret_v (by rw [H.out]; rfl), b_alloc hB0 _⟩
      · have H : Hid (adE ⟨fn, ft, fm, fk⟩ t n s = vErr t n s) := by show _ = _; unfold adE; rw [if_neg hk, if_neg ht, if_neg hv]
        rw [errV_ne hv] at cv
        have HV := Lib.hid hv
        subst hk'
        clear hv hk
        go_enter Tryd.func52, Tryd.ntmps52
        go_wp2_with (go_at_call 68; refine (cv _).mono ?_; rintro e w' ⟨rfl, rfl⟩)
        go_ret
        exact ⟨ret_v (by rw [H.out, errV_ne HV.out]; rfl), b_alloc hB0 _⟩
end Go.Proofs.YtkmkhadacppdnaaDoor
