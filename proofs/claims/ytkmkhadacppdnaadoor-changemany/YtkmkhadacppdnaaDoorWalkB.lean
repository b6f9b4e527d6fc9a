/-
  The walks of package value: Check, checked, a text in quotes and back.
-/
import Derived.Test.YtkmkhadacppdnaaDoorMath
namespace Go.Proofs.YtkmkhadacppdnaaDoor
open Go.RowKit
set_option linter.unusedVariables false
set_option linter.unusedSimpArgs false

theorem nonE (s : ByteArray) (h : ¬ s.data.toList = []) : s.toList.isEmpty = false := by
  rw [← decide_eq_emptyBytes, decide_eq_false_iff_not]
  intro e; apply h; rw [e]; rfl
theorem isE (s : ByteArray) (h : s.data.toList = []) : s.toList.isEmpty = true := by
  rw [← decide_eq_emptyBytes, decide_eq_true_iff]
  exact nil_of_empty s h

set_option maxHeartbeats 1000000 in
theorem check_any (t n : Int) (s : ByteArray) (w : World) (hs : s.size ≤ maxLen) :
    Calls Tryd.prog 68 #[val t n s] w fun e w' => e = .returned (errV (vErr t n s.data.toList)) ∧ w' = w.alloc (.cells #[.int .i64 t, .int .i64 n, .string s] 40) := by
  unfold val
  by_cases ht : t = 1 ∨ t = 2 ∨ t = 3
  · by_cases hr : inR t n = true
    · by_cases h3 : t = 3
      · subst h3
        have e1 : vErr 3 n s.data.toList = tErr s.data.toList := by unfold vErr; rw [if_pos ht, if_pos hr, if_pos rfl]
        have H1 : Hid (vErr 3 n s.data.toList = tErr s.data.toList) := e1
        clear e1 ht
        go_enter Tryd.func68, Tryd.ntmps68
        go_wp2_with (first | (go_at_call 73; refine (inRange_any _ _ _).mono ?_; rintro e w' ⟨rfl, rfl⟩) | (go_at_call 74; refine (checkText_any s _ hs).mono ?_; rintro e w' ⟨rfl, rfl⟩))
        go_ret
        exact ⟨ret_v (by rw [H1.out]; rfl), rfl⟩
      · by_cases hl : s.data.toList = []
        · have e1 : vErr t n s.data.toList = 0 := by unfold vErr; rw [if_pos ht, if_pos hr, if_neg h3, if_pos hl]
          have H1 : Hid (vErr t n s.data.toList = 0) := e1
          obtain rfl := nil_of_empty s hl
          clear e1 hl
          have ht' : t = 1 ∨ t = 2 := by omega
          clear ht
          rcases ht' with rfl | rfl
          all_goals
            go_enter Tryd.func68, Tryd.ntmps68
            go_wp2_with (first | (go_at_call 73; refine (inRange_any _ _ _).mono ?_; rintro e w' ⟨rfl, rfl⟩))
            go_ret
            exact ⟨ret_v (by rw [H1.out, errV_0]; rfl), rfl⟩
        · have e1 : vErr t n s.data.toList = 2 := by unfold vErr; rw [if_pos ht, if_pos hr, if_neg h3, if_neg hl]
          have H1 : Hid (vErr t n s.data.toList = 2) := e1
          have hE : s.toList.isEmpty = false := nonE s hl
          clear e1 hl
          have ht' : t = 1 ∨ t = 2 := by omega
          clear ht
          rcases ht' with rfl | rfl
          all_goals
            go_enter Tryd.func68, Tryd.ntmps68
            go_wp2_with (first | (go_at_call 73; refine (inRange_any _ _ _).mono ?_; rintro e w' ⟨rfl, rfl⟩))
            go_ret
            exact ⟨ret_v (by rw [H1.out, errV_2]; rfl), rfl⟩
    · have hr' : inR t n = false := by simpa using hr
      have e1 : vErr t n s.data.toList = 1 := by unfold vErr; rw [if_pos ht, if_neg hr]
      have H1 : Hid (vErr t n s.data.toList = 1) := e1
      clear e1 hr
      rcases ht with rfl | rfl | rfl
      all_goals
        go_enter Tryd.func68, Tryd.ntmps68
        go_wp2_with (first | (go_at_call 73; refine (inRange_any _ _ _).mono ?_; rintro e w' ⟨rfl, rfl⟩))
        go_ret
        exact ⟨ret_v (by rw [H1.out, errV_1]; rfl), rfl⟩
  · have e1 : vErr t n s.data.toList = 8 := by unfold vErr; rw [if_neg ht]
    have H1 : Hid (vErr t n s.data.toList = 8) := e1
    have h1 : ¬ t = 1 := by omega
    have h2 : ¬ t = 2 := by omega
    have h3 : ¬ t = 3 := by omega
    have b1 : (t != 1) = true := by simpa using h1
    have b2 : (t != 2) = true := by simpa using h2
    have b3 : (t != 3) = true := by simpa using h3
    clear e1 ht h1 h2 h3
    go_enter Tryd.func68, Tryd.ntmps68
    go_wp2
    go_ret
    exact ⟨ret_v (by rw [H1.out, errV_8]; rfl), rfl⟩

end Go.Proofs.YtkmkhadacppdnaaDoor
