/-
  The walks of package value: Name.
-/
import Derived.Test.YtkmkhadacppdnaaDoorWalkB
import Derived.Lib.Strings
namespace Go.Proofs.YtkmkhadacppdnaaDoor
open Go.RowKit
set_option linter.unusedVariables false
set_option linter.unusedSimpArgs false

theorem errV_ne {e : Int} (h : ¬ e = 0) : errV e = .iface 48 (.int .i64 e) := by unfold errV; rw [if_neg h]
theorem list_eq {s : ByteArray} {l : List UInt8} (h : s.data.toList = l) : s = ⟨l.toArray⟩ := by
  cases s with | mk d => congr 1; rw [← h]

/-- The fault of a name. -/
def nErr (l : List UInt8) : Int := if l = [] then 2 else if 8 < l.length then 2 else if hasP noLet l = true then 2 else 0

set_option maxHeartbeats 2000000 in
set_option maxRecDepth 100000 in
theorem name_any (s : ByteArray) (w : World) (hs : s.size ≤ maxLen) :
    Calls Tryd.prog 21 #[.string s] w fun e w' => e = .returned (errV (nErr s.data.toList)) ∧ w' = w := by
  by_cases hE : s.data.toList = []
  · obtain rfl := list_eq hE
    go_enter Tryd.func21, Tryd.ntmps21
    go_wp2
    go_ret
    exact ⟨rfl, rfl⟩
  · have bE : s.toList.isEmpty = false := nonE s hE
    have bN : ¬ s.toList = [] := by rw [Lib.toList_data]; exact hE
    have hsz := size_len s
    by_cases h8 : 8 < s.size
    · have H1 : Hid (nErr s.data.toList = 2) := by
        show _ = _
        unfold nErr; rw [if_neg hE, if_pos (by omega)]
      clear hE hsz
      unfold maxLen at hs
      go_enter Tryd.func21, Tryd.ntmps21
      go_wp2
      go_ret
      exact ⟨ret_v (by rw [H1.out]; rfl), rfl⟩
    · by_cases hb : hasP noLet s.data.toList = true
      · have H1 : Hid (nErr s.data.toList = 2) := by
          show _ = _
          unfold nErr; rw [if_neg hE, if_neg (by omega), if_pos hb]
        clear hE hsz
        go_enter Tryd.func21, Tryd.ntmps21
        go_wp2_with (go_at_call 40; refine (anyLet s _ hs).mono ?_; rintro e w' ⟨rfl, rfl⟩)
        go_ret
        exact ⟨ret_v (by rw [H1.out]; rfl), rfl⟩
      · have hb' : hasP noLet s.data.toList = false := by simpa using hb
        have H1 : Hid (nErr s.data.toList = 0) := by
          show _ = _
          unfold nErr; rw [if_neg hE, if_neg (by omega), if_neg hb]
        clear hE hsz hb
        go_enter Tryd.func21, Tryd.ntmps21
        go_wp2_with (go_at_call 40; refine (anyLet s _ hs).mono ?_; rintro e w' ⟨rfl, rfl⟩)
        go_ret
        exact ⟨ret_v (by rw [H1.out]; rfl), rfl⟩

end Go.Proofs.YtkmkhadacppdnaaDoor
