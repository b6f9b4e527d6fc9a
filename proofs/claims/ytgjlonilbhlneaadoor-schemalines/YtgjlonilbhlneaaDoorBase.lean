/-
  The walk of value.Name, and what stands beneath it.
-/
import Derived.Test.YtgjlonilbhlneaaDoorProg
import Derived.WalkKit
import Derived.BigCall
import Derived.Lib.Strings
namespace Go.Proofs.YtgjlonilbhlneaaDoor
open Go.RowKit
set_option linter.unusedVariables false
set_option linter.unusedSimpArgs false

/-- No small letter. -/
def noLet (c : UInt8) : Bool := decide ((c.toNat : Int) < 97) || decide (122 < (c.toNat : Int))

/-- A byte of the list is so. -/
def hasP (p : UInt8 → Bool) (l : List UInt8) : Bool := l.any p

theorem ret_bool {a b : Bool} (h : a = b) : Ending.returned (.bool a) = .returned (.bool b) := by rw [h]

theorem take_snoc (s : ByteArray) (k : Nat) (h : k < s.size) : s.data.toList.take (k + 1) = s.data.toList.take k ++ [s[k]] := by
  rw [List.take_succ_eq_append_getElem (by simpa using h)]; rfl
theorem any_snoc (p : UInt8 → Bool) (s : ByteArray) (k : Nat) (h : k < s.size) (h1 : (s.data.toList.take k).any p = false) (h2 : p s[k] = false) : (s.data.toList.take (k + 1)).any p = false := by
  rw [take_snoc s k h, List.any_append, h1]; simp [h2]
theorem any_hit (p : UInt8 → Bool) (s : ByteArray) (k : Nat) (h : k < s.size) (h2 : p s[k] = true) : true = hasP p s.data.toList := by
  symm; unfold hasP; rw [List.any_eq_true]; exact ⟨s[k], by simp [ByteArray.getElem_eq_getElem_data], h2⟩
theorem any_end (p : UInt8 → Bool) (s : ByteArray) (k : Nat) (h : ¬ k < s.size) (h1 : (s.data.toList.take k).any p = false) : false = hasP p s.data.toList := by
  unfold hasP; rw [List.take_of_length_le (by simp; omega)] at h1; exact h1.symm

theorem let_any (c : UInt8) (w : World) : Calls Tryd.prog 30 #[.int .u8 c.toNat] w fun e w' => e = .returned (.bool (noLet c)) ∧ w' = w := by
  go_enter Tryd.func30, Tryd.ntmps30
  go_wp2
  all_goals
    go_ret
    exact ⟨ret_bool (by unfold noLet; simp [*]), rfl⟩
set_option maxHeartbeats 1000000 in
theorem anyLet (s : ByteArray) (w : World) (hs : s.size ≤ maxLen) :
    Calls Tryd.prog 31 #[.string s, .func (.func 30) #[] #[]] w fun e w' => e = .returned (.bool (hasP noLet s.data.toList)) ∧ w' = w := by
  unfold maxLen at hs
  go_enter Tryd.func31, Tryd.ntmps31
  go_wp2
  go_loop [8] (fun i => ∃ k : Nat, k ≤ s.size ∧ i = .int .i64 k ∧ (s.data.toList.take k).any noLet = false) (fun i => s.size - (intOf i).toNat)
  case atStart => exact ⟨0, Nat.zero_le _, rfl, rfl⟩
  case round =>
    obtain ⟨k, hk, rfl, hno⟩ := hrel
    have HN : Hid ((s.data.toList.take k).any noLet = false) := hno
    clear hno
    by_cases hlt : k < s.size
    · by_cases hb : noLet s[k] = true
      · go_wp2_with (go_at_call 30; refine (let_any _ _).mono ?_; rintro e w' ⟨rfl, rfl⟩)
        go_ret
        exact ⟨ret_bool (any_hit _ s k hlt hb), rfl⟩
      · have hb' : noLet s[k] = false := by simpa using hb
        clear hb
        go_wp2_with (go_at_call 30; refine (let_any _ _).mono ?_; rintro e w' ⟨rfl, rfl⟩)
        go_round
        case rel => exact ⟨k + 1, by omega, by go_num, any_snoc _ s k hlt HN.out hb'⟩
        case measure => simp [intOf]; omega
    · go_wp2
      go_ret
      exact ⟨ret_bool (any_end _ s k hlt HN.out), rfl⟩

/-- An error, by its number. -/
def errV (e : Int) : Value := if e = 0 then .nilIface else .iface 48 (.int .i64 e)
theorem errV_0 : errV 0 = .nilIface := rfl
theorem errV_1 : errV 1 = .iface 48 (.int .i64 1) := rfl
theorem errV_2 : errV 2 = .iface 48 (.int .i64 2) := rfl
theorem errV_4 : errV 4 = .iface 48 (.int .i64 4) := rfl
theorem errV_8 : errV 8 = .iface 48 (.int .i64 8) := rfl
theorem ret_v {a b : Value} (h : a = b) : Ending.returned a = .returned b := by rw [h]

theorem size_len (s : ByteArray) : s.size = s.data.toList.length := by rw [Array.length_toList]; rfl
theorem nil_of_empty (s : ByteArray) (h : s.data.toList = []) : s = ⟨#[]⟩ := by
  cases s with | mk d => congr 1; simpa using h

theorem nonE (s : ByteArray) (h : ¬ s.data.toList = []) : s.toList.isEmpty = false := by
  rw [← decide_eq_emptyBytes, decide_eq_false_iff_not]
  intro e; apply h; rw [e]; rfl
theorem isE (s : ByteArray) (h : s.data.toList = []) : s.toList.isEmpty = true := by
  rw [← decide_eq_emptyBytes, decide_eq_true_iff]
  exact nil_of_empty s h

theorem errV_ne {e : Int} (h : ¬ e = 0) : errV e = .iface 48 (.int .i64 e) := by unfold errV; rw [if_neg h]
theorem list_eq {s : ByteArray} {l : List UInt8} (h : s.data.toList = l) : s = ⟨l.toArray⟩ := by
  cases s with | mk d => congr 1; rw [← h]

/-- The fault of a name. -/
def nErr (l : List UInt8) : Int := if l = [] then 2 else if 8 < l.length then 2 else if hasP noLet l = true then 2 else 0

set_option maxHeartbeats 2000000 in
set_option maxRecDepth 100000 in
theorem name_any (s : ByteArray) (w : World) (hs : s.size ≤ maxLen) :
    Calls Tryd.prog 18 #[.string s] w fun e w' => e = .returned (errV (nErr s.data.toList)) ∧ w' = w := by
  by_cases hE : s.data.toList = []
  · obtain rfl := list_eq hE
    go_enter Tryd.func18, Tryd.ntmps18
    go_wp2
    go_ret
    exact ⟨rfl, rfl⟩
  · have bE : s.toList.isEmpty = false := nonE s hE
    have bN : ¬ s.toList = [] := by rw [Lib.toList_data]; exact hE
    have hsz := size_len s
    by_cases h8 : 8 < s.size
    · have H1 : Hid (nErr s.data.toList = 2) := by
        show _ = _
        unfold nErr; rw [if_neg hE, if_pos (by omega)]
      clear hE hsz
      unfold maxLen at hs
      go_enter Tryd.func18, Tryd.ntmps18
      go_wp2
      go_ret
      exact ⟨ret_v (by rw [H1.out]; rfl), rfl⟩
    · by_cases hb : hasP noLet s.data.toList = true
      · have H1 : Hid (nErr s.data.toList = 2) := by
          show _ = _
          unfold nErr; rw [if_neg hE, if_neg (by omega), if_pos hb]
        clear hE hsz
        go_enter Tryd.func18, Tryd.ntmps18
        go_wp2_with (go_at_call 31; refine (anyLet s _ hs).mono ?_; rintro e w' ⟨rfl, rfl⟩)
        go_ret
        exact ⟨ret_v (by rw [H1.out]; rfl), rfl⟩
      · have hb' : hasP noLet s.data.toList = false := by simpa using hb
        have H1 : Hid (nErr s.data.toList = 0) := by
          show _ = _
          unfold nErr; rw [if_neg hE, if_neg (by omega), if_neg hb]
        clear hE hsz hb
        go_enter Tryd.func18, Tryd.ntmps18
        go_wp2_with (go_at_call 31; refine (anyLet s _ hs).mono ?_; rintro e w' ⟨rfl, rfl⟩)
        go_ret
        exact ⟨ret_v (by rw [H1.out]; rfl), rfl⟩

end Go.Proofs.YtgjlonilbhlneaaDoor
