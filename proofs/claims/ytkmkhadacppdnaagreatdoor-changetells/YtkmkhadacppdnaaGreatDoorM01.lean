/-
  The small walks of package value: its three tests of one byte, and whether one of them holds of a byte of a text.
-/
import Derived.Test.YtkmkhadacppdnaaGreatDoorProg
import Derived.WalkKit
import Derived.BigCall
import Derived.Lib.Strings
import Derived.Laws.Cover1
namespace Go.Proofs.YtkmkhadacppdnaaGreatDoor
open Go.RowKit
set_option linter.unusedVariables false
set_option linter.unusedSimpArgs false

/-- Not printable. -/
def badB (c : UInt8) : Bool := decide ((c.toNat : Int) < 32) || decide (126 < (c.toNat : Int))
/-- No digit. -/
def noDig (c : UInt8) : Bool := decide ((c.toNat : Int) < 48) || decide (57 < (c.toNat : Int))
/-- No small letter. -/
def noLet (c : UInt8) : Bool := decide ((c.toNat : Int) < 97) || decide (122 < (c.toNat : Int))

/-- A byte of the list is so. -/
def hasP (p : UInt8 → Bool) (l : List UInt8) : Bool := l.any p

theorem ret_bool {a b : Bool} (h : a = b) : Ending.returned (.bool a) = .returned (.bool b) := by rw [h]

theorem take_snoc (s : ByteArray) (k : Nat) (h : k < s.size) : s.data.toList.take (k + 1) = s.data.toList.take k ++ [s[k]] := by
  rw [List.take_succ_eq_append_getElem (by simpa using h)]; rfl
theorem any_snoc (p : UInt8 → Bool) (s : ByteArray) (k : Nat) (h : k < s.size) (h1 : (s.data.toList.take k).any p = false) (h2 : p s[k] = false) : (s.data.toList.take (k + 1)).any p = false := by
  rw [take_snoc s k h, List.any_append, h1]; simp [h2]
theorem any_hit (p : UInt8 → Bool) (s : ByteArray) (k : Nat) (h : k < s.size) (h2 : p s[k] = true) : true = hasP p s.data.toList := by
  symm; unfold hasP; rw [List.any_eq_true]; exact ⟨s[k], by simp [ByteArray.getElem_eq_getElem_data], h2⟩
theorem any_end (p : UInt8 → Bool) (s : ByteArray) (k : Nat) (h : ¬ k < s.size) (h1 : (s.data.toList.take k).any p = false) : false = hasP p s.data.toList := by
  unfold hasP; rw [List.take_of_length_le (by simp; omega)] at h1; exact h1.symm

theorem bad_any (c : UInt8) (w : World) : Calls Tryz.prog 102 #[.int .u8 c.toNat] w fun e w' => e = .returned (.bool (badB c)) ∧ w' = w := by
  go_enter Tryz.func102, Tryz.ntmps102
  go_wp2
  all_goals
    go_ret
    exact ⟨ret_bool (by unfold badB; simp [*]), rfl⟩
set_option maxHeartbeats 1000000 in
theorem anyBad (s : ByteArray) (w : World) (hs : s.size ≤ maxLen) :
    Calls Tryz.prog 68 #[.string s, .func (.func 102) #[] #[]] w fun e w' => e = .returned (.bool (hasP badB s.data.toList)) ∧ w' = w := by
  unfold maxLen at hs
  go_enter Tryz.func68, Tryz.ntmps68
  go_wp2
  go_loop [8] (fun i => ∃ k : Nat, k ≤ s.size ∧ i = .int .i64 k ∧ (s.data.toList.take k).any badB = false) (fun i => s.size - (intOf i).toNat)
  case atStart => exact ⟨0, Nat.zero_le _, rfl, rfl⟩
  case round =>
    obtain ⟨k, hk, rfl, hno⟩ := hrel
    have HN : Hid ((s.data.toList.take k).any badB = false) := hno
    clear hno
    by_cases hlt : k < s.size
    · by_cases hb : badB s[k] = true
      · go_wp2_with (go_at_call 102; refine (bad_any _ _).mono ?_; rintro e w' ⟨rfl, rfl⟩)
        go_ret
        exact ⟨ret_bool (any_hit _ s k hlt hb), rfl⟩
      · have hb' : badB s[k] = false := by simpa using hb
        clear hb
        go_wp2_with (go_at_call 102; refine (bad_any _ _).mono ?_; rintro e w' ⟨rfl, rfl⟩)
        go_round
        case rel => exact ⟨k + 1, by omega, by go_num, any_snoc _ s k hlt HN.out hb'⟩
        case measure => simp [intOf]; omega
    · go_wp2
      go_ret
      exact ⟨ret_bool (any_end _ s k hlt HN.out), rfl⟩

theorem let_any (c : UInt8) (w : World) : Calls Tryz.prog 67 #[.int .u8 c.toNat] w fun e w' => e = .returned (.bool (noLet c)) ∧ w' = w := by
  go_enter Tryz.func67, Tryz.ntmps67
  go_wp2
  all_goals
    go_ret
    exact ⟨ret_bool (by unfold noLet; simp [*]), rfl⟩
set_option maxHeartbeats 1000000 in
theorem anyLet (s : ByteArray) (w : World) (hs : s.size ≤ maxLen) :
    Calls Tryz.prog 68 #[.string s, .func (.func 67) #[] #[]] w fun e w' => e = .returned (.bool (hasP noLet s.data.toList)) ∧ w' = w := by
  unfold maxLen at hs
  go_enter Tryz.func68, Tryz.ntmps68
  go_wp2
  go_loop [8] (fun i => ∃ k : Nat, k ≤ s.size ∧ i = .int .i64 k ∧ (s.data.toList.take k).any noLet = false) (fun i => s.size - (intOf i).toNat)
  case atStart => exact ⟨0, Nat.zero_le _, rfl, rfl⟩
  case round =>
    obtain ⟨k, hk, rfl, hno⟩ := hrel
    have HN : Hid ((s.data.toList.take k).any noLet = false) := hno
    clear hno
    by_cases hlt : k < s.size
    · by_cases hb : noLet s[k] = true
      · go_wp2_with (go_at_call 67; refine (let_any _ _).mono ?_; rintro e w' ⟨rfl, rfl⟩)
        go_ret
        exact ⟨ret_bool (any_hit _ s k hlt hb), rfl⟩
      · have hb' : noLet s[k] = false := by simpa using hb
        clear hb
        go_wp2_with (go_at_call 67; refine (let_any _ _).mono ?_; rintro e w' ⟨rfl, rfl⟩)
        go_round
        case rel => exact ⟨k + 1, by omega, by go_num, any_snoc _ s k hlt HN.out hb'⟩
        case measure => simp [intOf]; omega
    · go_wp2
      go_ret
      exact ⟨ret_bool (any_end _ s k hlt HN.out), rfl⟩

/-- isPrintable. -/
theorem isPrintable_any (s : ByteArray) (w : World) (hs : s.size ≤ maxLen) :
    Calls Tryz.prog 100 #[.string s] w fun e w' => e = .returned (.bool (!hasP badB s.data.toList)) ∧ w' = w := by
  go_enter Tryz.func100, Tryz.ntmps100
  go_wp2_with (go_at_call 68; refine (anyBad s _ hs).mono ?_; rintro e w' ⟨rfl, rfl⟩)
  go_ret
  exact ⟨rfl, rfl⟩
end Go.Proofs.YtkmkhadacppdnaaGreatDoor

/-
  What package value says, in plain functions of lists of bytes and integers: the fault of a value, a text in quotes, and back.
-/
namespace Go.Proofs.YtkmkhadacppdnaaGreatDoor
open Go.RowKit
set_option linter.unusedVariables false
set_option linter.unusedSimpArgs false

/-- Each quote twice. -/
def dbl : List UInt8 → List UInt8
  | [] => []
  | c :: r => if c = 39 then 39 :: 39 :: dbl r else c :: dbl r
/-- In quotes. -/
def quo (l : List UInt8) : List UInt8 := 39 :: (dbl l ++ [39])
/-- Back out of doubled quotes. -/
def und : List UInt8 → Option (List UInt8)
  | [] => some []
  | [c] => if c = 39 then none else some [c]
  | c :: d :: r => if c = 39 then (if d = 39 then (und r).map (39 :: ·) else none) else (und (d :: r)).map (c :: ·)

theorem dbl_snoc (l : List UInt8) (c : UInt8) : dbl (l ++ [c]) = dbl l ++ (if c = 39 then [39, 39] else [c]) := by
  induction l with
  | nil => by_cases h : c = 39 <;> simp [dbl, h]
  | cons a r ih => by_cases h : a = 39 <;> simp [dbl, h, ih]
theorem dbl_len (l : List UInt8) : l.length ≤ (dbl l).length ∧ (dbl l).length ≤ 2 * l.length := by
  induction l with
  | nil => simp [dbl]
  | cons a r ih => by_cases h : a = 39 <;> simp [dbl, h] <;> omega
theorem und_cons_ne (c : UInt8) (r : List UInt8) (h : c ≠ 39) : und (c :: r) = (und r).map (c :: ·) := by
  cases r with
  | nil => simp [und, h]
  | cons d r => simp [und, h]
theorem und_qq (r : List UInt8) : und (39 :: 39 :: r) = (und r).map (39 :: ·) := by simp [und]
theorem und_q_ne (d : UInt8) (r : List UInt8) (h : d ≠ 39) : und (39 :: d :: r) = none := by simp [und, h]
theorem und_q : und [39] = none := by simp [und]
theorem und_dbl (l : List UInt8) : und (dbl l) = some l := by
  induction l with
  | nil => simp [dbl, und]
  | cons a r ih =>
    by_cases h : a = 39
    · subst h; simp only [dbl, if_true]; rw [und_qq, ih]; rfl
    · simp only [dbl, h, if_false]; rw [und_cons_ne a _ h, ih]; rfl

/-- May a value of a type have the number? -/
def inR (t n : Int) : Bool := if t = 1 then decide (-1000000 ≤ n) && decide (n ≤ 1000000) else if t = 2 then decide (n = 0) || decide (n = 1) else decide (n = 0)
/-- The fault of a Text's bytes. -/
def tErr (l : List UInt8) : Int := if 20 < l.length then 4 else if hasP badB l = true then 2 else 0
/-- The fault of a value. -/
def vErr (t n : Int) (l : List UInt8) : Int := if t = 1 ∨ t = 2 ∨ t = 3 then (if inR t n = true then (if t = 3 then tErr l else if l = [] then 0 else 2) else 1) else 8
/-- An error, by its number. -/
def errV (e : Int) : Value := if e = 0 then .nilIface else .iface 65 (.int .i64 e)
/-- A value. -/
def val (t n : Int) (s : ByteArray) : Value := .agg #[.int .i64 t, .int .i64 n, .string s]

theorem errV_0 : errV 0 = .nilIface := rfl
theorem errV_1 : errV 1 = .iface 65 (.int .i64 1) := rfl
theorem errV_2 : errV 2 = .iface 65 (.int .i64 2) := rfl
theorem errV_4 : errV 4 = .iface 65 (.int .i64 4) := rfl
theorem errV_8 : errV 8 = .iface 65 (.int .i64 8) := rfl
theorem ret_v {a b : Value} (h : a = b) : Ending.returned a = .returned b := by rw [h]

theorem size_len (s : ByteArray) : s.size = s.data.toList.length := by rw [Array.length_toList]; rfl
theorem nil_of_empty (s : ByteArray) (h : s.data.toList = []) : s = ⟨#[]⟩ := by
  cases s with | mk d => congr 1; simpa using h

theorem inRange_any (t n : Int) (w : World) : Calls Tryz.prog 96 #[.int .i64 t, .int .i64 n] w fun e w' => e = .returned (.bool (inR t n)) ∧ w' = w := by
  by_cases h1 : t = 1
  · subst h1
    go_enter Tryz.func96, Tryz.ntmps96
    go_wp2
    all_goals
      go_ret
      exact ⟨ret_bool (by unfold inR; rw [Bool.eq_iff_iff]; simp <;> (try simp_all) <;> omega), rfl⟩
  by_cases h2 : t = 2
  · subst h2
    go_enter Tryz.func96, Tryz.ntmps96
    go_wp2
    all_goals
      go_ret
      exact ⟨ret_bool (by unfold inR; rw [Bool.eq_iff_iff]; simp <;> (try simp_all) <;> omega), rfl⟩
  go_enter Tryz.func96, Tryz.ntmps96
  go_wp2
  all_goals
    go_ret
    exact ⟨ret_bool (by unfold inR; rw [Bool.eq_iff_iff]; simp <;> (try simp_all) <;> omega), rfl⟩

theorem checkText_any (s : ByteArray) (w : World) (hs : s.size ≤ maxLen) : Calls Tryz.prog 97 #[.string s] w fun e w' => e = .returned (errV (tErr s.data.toList)) ∧ w' = w := by
  have hl := size_len s
  by_cases h1 : 20 < s.size
  · have e1 : tErr s.data.toList = 4 := by unfold tErr; rw [if_pos (by omega)]
    have H1 : Hid (tErr s.data.toList = 4) := e1
    clear e1 hl
    unfold maxLen at hs
    go_enter Tryz.func97, Tryz.ntmps97
    go_wp2
    go_ret
    exact ⟨ret_v (by rw [H1.out, errV_4]; rfl), rfl⟩
  · by_cases h2 : hasP badB s.data.toList = true
    · have e1 : tErr s.data.toList = 2 := by unfold tErr; rw [if_neg (by omega), if_pos h2]
      have H1 : Hid (tErr s.data.toList = 2) := e1
      clear e1 hl
      go_enter Tryz.func97, Tryz.ntmps97
      go_wp2_with (go_at_call 100; refine (isPrintable_any s _ hs).mono ?_; rintro e w' ⟨rfl, rfl⟩)
      go_ret
      exact ⟨ret_v (by rw [H1.out, errV_2]; rfl), rfl⟩
    · have h2' : hasP badB s.data.toList = false := by simpa using h2
      have e1 : tErr s.data.toList = 0 := by unfold tErr; rw [if_neg (by omega), if_neg h2]
      have H1 : Hid (tErr s.data.toList = 0) := e1
      clear e1 hl h2
      go_enter Tryz.func97, Tryz.ntmps97
      go_wp2_with (go_at_call 100; refine (isPrintable_any s _ hs).mono ?_; rintro e w' ⟨rfl, rfl⟩)
      go_ret
      exact ⟨ret_v (by rw [H1.out, errV_0]; rfl), rfl⟩
end Go.Proofs.YtkmkhadacppdnaaGreatDoor

/-
  The walks of package value: Check, checked, a text in quotes and back.
-/
namespace Go.Proofs.YtkmkhadacppdnaaGreatDoor
open Go.RowKit
set_option linter.unusedVariables false
set_option linter.unusedSimpArgs false

theorem nonE (s : ByteArray) (h : ¬ s.data.toList = []) : s.toList.isEmpty = false := by
  rw [← decide_eq_emptyBytes, decide_eq_false_iff_not]
  intro e; apply h; rw [e]; rfl
theorem isE (s : ByteArray) (h : s.data.toList = []) : s.toList.isEmpty = true := by
  rw [← decide_eq_emptyBytes, decide_eq_true_iff]
  exact nil_of_empty s h

set_option maxHeartbeats 1000000 in
theorem check_any (t n : Int) (s : ByteArray) (w : World) (hs : s.size ≤ maxLen) :
    Calls Tryz.prog 91 #[val t n s] w fun e w' => e = .returned (errV (vErr t n s.data.toList)) ∧ w' = w.alloc (.cells #[.int .i64 t, .int .i64 n, .string s] 35) := by
  unfold val
  by_cases ht : t = 1 ∨ t = 2 ∨ t = 3
  · by_cases hr : inR t n = true
    · by_cases h3 : t = 3
      · subst h3
        have e1 : vErr 3 n s.data.toList = tErr s.data.toList := by unfold vErr; rw [if_pos ht, if_pos hr, if_pos rfl]
        have H1 : Hid (vErr 3 n s.data.toList = tErr s.data.toList) := e1
        clear e1 ht
        go_enter Tryz.func91, Tryz.ntmps91
        go_wp2_with (first | (go_at_call 96; refine (inRange_any _ _ _).mono ?_; rintro e w' ⟨rfl, rfl⟩) | (go_at_call 97; refine (checkText_any s _ hs).mono ?_; rintro e w' ⟨rfl, rfl⟩))
        go_ret
        exact ⟨ret_v (by rw [H1.out]; rfl), rfl⟩
      · by_cases hl : s.data.toList = []
        · have e1 : vErr t n s.data.toList = 0 := by unfold vErr; rw [if_pos ht, if_pos hr, if_neg h3, if_pos hl]
          have H1 : Hid (vErr t n s.data.toList = 0) := e1
          obtain rfl := nil_of_empty s hl
          clear e1 hl
          have ht' : t = 1 ∨ t = 2 := by omega
          clear ht
          rcases ht' with rfl | rfl
          all_goals
            go_enter Tryz.func91, Tryz.ntmps91
            go_wp2_with (first | (go_at_call 96; refine (inRange_any _ _ _).mono ?_; rintro e w' ⟨rfl, rfl⟩))
            go_ret
            exact ⟨ret_v (by rw [H1.out, errV_0]; rfl), rfl⟩
        · have e1 : vErr t n s.data.toList = 2 := by unfold vErr; rw [if_pos ht, if_pos hr, if_neg h3, if_neg hl]
          have H1 : Hid (vErr t n s.data.toList = 2) := e1
          have hE : s.toList.isEmpty = false := nonE s hl
          clear e1 hl
          have ht' : t = 1 ∨ t = 2 := by omega
          clear ht
          rcases ht' with rfl | rfl
          all_goals
            go_enter Tryz.func91, Tryz.ntmps91
            go_wp2_with (first | (go_at_call 96; refine (inRange_any _ _ _).mono ?_; rintro e w' ⟨rfl, rfl⟩))
            go_ret
            exact ⟨ret_v (by rw [H1.out, errV_2]; rfl), rfl⟩
    · have hr' : inR t n = false := by simpa using hr
      have e1 : vErr t n s.data.toList = 1 := by unfold vErr; rw [if_pos ht, if_neg hr]
      have H1 : Hid (vErr t n s.data.toList = 1) := e1
      clear e1 hr
      rcases ht with rfl | rfl | rfl
      all_goals
        go_enter Tryz.func91, Tryz.ntmps91
        go_wp2_with (first | (go_at_call 96; refine (inRange_any _ _ _).mono ?_; rintro e w' ⟨rfl, rfl⟩))
        go_ret
        exact ⟨ret_v (by rw [H1.out, errV_1]; rfl), rfl⟩
  · have e1 : vErr t n s.data.toList = 8 := by unfold vErr; rw [if_neg ht]
    have H1 : Hid (vErr t n s.data.toList = 8) := e1
    have h1 : ¬ t = 1 := by omega
    have h2 : ¬ t = 2 := by omega
    have h3 : ¬ t = 3 := by omega
    have b1 : (t != 1) = true := by simpa using h1
    have b2 : (t != 2) = true := by simpa using h2
    have b3 : (t != 3) = true := by simpa using h3
    clear e1 ht h1 h2 h3
    go_enter Tryz.func91, Tryz.ntmps91
    go_wp2
    go_ret
    exact ⟨ret_v (by rw [H1.out, errV_8]; rfl), rfl⟩

end Go.Proofs.YtkmkhadacppdnaaGreatDoor

/-
  The walks of package value: Name.
-/
namespace Go.Proofs.YtkmkhadacppdnaaGreatDoor
open Go.RowKit
set_option linter.unusedVariables false
set_option linter.unusedSimpArgs false

theorem errV_ne {e : Int} (h : ¬ e = 0) : errV e = .iface 65 (.int .i64 e) := by unfold errV; rw [if_neg h]
theorem list_eq {s : ByteArray} {l : List UInt8} (h : s.data.toList = l) : s = ⟨l.toArray⟩ := by
  cases s with | mk d => congr 1; rw [← h]

/-- The fault of a name. -/
def nErr (l : List UInt8) : Int := if l = [] then 2 else if 8 < l.length then 2 else if hasP noLet l = true then 2 else 0

set_option maxHeartbeats 2000000 in
set_option maxRecDepth 100000 in
theorem name_any (s : ByteArray) (w : World) (hs : s.size ≤ maxLen) :
    Calls Tryz.prog 49 #[.string s] w fun e w' => e = .returned (errV (nErr s.data.toList)) ∧ w' = w := by
  by_cases hE : s.data.toList = []
  · obtain rfl := list_eq hE
    go_enter Tryz.func49, Tryz.ntmps49
    go_wp2
    go_ret
    exact ⟨rfl, rfl⟩
  · have bE : s.toList.isEmpty = false := nonE s hE
    have bN : ¬ s.toList = [] := by rw [Lib.toList_data]; exact hE
    have hsz := size_len s
    by_cases h8 : 8 < s.size
    · have H1 : Hid (nErr s.data.toList = 2) := by
        show _ = _
        unfold nErr; rw [if_neg hE, if_pos (by omega)]
      clear hE hsz
      unfold maxLen at hs
      go_enter Tryz.func49, Tryz.ntmps49
      go_wp2
      go_ret
      exact ⟨ret_v (by rw [H1.out]; rfl), rfl⟩
    · by_cases hb : hasP noLet s.data.toList = true
      · have H1 : Hid (nErr s.data.toList = 2) := by
          show _ = _
          unfold nErr; rw [if_neg hE, if_neg (by omega), if_pos hb]
        clear hE hsz
        go_enter Tryz.func49, Tryz.ntmps49
        go_wp2_with (go_at_call 68; refine (anyLet s _ hs).mono ?_; rintro e w' ⟨rfl, rfl⟩)
        go_ret
        exact ⟨ret_v (by rw [H1.out]; rfl), rfl⟩
      · have hb' : hasP noLet s.data.toList = false := by simpa using hb
        have H1 : Hid (nErr s.data.toList = 0) := by
          show _ = _
          unfold nErr; rw [if_neg hE, if_neg (by omega), if_neg hb]
        clear hE hsz hb
        go_enter Tryz.func49, Tryz.ntmps49
        go_wp2_with (go_at_call 68; refine (anyLet s _ hs).mono ?_; rintro e w' ⟨rfl, rfl⟩)
        go_ret
        exact ⟨ret_v (by rw [H1.out]; rfl), rfl⟩

end Go.Proofs.YtkmkhadacppdnaaGreatDoor

/-
  What package kind says, in plain functions: the fault of kinds, what one comes of, the fields of all of them; and how kinds lie in memory.
-/
namespace Go.Proofs.YtkmkhadacppdnaaGreatDoor
open Go.RowKit
set_option linter.unusedVariables false
set_option linter.unusedSimpArgs false

/-- A name. -/
abbrev Nm := List UInt8
/-- It as a string. -/
def bs (l : Nm) : ByteArray := ⟨l.toArray⟩
theorem bs_toList (l : Nm) : (bs l).toList = l := by rw [Lib.toList_data]; simp [bs]
theorem bs_data (l : Nm) : (bs l).data.toList = l := by simp [bs]
theorem bs_self (s : ByteArray) : bs s.toList = s := by rw [Lib.toList_data]; cases s; simp [bs]
theorem bs_size (l : Nm) : (bs l).size = l.length := by simp [bs, ByteArray.size]
attribute [simp, go_sem] bs_toList bs_data

/-- A field. -/
structure Fd where
  nm : Nm
  t : Int
  must : Bool
  key : Bool
/-- A kind; and the two slices that it has. -/
structure Kd where
  nm : Nm
  of : List Nm
  fs : List Fd
  vo : Value
  vf : Value
/-- Its cells. -/
def Fd.cells (f : Fd) : List Value := [.string (bs f.nm), .int .i64 f.t, .bool f.must, .bool f.key]
/-- It as one value. -/
abbrev Fd.one (f : Fd) : Value := .agg #[.string (bs f.nm), .int .i64 f.t, .bool f.must, .bool f.key]
/-- Its cells. -/
def Kd.cells (k : Kd) : List Value := [.string (bs k.nm), k.vo, k.vf]
/-- It as one value. -/
abbrev Kd.one (k : Kd) : Value := .agg #[.string (bs k.nm), k.vo, k.vf]

/-- Are two the same? -/
def feq (a b : Fd) : Bool := a.nm == b.nm && a.t == b.t && a.must == b.must && a.key == b.key
theorem feq_iff (a b : Fd) : feq a b = true ↔ a = b := by
  cases a; cases b
  simp [feq, and_assoc]

/-- The first of a name. -/
def idxK (nm : Nm) : List Kd → Nat → Int
  | [], _ => -1
  | p :: r, k => if (p.nm == nm) = true then k else idxK nm r (k + 1)
/-- A name is there. -/
def hasN (l : List Nm) (nm : Nm) : Bool := l.contains nm
/-- What stands behind from the last one on, of which the names are. -/
def back : List Kd → List Nm → List Kd
  | [], _ => []
  | k :: r, ns => if hasN ns k.nm = true then k :: back r (ns ++ k.of) else back r ns
/-- The last one and all it comes of. -/
def kinOf (L : List Kd) : List Kd := match L.getLast? with
  | none => []
  | some k => (back L.reverse [k.nm]).reverse
/-- How many are ahead of a name. -/
def lo (nm : Nm) : List Fd → Nat
  | [] => 0
  | g :: r => if Op.bytesLess g.nm nm = true then lo nm r + 1 else 0
/-- One field more. -/
def insF (all : List Fd) (f : Fd) : Option (List Fd) := match all[lo f.nm all]? with
  | some g => if (g.nm == f.nm) = true then (if feq g f = true then some all else none) else some (all.take (lo f.nm all) ++ f :: all.drop (lo f.nm all))
  | none => some (all.take (lo f.nm all) ++ f :: all.drop (lo f.nm all))
/-- Many more. -/
def fOf : List Fd → List Fd → Option (List Fd)
  | all, [] => some all
  | all, f :: r => match insF all f with
    | some a => fOf a r
    | none => none
/-- The fields of all. -/
def fieldsOf (K : List Kd) : Option (List Fd) := fOf [] (K.flatMap Kd.fs)
/-- The fault of one field, behind another one. -/
def fBad (o : Option Fd) (f : Fd) : Int :=
  if nErr f.nm = 0 then (if f.t = 1 ∨ f.t = 2 ∨ f.t = 3 then (if (f.key && !f.must) = true then 3 else (match o with
    | none => 0
    | some q => if (Op.bytesLess f.nm q.nm || f.nm == q.nm) = true then 7 else 0)) else 8) else nErr f.nm
/-- The fault of fields. -/
def fChk : Option Fd → List Fd → Int
  | _, [] => 0
  | o, f :: r => if fBad o f = 0 then fChk (some f) r else fBad o f
/-- The fault of what one comes of. -/
def oChk (A : List Kd) : List Nm → List Nm → Int
  | _, [] => 0
  | seen, n :: r => if idxK n A 0 = -1 then 5 else if hasN seen n = true then 7 else oChk A (seen ++ [n]) r
/-- The fault of all fields. -/
def aErr (o : Option (List Fd)) : Int := match o with
  | none => 7
  | some l => if 8 < l.length then 4 else 0
/-- The fault of a kind, behind others. -/
def kErr (A : List Kd) (k : Kd) : Int :=
  if nErr k.nm = 0 then (if idxK k.nm A 0 = -1 then (if 4 < k.of.length ∨ 8 < k.fs.length then 4 else
    (if oChk A [] k.of = 0 then (if fChk none k.fs = 0 then aErr (fieldsOf (kinOf (A ++ [k]))) else fChk none k.fs) else oChk A [] k.of)) else 7) else nErr k.nm
/-- The first that is wrong; its fault. -/
def ksGo : List Kd → List Kd → Nm × Int
  | _, [] => ([], 0)
  | A, k :: r => if kErr A k = 0 then ksGo (A ++ [k]) r else (k.nm, kErr A k)
def ksErr (L : List Kd) : Nm × Int := if 12 < L.length then ([], 4) else ksGo [] L
/-- The fault of a name that is looked up. -/
def nmErr (L : List Kd) (a : Nm) : Int := if (ksErr L).2 = 0 then (if idxK a L 0 = -1 then 5 else 0) else (ksErr L).2
/-- Where it is. -/
def nmAt (L : List Kd) (a : Nm) : Nat := (idxK a L 0).toNat
/-- All it comes of. -/
def kin (L : List Kd) (a : Nm) : List Kd := kinOf (L.take (nmAt L a + 1))
/-- All that come of it. -/
def unds (L : List Kd) (a : Nm) : List Nat → List Nm
  | [] => []
  | i :: r => match L[i]? with
    | some k => if idxK a (kinOf (L.take (i + 1))) 0 = -1 then unds L a r else k.nm :: unds L a r
    | none => unds L a r
def under (L : List Kd) (a : Nm) : List Nm := unds L a (List.range L.length)
/-- Its fields. -/
def fields (L : List Kd) (a : Nm) : List Fd := (fieldsOf (kin L a)).getD []

/-- Strings lie there. -/
def LiesS (w : World) (b off : Nat) (l : List Nm) : Prop := ∀ k n, l[k]? = some n → w.cell? ⟨b, off + k, none⟩ = some (.string (bs n))
/-- The value is this list of strings. -/
def IsS (w : World) (v : Value) (l : List Nm) : Prop :=
  (∃ ao c, v = .slice ao 0 c ∧ l = [] ∧ c ≤ maxLen ∧ (ao = none → c = 0)) ∨ ∃ b off cap, v = .slice (some ⟨b, off, none⟩) l.length cap ∧ l.length ≤ cap ∧ cap ≤ maxLen ∧ b < w.heap.size ∧ LiesS w b off l
/-- Fields lie there. -/
def LiesF (w : World) (b off : Nat) (l : List Fd) : Prop := ∀ k f, l[k]? = some f →
  w.cell? ⟨b, off + k * 4, none⟩ = some (.string (bs f.nm)) ∧ w.cell? ⟨b, off + k * 4 + 1, none⟩ = some (.int .i64 f.t) ∧ w.cell? ⟨b, off + k * 4 + 2, none⟩ = some (.bool f.must) ∧ w.cell? ⟨b, off + k * 4 + 3, none⟩ = some (.bool f.key)
/-- The value is this list of fields. -/
def IsF (w : World) (v : Value) (l : List Fd) : Prop :=
  (∃ ao c, v = .slice ao 0 c ∧ l = [] ∧ c ≤ maxLen ∧ (ao = none → c = 0)) ∨ ∃ b off cap, v = .slice (some ⟨b, off, none⟩) l.length cap ∧ l.length ≤ cap ∧ cap ≤ maxLen ∧ b < w.heap.size ∧ LiesF w b off l
/-- Kinds lie there. -/
def LiesK (w : World) (b off : Nat) (l : List Kd) : Prop := ∀ i k, l[i]? = some k →
  w.cell? ⟨b, off + i * 3, none⟩ = some (.string (bs k.nm)) ∧ w.cell? ⟨b, off + i * 3 + 1, none⟩ = some k.vo ∧ w.cell? ⟨b, off + i * 3 + 2, none⟩ = some k.vf
/-- What they have lies there. -/
def Parts (w : World) (l : List Kd) : Prop := ∀ k ∈ l, IsS w k.vo k.of ∧ IsF w k.vf k.fs
/-- The value is this list of kinds. -/
def IsK (w : World) (v : Value) (l : List Kd) : Prop :=
  (v = .slice none 0 0 ∧ l = []) ∨ ∃ b off cap, v = .slice (some ⟨b, off, none⟩) l.length cap ∧ l.length ≤ cap ∧ cap ≤ maxLen ∧ b < w.heap.size ∧ LiesK w b off l

theorem LiesS.on {w w' : World} {b off : Nat} {l : List Nm} (h : LiesS w b off l) (hb : b < w.heap.size) (hB : Below w.heap.size w w') : LiesS w' b off l := fun k n hn => (hB.cell hb).trans (h k n hn)
theorem IsS.on {w w' : World} {v : Value} {l : List Nm} (h : IsS w v l) (hB : Below w.heap.size w w') : IsS w' v l := by
  rcases h with h | ⟨b, off, cap, hv, hc, hm, hb, hl⟩
  · exact .inl h
  · exact .inr ⟨b, off, cap, hv, hc, hm, Nat.lt_of_lt_of_le hb hB.size, hl.on hb hB⟩
theorem LiesF.on {w w' : World} {b off : Nat} {l : List Fd} (h : LiesF w b off l) (hb : b < w.heap.size) (hB : Below w.heap.size w w') : LiesF w' b off l := fun k p hp => by
  obtain ⟨c0, c1, c2, c3⟩ := h k p hp
  exact ⟨(hB.cell hb).trans c0, (hB.cell hb).trans c1, (hB.cell hb).trans c2, (hB.cell hb).trans c3⟩
theorem IsF.on {w w' : World} {v : Value} {l : List Fd} (h : IsF w v l) (hB : Below w.heap.size w w') : IsF w' v l := by
  rcases h with h | ⟨b, off, cap, hv, hc, hm, hb, hl⟩
  · exact .inl h
  · exact .inr ⟨b, off, cap, hv, hc, hm, Nat.lt_of_lt_of_le hb hB.size, hl.on hb hB⟩
theorem LiesK.on {w w' : World} {b off : Nat} {l : List Kd} (h : LiesK w b off l) (hb : b < w.heap.size) (hB : Below w.heap.size w w') : LiesK w' b off l := fun k p hp => by
  obtain ⟨c0, c1, c2⟩ := h k p hp
  exact ⟨(hB.cell hb).trans c0, (hB.cell hb).trans c1, (hB.cell hb).trans c2⟩
theorem IsK.on {w w' : World} {v : Value} {l : List Kd} (h : IsK w v l) (hB : Below w.heap.size w w') : IsK w' v l := by
  rcases h with h | ⟨b, off, cap, hv, hc, hm, hb, hl⟩
  · exact .inl h
  · exact .inr ⟨b, off, cap, hv, hc, hm, Nat.lt_of_lt_of_le hb hB.size, hl.on hb hB⟩
theorem Parts.on {w w' : World} {l : List Kd} (h : Parts w l) (hB : Below w.heap.size w w') : Parts w' l := fun k hk => ⟨(h k hk).1.on hB, (h k hk).2.on hB⟩
theorem Parts.sub {w : World} {l m : List Kd} (h : Parts w l) (hs : ∀ k ∈ m, k ∈ l) : Parts w m := fun k hk => h k (hs k hk)
theorem LiesS.take {w : World} {b off : Nat} {l : List Nm} (h : LiesS w b off l) (i : Nat) : LiesS w b off (l.take i) := fun k n hn => by
  rw [List.getElem?_take] at hn
  split at hn
  · exact h k n hn
  · cases hn
theorem LiesK.take {w : World} {b off : Nat} {l : List Kd} (h : LiesK w b off l) (i : Nat) : LiesK w b off (l.take i) := fun k n hn => by
  rw [List.getElem?_take] at hn
  split at hn
  · exact h k n hn
  · cases hn

theorem idxK_spec (nm : Nm) (L : List Kd) : ∀ k, idxK nm L k = -1 ∨ ∃ j q, idxK nm L k = ((k + j : Nat) : Int) ∧ L[j]? = some q ∧ q.nm = nm := by
  induction L with
  | nil => intro k; left; rfl
  | cons p r ih =>
    intro k
    by_cases h : (p.nm == nm) = true
    · right; exact ⟨0, p, by unfold idxK; rw [if_pos h]; simp, rfl, by simpa using h⟩
    · have e : idxK nm (p :: r) k = idxK nm r (k + 1) := by
        conv => lhs; unfold idxK
        rw [if_neg h]
      rw [e]
      rcases ih (k + 1) with h1 | ⟨j, q, h1, h2, h3⟩
      · exact .inl h1
      · exact .inr ⟨j + 1, q, by rw [h1]; congr 1; omega, by simpa using h2, h3⟩
theorem dropK {α : Type} {L : List α} {k : Nat} {p : α} (h : L[k]? = some p) : L.drop k = p :: L.drop (k + 1) := by
  obtain ⟨hk, rfl⟩ := List.getElem?_eq_some_iff.1 h
  exact List.drop_eq_getElem_cons hk
theorem takeK {α : Type} {L : List α} {k : Nat} {p : α} (h : L[k]? = some p) : L.take (k + 1) = L.take k ++ [p] := by
  rw [List.take_add_one, h]; rfl

end Go.Proofs.YtkmkhadacppdnaaGreatDoor
