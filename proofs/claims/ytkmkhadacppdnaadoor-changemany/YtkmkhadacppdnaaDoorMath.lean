/-
  What package value says, in plain functions of lists of bytes and integers: the fault of a value, a text in quotes, and back.
-/
import Derived.Test.YtkmkhadacppdnaaDoorWalkA
namespace Go.Proofs.YtkmkhadacppdnaaDoor
open Go.RowKit
set_option linter.unusedVariables false
set_option linter.unusedSimpArgs false

/-- Each quote twice. -/
def dbl : List UInt8 → List UInt8
  | [] => []
  | c :: r => if c = 39 then 39 :: 39 :: dbl r else c :: dbl r
/-- In quotes. -/
def quo (l : List UInt8) : List UInt8 := 39 :: (dbl l ++ [39])
/-- Back out of doubled quotes. -/
def und : List UInt8 → Option (List UInt8)
  | [] => some []
  | [c] => if c = 39 then none else some [c]
  | c :: d :: r => if c = 39 then (if d = 39 then (und r).map (39 :: ·) else none) else (und (d :: r)).map (c :: ·)

theorem dbl_snoc (l : List UInt8) (c : UInt8) : dbl (l ++ [c]) = dbl l ++ (if c = 39 then [39, 39] else [c]) := by
  induction l with
  | nil => by_cases h : c = 39 <;> simp [dbl, h]
  | cons a r ih => by_cases h : a = 39 <;> simp [dbl, h, ih]
theorem dbl_len (l : List UInt8) : l.length ≤ (dbl l).length ∧ (dbl l).length ≤ 2 * l.length := by
  induction l with
  | nil => simp [dbl]
  | cons a r ih => by_cases h : a = 39 <;> simp [dbl, h] <;> omega
theorem und_cons_ne (c : UInt8) (r : List UInt8) (h : c ≠ 39) : und (c :: r) = (und r).map (c :: ·) := by
  cases r with
  | nil => simp [und, h]
  | cons d r => simp [und, h]
theorem und_qq (r : List UInt8) : und (39 :: 39 :: r) = (und r).map (39 :: ·) := by simp [und]
theorem und_q_ne (d : UInt8) (r : List UInt8) (h : d ≠ 39) : und (39 :: d :: r) = none := by simp [und, h]
theorem und_q : und [39] = none := by simp [und]
theorem und_dbl (l : List UInt8) : und (dbl l) = some l := by
  induction l with
  | nil => simp [dbl, und]
  | cons a r ih =>
    by_cases h : a = 39
    · subst h; simp only [dbl, if_true]; rw [und_qq, ih]; rfl
    · simp only [dbl, h, if_false]; rw [und_cons_ne a _ h, ih]; rfl

/-- May a value of a type have the number? -/
def inR (t n : Int) : Bool := if t = 1 then decide (-1000000 ≤ n) && decide (n ≤ 1000000) else if t = 2 then decide (n = 0) || decide (n = 1) else decide (n = 0)
/-- The fault of a Text's bytes. -/
def tErr (l : List UInt8) : Int := if 20 < l.length then 4 else if hasP badB l = true then 2 else 0
/-- The fault of a value. -/
def vErr (t n : Int) (l : List UInt8) : Int := if t = 1 ∨ t = 2 ∨ t = 3 then (if inR t n = true then (if t = 3 then tErr l else if l = [] then 0 else 2) else 1) else 8
/-- An error, by its number. -/
def errV (e : Int) : Value := if e = 0 then .nilIface else .iface 48 (.int .i64 e)
/-- A value. -/
def val (t n : Int) (s : ByteArray) : Value := .agg #[.int .i64 t, .int .i64 n, .string s]

theorem errV_0 : errV 0 = .nilIface := rfl
theorem errV_1 : errV 1 = .iface 48 (.int .i64 1) := rfl
theorem errV_2 : errV 2 = .iface 48 (.int .i64 2) := rfl
theorem errV_4 : errV 4 = .iface 48 (.int .i64 4) := rfl
theorem errV_8 : errV 8 = .iface 48 (.int .i64 8) := rfl
theorem ret_v {a b : Value} (h : a = b) : Ending.returned a = .returned b := by rw [h]

theorem size_len (s : ByteArray) : s.size = s.data.toList.length := by rw [Array.length_toList]; rfl
theorem nil_of_empty (s : ByteArray) (h : s.data.toList = []) : s = ⟨#[]⟩ := by
  cases s with | mk d => congr 1; simpa using h

theorem inRange_any (t n : Int) (w : World) : Calls Tryd.prog 73 #[.int .i64 t, .int .i64 n] w fun e w' => e = .returned (.bool (inR t n)) ∧ w' = w := by
  by_cases h1 : t = 1
  · subst h1
    go_enter Tryd.func73, Tryd.ntmps73
    go_wp2
    all_goals
      go_ret
      exact ⟨ret_bool (by unfold inR; rw [Bool.eq_iff_iff]; simp <;> (try simp_all) <;> omega), rfl⟩
  by_cases h2 : t = 2
  · subst h2
    go_enter Tryd.func73, Tryd.ntmps73
    go_wp2
    all_goals
      go_ret
      exact ⟨ret_bool (by unfold inR; rw [Bool.eq_iff_iff]; simp <;> (try simp_all) <;> omega), rfl⟩
  go_enter Tryd.func73, Tryd.ntmps73
  go_wp2
  all_goals
    go_ret
    exact ⟨ret_bool (by unfold inR; rw [Bool.eq_iff_iff]; simp <;> (try simp_all) <;> omega), rfl⟩

theorem checkText_any (s : ByteArray) (w : World) (hs : s.size ≤ maxLen) : Calls Tryd.prog 74 #[.string s] w fun e w' => e = .returned (errV (tErr s.data.toList)) ∧ w' = w := by
  have hl := size_len s
  by_cases h1 : 20 < s.size
  · have e1 : tErr s.data.toList = 4 := by unfold tErr; rw [if_pos (by omega)]
    have H1 : Hid (tErr s.data.toList = 4) := e1
    clear e1 hl
    unfold maxLen at hs
    go_enter Tryd.func74, Tryd.ntmps74
    go_wp2
    go_ret
    exact ⟨ret_v (by rw [H1.out, errV_4]; rfl), rfl⟩
  · by_cases h2 : hasP badB s.data.toList = true
    · have e1 : tErr s.data.toList = 2 := by unfold tErr; rw [if_neg (by omega), if_pos h2]
      have H1 : Hid (tErr s.data.toList = 2) := e1
      clear e1 hl
      go_enter Tryd.func74, Tryd.ntmps74
      go_wp2_with (go_at_call 77; refine (isPrintable_any s _ hs).mono ?_; rintro e w' ⟨rfl, rfl⟩)
      go_ret
      exact ⟨ret_v (by rw [H1.out, errV_2]; rfl), rfl⟩
    · have h2' : hasP badB s.data.toList = false := by simpa using h2
      have e1 : tErr s.data.toList = 0 := by unfold tErr; rw [if_neg (by omega), if_neg h2]
      have H1 : Hid (tErr s.data.toList = 0) := e1
      clear e1 hl h2
      go_enter Tryd.func74, Tryd.ntmps74
      go_wp2_with (go_at_call 77; refine (isPrintable_any s _ hs).mono ?_; rintro e w' ⟨rfl, rfl⟩)
      go_ret
      exact ⟨ret_v (by rw [H1.out, errV_0]; rfl), rfl⟩
end Go.Proofs.YtkmkhadacppdnaaDoor
