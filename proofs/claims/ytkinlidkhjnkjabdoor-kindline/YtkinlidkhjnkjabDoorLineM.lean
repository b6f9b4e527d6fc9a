/-
  Kinds in a row, each of the one ahead: what package kind says of them, by reckoning.
-/
import Derived.Test.YtkinlidkhjnkjabDoorKinM
namespace Go.Proofs.YtkinlidkhjnkjabDoor
open Go.RowKit
set_option linter.unusedVariables false
set_option linter.unusedSimpArgs false

/-- Two letters of a number. -/
def nmL (i : Nat) : Nm := [97, UInt8.ofNat (97 + i)]
/-- The kind at a place of the row. -/
def lineK (V : Nat → Value × Value) (i : Nat) : Kd := ⟨nmL i, if i = 0 then [] else [nmL (i - 1)], [⟨nmL i, 1, false, false⟩], (V i).1, (V i).2⟩
/-- So many. -/
def line (V : Nat → Value × Value) : Nat → List Kd
  | 0 => []
  | n + 1 => line V n ++ [lineK V n]
/-- All that the law asks, as one test. -/
def lineOk (V : Nat → Value × Value) (n a : Nat) : Bool :=
  (kin (line V n) (nmL a)).length == a + 1 && (under (line V n) (nmL a)).length == n - a && (fields (line V n) (nmL a)).length == a + 1 && decide (nmErr (line V n) (nmL a) = 0)
/-- .. and of a name that is none. -/
def lineNo (V : Nat → Value × Value) (n : Nat) : Bool := decide (nmErr (line V n) [122, 122, 122] = 5)
set_option maxRecDepth 100000 in
theorem line_no (V : Nat → Value × Value) (n : Nat) (h1 : 1 ≤ n) (h2 : n ≤ 8) : lineNo V n = true := by
  obtain rfl | rfl | rfl | rfl | rfl | rfl | rfl | rfl : n = 1 ∨ n = 2 ∨ n = 3 ∨ n = 4 ∨ n = 5 ∨ n = 6 ∨ n = 7 ∨ n = 8 := by omega
  all_goals kernel_rfl
set_option maxRecDepth 100000 in
theorem line_ok (V : Nat → Value × Value) (n a : Nat) (h1 : a < n) (h2 : n ≤ 8) : lineOk V n a = true := by
  obtain rfl | rfl | rfl | rfl | rfl | rfl | rfl | rfl : n = 1 ∨ n = 2 ∨ n = 3 ∨ n = 4 ∨ n = 5 ∨ n = 6 ∨ n = 7 ∨ n = 8 := by omega
  all_goals
    obtain rfl | h : a = 0 ∨ 0 < a := by omega
    · kernel_rfl
    obtain rfl | h : a = 1 ∨ 1 < a := by omega
    · first | (exfalso; omega) | kernel_rfl
    obtain rfl | h : a = 2 ∨ 2 < a := by omega
    · first | (exfalso; omega) | kernel_rfl
    obtain rfl | h : a = 3 ∨ 3 < a := by omega
    · first | (exfalso; omega) | kernel_rfl
    obtain rfl | h : a = 4 ∨ 4 < a := by omega
    · first | (exfalso; omega) | kernel_rfl
    obtain rfl | h : a = 5 ∨ 5 < a := by omega
    · first | (exfalso; omega) | kernel_rfl
    obtain rfl | h : a = 6 ∨ 6 < a := by omega
    · first | (exfalso; omega) | kernel_rfl
    obtain rfl | h : a = 7 ∨ 7 < a := by omega
    · first | (exfalso; omega) | kernel_rfl
    · omega
theorem line_len (V : Nat → Value × Value) (n : Nat) : (line V n).length = n := by
  induction n with
  | zero => rfl
  | succ n ih => simp [line, ih]
theorem line_at (V : Nat → Value × Value) (n i : Nat) (h : i < n) : (line V n)[i]? = some (lineK V i) := by
  induction n with
  | zero => omega
  | succ n ih =>
    unfold line
    by_cases h2 : i < n
    · rw [List.getElem?_append_left (by rw [line_len]; exact h2)]; exact ih h2
    · obtain rfl : i = n := by omega
      rw [List.getElem?_append_right (by rw [line_len]; exact Nat.le_refl _), line_len]; simp
end Go.Proofs.YtkinlidkhjnkjabDoor
