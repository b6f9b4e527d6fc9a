/-
  The walks of package value: unquoted at every text, checked, parseText.
-/
import Derived.Test.YtmgkdghkenpmbaaGreatDoorWalkD
namespace Go.Proofs.YtmgkdghkenpmbaaGreatDoor
open Go.RowKit
set_option linter.unusedVariables false
set_option linter.unusedSimpArgs false

/-- A text out of its quotes. -/
def unqL : List UInt8 → Option (List UInt8)
  | [] => none
  | c :: r => if c = 39 ∧ r.getLast? = some 39 then und r.dropLast else none

theorem inner_list (s : ByteArray) (hs : 2 ≤ s.size) : s.data.toList = s[0] :: ((inner s).data.toList ++ [s[s.size - 1]]) := by
  have e1 : (inner s).data.toList = (s.data.toList.take (s.size - 1)).drop 1 := by
    unfold inner; rw [ByteArray.data_extract, Array.toList_extract, List.extract_eq_take_drop, List.drop_take]
  have e2 : s.data.toList = s[0] :: s.data.toList.drop 1 := by
    have := drop_cons s 0 (by omega)
    simpa using this
  have e3 : s.data.toList = s.data.toList.take (s.size - 1) ++ [s[s.size - 1]] := by
    have := take_snoc s (s.size - 1) (by omega)
    rw [← this, show s.size - 1 + 1 = s.size by omega, List.take_of_length_le (by rw [← size_len]; omega)]
  have e4 : s.data.toList.take (s.size - 1) = s[0] :: (inner s).data.toList := by
    rw [e1]
    have : (s.data.toList.take (s.size - 1)) = s[0] :: (s.data.toList.take (s.size - 1)).drop 1 := by
      conv => lhs; rw [e2]
      conv => rhs; rw [e2]
      obtain ⟨m, hm⟩ : ∃ m, s.size - 1 = m + 1 := ⟨s.size - 2, by omega⟩
      rw [hm, List.take_succ_cons]; simp
    exact this
  rw [e3, e4]; rfl

theorem unqL_short (s : ByteArray) (hs : s.size < 2) : unqL s.data.toList = none := by
  rw [size_len] at hs
  cases h : s.data.toList with
  | nil => rfl
  | cons c r =>
    rw [h] at hs
    cases r with
    | nil => simp [unqL]
    | cons d r => simp at hs; omega
theorem unqL_in (s : ByteArray) (hs : 2 ≤ s.size) : unqL s.data.toList = if s[0] = 39 ∧ s[s.size - 1] = 39 then und (inner s).data.toList else none := by
  rw [inner_list s hs]; simp [unqL]

theorem unquoted_any (s : ByteArray) (w : World) (hs0 : s.size ≤ 140737488355328) :
    Calls Tryz.prog 99 #[.string s] w fun e w' => e = .returned (unqV (unqL s.data.toList)) ∧ Below w.heap.size w w' := by
  by_cases hs : 2 ≤ s.size
  · rw [unqL_in s hs]
    by_cases h0 : s[0] = 39
    · by_cases h1 : s[s.size - 1] = 39
      · rw [if_pos ⟨h0, h1⟩]; exact unquoted_in s w hs0 hs h0 h1
      · rw [if_neg (fun h => h1 h.2)]
        refine (unquoted_last s w hs0 hs h0 (ne39b h1)).mono ?_
        rintro e w' ⟨rfl, rfl⟩
        exact ⟨rfl, Below.refl _ _⟩
    · rw [if_neg (fun h => h0 h.1)]
      refine (unquoted_first s w hs0 hs (ne39 h0)).mono ?_
      rintro e w' ⟨rfl, rfl⟩
      exact ⟨rfl, Below.refl _ _⟩
  · rw [unqL_short s (by omega)]
    refine (unquoted_short s w (by omega)).mono ?_
    rintro e w' ⟨rfl, rfl⟩
    exact ⟨rfl, Below.refl _ _⟩

/-- A value, or the error alone. -/
def resV (e t n : Int) (s : ByteArray) : Value := if e = 0 then .tuple #[val t n s, .nilIface] else .tuple #[val 0 0 ⟨#[]⟩, errV e]

theorem vErr_cases (t n : Int) (l : List UInt8) : vErr t n l = 0 ∨ vErr t n l = 1 ∨ vErr t n l = 2 ∨ vErr t n l = 4 ∨ vErr t n l = 8 := by
  unfold vErr tErr; repeat' split
  all_goals simp

set_option maxHeartbeats 2000000 in
set_option maxRecDepth 100000 in
theorem checked_any (t n : Int) (s : ByteArray) (w : World) (hs : s.size ≤ maxLen) :
    Calls Tryz.prog 100 #[val t n s] w fun e w' => e = .returned (resV (vErr t n s.data.toList) t n s) ∧ Below w.heap.size w w' := by
  unfold val
  by_cases h0 : vErr t n s.data.toList = 0
  · go_enter Tryz.func100, Tryz.ntmps100
    go_wp2_with (go_at_call 62; refine (check_any t n s _ hs).mono ?_; rintro e w' ⟨rfl, rfl⟩; rw [h0, errV_0])
    exact bodyPost_ret (v := .tuple #[val t n s, .nilIface]) (by simp [results, Tryz.results100, go_sem, val]) rfl ⟨ret_v (by rw [h0]; rfl), (((Below.refl _ _).alloc (Nat.le_refl _) _).alloc (by simp) _).alloc (by simp; omega) _⟩
  · rcases vErr_cases t n s.data.toList with h | h | h | h | h
    · exact absurd h h0
    all_goals
      clear h0
      go_enter Tryz.func100, Tryz.ntmps100
      go_wp2_with (go_at_call 62; refine (check_any t n s _ hs).mono ?_; rintro e w' ⟨rfl, rfl⟩; rw [h]; first | rw [errV_1] | rw [errV_2] | rw [errV_4] | rw [errV_8])
      exact bodyPost_ret (v := .tuple #[val 0 0 ⟨#[]⟩, errV (vErr t n s.data.toList)]) (by rw [h]; simp [results, Tryz.results100, go_sem, val, errV]) rfl ⟨ret_v (by rw [h]; rfl), (((Below.refl _ _).alloc (Nat.le_refl _) _).alloc (by simp) _).alloc (by simp; omega) _⟩
end Go.Proofs.YtmgkdghkenpmbaaGreatDoor
