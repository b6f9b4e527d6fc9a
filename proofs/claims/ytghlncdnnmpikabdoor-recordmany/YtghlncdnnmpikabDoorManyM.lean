/-
  The law RecordMany: its names and numbers, and what its records are.
-/
import Derived.Test.YtghlncdnnmpikabDoorRecE
import Derived.Test.YtghlncdnnmpikabDoorTellsC
namespace Go.Proofs.YtghlncdnnmpikabDoor
open Go.RowKit
set_option linter.unusedVariables false
set_option linter.unusedSimpArgs false

/-- Two letters of a number. -/
def nmOf (k : Nat) : ByteArray := ⟨#[97, UInt8.ofNat (97 + k)]⟩
/-- The property that is set at a round. -/
def prOf (n j : Nat) : Pr := ⟨nmOf (n - j), 1, j, ⟨#[]⟩⟩
/-- The record behind so many rounds. -/
def recOf (n : Nat) : Nat → List Pr
  | 0 => []
  | k + 1 => prOf n k :: recOf n k

theorem nm_list (a : Nat) : (nmOf a).toList = [97, UInt8.ofNat (97 + a)] := Lib.toList_data _
theorem nm_ok : ∀ a, a < 13 → nErr (nmOf a).data.toList = 0 := by decide
theorem nm_lt : ∀ a, a < 13 → ∀ b, b < 13 → a < b → Op.bytesLess [97, UInt8.ofNat (97 + a)] [97, UInt8.ofNat (97 + b)] = true ∧ Op.bytesLess [97, UInt8.ofNat (97 + b)] [97, UInt8.ofNat (97 + a)] = false ∧ (([97, UInt8.ofNat (97 + a)] : List UInt8) == [97, UInt8.ofNat (97 + b)]) = false ∧ (([97, UInt8.ofNat (97 + b)] : List UInt8) == [97, UInt8.ofNat (97 + a)]) = false := by decide

theorem rec_len (n k : Nat) : (recOf n k).length = k := by
  induction k with
  | zero => rfl
  | succ k ih => simp [recOf, ih]
theorem bad_ok (nm : ByteArray) (j : Nat) (h : j < 100) : (⟨nm, 1, j, ⟨#[]⟩⟩ : Pr).bad = 0 := by
  have : inR 1 (j : Int) = true := by simp [inR]; omega
  simp [Pr.bad, vErr, this]

theorem pr_ok (n k : Nat) (h : n < 13) : nErr (prOf n k).l = 0 := nm_ok _ (by omega)
theorem pr_bad (n k : Nat) (h : k < 100) : (prOf n k).bad = 0 := bad_ok _ _ h

/-- One lies behind another by name. -/
theorem low_no {p q : Pr} {a b : Nat} (hp : p.nm = nmOf a) (hq : q.nm = nmOf b) (ha : a < 13) (hb : b < 13) (h : b < a) : p.low q = false := by
  unfold Pr.low
  rw [hp, hq, nm_list, nm_list, (nm_lt b hb a ha h).2.1, (nm_lt b hb a ha h).2.2.2]; rfl
theorem lt_yes {p q : Pr} {a b : Nat} (hp : p.nm = nmOf a) (hq : q.nm = nmOf b) (ha : a < 13) (hb : b < 13) (h : a < b) : p.lt q = true := by
  unfold Pr.lt
  rw [hp, hq, nm_list, nm_list, (nm_lt a ha b hb h).1]
theorem lt_no {p q : Pr} {a b : Nat} (hp : p.nm = nmOf a) (hq : q.nm = nmOf b) (ha : a < 13) (hb : b < 13) (h : b < a) : ¬ p.lt q = true := by
  unfold Pr.lt
  rw [hp, hq, nm_list, nm_list, (nm_lt b hb a ha h).2.1]; decide
theorem eq_no {p q : Pr} {a b : Nat} (hp : p.nm = nmOf a) (hq : q.nm = nmOf b) (ha : a < 13) (hb : b < 13) (h : b < a) : ¬ (p.nm.toList == q.nm.toList) = true := by
  rw [hp, hq, nm_list, nm_list, (nm_lt b hb a ha h).2.2.2]; decide
theorem eq_no' {p q : Pr} {a b : Nat} (hp : p.nm = nmOf a) (hq : q.nm = nmOf b) (ha : a < 13) (hb : b < 13) (h : a < b) : ¬ (p.nm.toList == q.nm.toList) = true := by
  rw [hp, hq, nm_list, nm_list, (nm_lt a ha b hb h).2.2.1]; decide

theorem chk_rec (n : Nat) (hn : n < 13) (k : Nat) (hk : k < n) : ∀ p : Pr, p.nm = nmOf (n - k) → chk (some p) (recOf n k) = 0 := by
  induction k with
  | zero => intro p _; rfl
  | succ k ih =>
    intro p hp
    show chk (some p) (prOf n k :: recOf n k) = 0
    rw [chk_up (pr_ok n k hn) (pr_bad n k (by omega)) (low_no rfl hp (by omega) (by omega) (by omega))]
    exact ih (by omega) _ rfl
theorem rErr_rec (n : Nat) (hn : n < 13) (k : Nat) (hk : k ≤ n) (h8 : k ≤ 8) : rErr (recOf n k) = 0 := by
  unfold rErr
  rw [if_neg (by rw [rec_len]; omega)]
  cases k with
  | zero => rfl
  | succ k =>
    show chk none (prOf n k :: recOf n k) = 0
    rw [chk_first (pr_ok n k hn) (pr_bad n k (by omega))]
    exact chk_rec n hn k (by omega) _ rfl
theorem rErr_one (p : Pr) (a : Nat) (h1 : p.nm = nmOf a) (ha : a < 13) (h2 : p.bad = 0) : rErr [p] = 0 := by
  have h0 : nErr p.l = 0 := by unfold Pr.l; rw [h1]; exact nm_ok a ha
  unfold rErr
  rw [if_neg (by simp), chk_first h0 h2]; rfl
theorem ins_rec (n : Nat) (hn : n < 13) (k j : Nat) (hk : k ≤ j) (hj : j < n) : ins (prOf n j) (recOf n k) = prOf n j :: recOf n k := by
  cases k with
  | zero => rfl
  | succ k =>
    show ins (prOf n j) (prOf n k :: recOf n k) = _
    unfold ins
    rw [if_neg (lt_no (a := n - k) (b := n - j) rfl rfl (by omega) (by omega) (by omega)), if_neg (eq_no (a := n - k) (b := n - j) rfl rfl (by omega) (by omega) (by omega))]
    rfl
theorem sErr_rec (n : Nat) (hn : n < 13) (k j : Nat) (hk : k ≤ j) (hj : j < n) (h8 : k ≤ 8) : sErr (prOf n j) (recOf n k) = if k < 8 then 0 else 4 := by
  unfold sErr
  rw [if_pos (rErr_rec n hn k (by omega) h8), if_pos (rErr_one (prOf n j) (n - j) rfl (by omega) (pr_bad n j (by omega))), ins_rec n hn k j hk hj]
  simp [rec_len]
  split <;> split <;> omega

/-- A property of the name of one that is there. -/
theorem again_rec (n : Nat) (hn : n < 13) (q : Pr) (j : Nat) (hq : q.nm = nmOf (n - j)) (hb : q.bad = 0) (k : Nat) (hj : j < k) (hk : k ≤ n) :
    (ins q (recOf n k)).length = k ∧ (∀ p : Pr, p.nm = nmOf (n - k) → k < n → chk (some p) (ins q (recOf n k)) = 0) ∧ chk none (ins q (recOf n k)) = 0 ∧ (∀ s, ∃ i, idx q.nm.toList (ins q (recOf n k)) s = ((s + i : Nat) : Int) ∧ (ins q (recOf n k))[i]? = some q) := by
  have hqn : nErr q.l = 0 := by unfold Pr.l; rw [hq]; exact nm_ok _ (by omega)
  induction k with
  | zero => omega
  | succ k ih =>
    by_cases he : j = k
    · subst he
      have e : ins q (recOf n (j + 1)) = q :: recOf n j := by
        show ins q (prOf n j :: recOf n j) = _
        unfold ins
        rw [if_neg (by unfold Pr.lt; rw [hq]; show ¬ Op.bytesLess (nmOf (n - j)).toList _ = true; rw [nm_list]; revert hn; revert hk; exact fun _ _ => by simp [Op.bytesLess]), if_pos (by rw [hq]; show ((nmOf (n - j)).toList == _) = true; simp)]
      rw [e]
      refine ⟨by simp [rec_len], fun p hp hlt => ?_, ?_, fun s => ⟨0, by unfold idx; simp, rfl⟩⟩
      · rw [chk_up hqn hb (low_no hq hp (by omega) (by omega) (by omega))]
        exact chk_rec n hn j (by omega) q hq
      · rw [chk_first hqn hb]
        exact chk_rec n hn j (by omega) q hq
    · obtain ⟨h1, h2, h3, h4⟩ := ih (by omega) (by omega)
      have e : ins q (recOf n (k + 1)) = prOf n k :: ins q (recOf n k) := by
        show ins q (prOf n k :: recOf n k) = _
        conv => lhs; unfold ins
        rw [if_pos (lt_yes (a := n - k) (b := n - j) rfl hq (by omega) (by omega) (by omega))]
      rw [e]
      refine ⟨by simp [h1], fun p hp hlt => ?_, ?_, fun s => ?_⟩
      · rw [chk_up (pr_ok n k hn) (pr_bad n k (by omega)) (low_no rfl hp (by omega) (by omega) (by omega))]
        exact h2 _ rfl (by omega)
      · rw [chk_first (pr_ok n k hn) (pr_bad n k (by omega))]
        exact h2 _ rfl (by omega)
      · obtain ⟨i, g1, g2⟩ := h4 (s + 1)
        refine ⟨i + 1, ?_, by simpa using g2⟩
        have e2 : idx q.nm.toList (prOf n k :: ins q (recOf n k)) s = idx q.nm.toList (ins q (recOf n k)) (s + 1) := by
          conv => lhs; unfold idx
          rw [if_neg (eq_no' (p := prOf n k) (q := q) (a := n - k) (b := n - j) rfl hq (by omega) (by omega) (by omega))]
        rw [e2, g1]; congr 1; omega
theorem rec_at (n : Nat) (k a : Nat) (h : a < k) : (recOf n k)[a]? = some (prOf n (k - 1 - a)) := by
  induction k generalizing a with
  | zero => omega
  | succ k ih =>
    cases a with
    | zero => rfl
    | succ a => have := ih a (by omega); simp [recOf, this]; congr 1; omega
theorem sz_rec (n k : Nat) : Sz (recOf n k) := by
  induction k with
  | zero => intro p hp; simp [recOf] at hp
  | succ k ih =>
    intro p hp
    simp [recOf] at hp
    rcases hp with rfl | hp
    · exact ⟨by show (2 : Nat) ≤ maxLen; decide, by show (0 : Nat) ≤ maxLen; decide⟩
    · exact ih p hp

set_option maxHeartbeats 4000000 in
theorem number_any (k : Int) (w : World) : Calls Tryd.prog 6 #[.int .i64 k] w fun e w' => e = .returned (.agg #[.int .i64 1, .int .i64 k, .string ⟨#[]⟩]) ∧ Below w.heap.size w w' := by
  go_enter Tryd.func6, Tryd.ntmps6
  go_wp2
  exact bodyPost_ret (v := .agg #[.int .i64 1, .int .i64 k, .string ⟨#[]⟩]) (by simp [results, Tryd.results6, go_sem]) rfl ⟨rfl, b_alloc (Below.refl _ _) _⟩
set_option maxHeartbeats 4000000 in
theorem error_gen (x y : Int) (w : World) (hg : Hnd w) : Calls Tryd.prog 7 #[errV x, .int .i64 y] w fun e w' => e = .returned (.bool (x == y)) ∧ Below w.heap.size w w' := by
  go_enter Tryd.func7, Tryd.ntmps7
  go_wp2_with (go_at_call 10; refine (told_any x _ hg).mono ?_; rintro e w' ⟨rfl, hb⟩)
  go_ret
  exact ⟨rfl, hb⟩
set_option maxHeartbeats 8000000 in
theorem letters_any (k : Nat) (h1 : 0 < k) (h2 : k < 13) (w : World) : Calls Tryd.prog 5 #[.int .i64 k] w fun e w' => e = .returned (.string (nmOf k)) ∧ Below w.heap.size w w' := by
  obtain rfl | rfl | rfl | rfl | rfl | rfl | rfl | rfl | rfl | rfl | rfl | rfl : k = 1 ∨ k = 2 ∨ k = 3 ∨ k = 4 ∨ k = 5 ∨ k = 6 ∨ k = 7 ∨ k = 8 ∨ k = 9 ∨ k = 10 ∨ k = 11 ∨ k = 12 := by omega
  all_goals
    go_enter Tryd.func5, Tryd.ntmps5
    go_wp2_with fail
    go_quiet (fail)
    go_wp2
    go_ret
    exact ⟨rfl, b_drewN (Below.refl _ _) _⟩
end Go.Proofs.YtghlncdnnmpikabDoor
