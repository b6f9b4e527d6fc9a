/-
  Plain mathematics of chapter 1: what is printed is read again, what is read is printed again, and how values stand to one another.
-/
import Derived.Test.YtmgkdghkenpmbaaGreatDoorWalkJ
namespace Go.Proofs.YtmgkdghkenpmbaaGreatDoor
open Go.RowKit
set_option linter.unusedVariables false
set_option linter.unusedSimpArgs false

theorem decFrom_snoc (l : List UInt8) : ∀ (acc m : Nat) (b : UInt8) (d : Nat), Lib.decFrom acc l = some m → Lib.digitVal b = some d → Lib.decFrom acc (l ++ [b]) = some (m * 10 + d) := by
  induction l with
  | nil => intro acc m b d h hd; simp [Lib.decFrom] at h; subst h; simp [Lib.decFrom, hd]
  | cons c r ih =>
    intro acc m b d h hd
    simp only [Lib.decFrom] at h
    simp only [List.cons_append, Lib.decFrom]
    cases hc : Lib.digitVal c with
    | none => rw [hc] at h; simp at h
    | some x => rw [hc] at h; exact ih _ m b d h hd

theorem digit_of (k : Nat) (h : k < 10) : Lib.digitVal (UInt8.ofNat (48 + k)) = some k ∧ noDig (UInt8.ofNat (48 + k)) = false ∧ ((UInt8.ofNat (48 + k) = 48) ↔ k = 0) := by
  have hk : k = 0 ∨ k = 1 ∨ k = 2 ∨ k = 3 ∨ k = 4 ∨ k = 5 ∨ k = 6 ∨ k = 7 ∨ k = 8 ∨ k = 9 := by omega
  rcases hk with rfl | rfl | rfl | rfl | rfl | rfl | rfl | rfl | rfl | rfl <;> decide

theorem dd_dec (u : Nat) : Lib.decFrom 0 (Lib.decDigits u) = some u := by
  induction u using Nat.strongRecOn with
  | _ u ih =>
    by_cases h : u < 10
    · rw [Lib.decDigits, dif_pos h]
      simp only [Lib.decFrom, (digit_of u h).1]; simp
    · rw [Lib.decDigits, dif_neg h, decFrom_snoc _ 0 (u / 10) _ (u % 10) (ih _ (by omega)) (digit_of _ (by omega)).1]
      congr 1; omega
theorem hasP_append (p : UInt8 → Bool) (a b : List UInt8) : hasP p (a ++ b) = (hasP p a || hasP p b) := by unfold hasP; rw [List.any_append]
theorem dd_dig (u : Nat) : hasP noDig (Lib.decDigits u) = false := by
  induction u using Nat.strongRecOn with
  | _ u ih =>
    by_cases h : u < 10
    · rw [Lib.decDigits, dif_pos h]
      simp only [hasP, List.any_cons, List.any_nil, (digit_of u h).2.1, Bool.or_false]
    · rw [Lib.decDigits, dif_neg h, hasP_append, ih _ (by omega)]
      simp only [hasP, List.any_cons, List.any_nil, (digit_of (u % 10) (by omega)).2.1, Bool.or_false]
theorem dd_head (u : Nat) (hu : 1 ≤ u) : ∃ c r, Lib.decDigits u = c :: r ∧ ¬ c = 48 := by
  induction u using Nat.strongRecOn with
  | _ u ih =>
    by_cases h : u < 10
    · rw [Lib.decDigits, dif_pos h]
      exact ⟨_, [], rfl, fun e => by have := (digit_of u h).2.2.1 e; omega⟩
    · obtain ⟨c, r, h1, h2⟩ := ih (u / 10) (by omega) (by omega)
      rw [Lib.decDigits, dif_neg h, h1]
      exact ⟨c, r ++ [_], rfl, h2⟩
theorem dd_zero : Lib.decDigits 0 = [48] := by rw [Lib.decDigits, dif_pos (by decide)]; rfl
theorem dd_len : ∀ (k u : Nat), u < 10 ^ (k + 1) → (Lib.decDigits u).length ≤ k + 1
  | 0, u, h => by rw [Lib.decDigits, dif_pos (by simpa using h)]; simp
  | k + 1, u, h => by
    by_cases h10 : u < 10
    · rw [Lib.decDigits, dif_pos h10]; simp
    · rw [Lib.decDigits, dif_neg h10, List.length_append]
      have := dd_len k (u / 10) (by rw [Nat.pow_succ] at h; omega)
      simp; omega
theorem dd_num (u : Nat) (h : u < 1000000000) : isNum (Lib.decDigits u) = true := by
  have hl := dd_len 8 u h
  have hd := dd_dig u
  by_cases h0 : u = 0
  · subst h0; rw [dd_zero]; decide
  · obtain ⟨c, r, e, hc⟩ := dd_head u (by omega)
    rw [e] at hl hd ⊢
    simp at hl
    simp [isNum, hd, hc]; omega
theorem dd_dec' (u : Nat) : dec (Lib.decDigits u) = u := by unfold dec; rw [dd_dec]; rfl

theorem dd_first (u : Nat) : ∃ c r, Lib.decDigits u = c :: r ∧ 48 ≤ c.toNat ∧ c.toNat ≤ 57 := by
  have hd := dd_dig u
  have he : ∃ c r, Lib.decDigits u = c :: r := by
    by_cases h0 : u = 0
    · subst h0; exact ⟨48, [], dd_zero⟩
    · obtain ⟨c, r, e, _⟩ := dd_head u (by omega); exact ⟨c, r, e⟩
  obtain ⟨c, r, e⟩ := he
  rw [e] at hd
  have hcr : noDig c = false ∧ hasP noDig r = false := by simpa [hasP] using hd
  have hc := hcr.1
  unfold noDig at hc; simp at hc
  exact ⟨c, r, e, by omega, by omega⟩

theorem piN_itoa (n : Int) (h1 : -1000000 ≤ n) (h2 : n ≤ 1000000) : piBad (Lib.itoa n) = false ∧ piN (Lib.itoa n) = n := by
  by_cases hn : n < 0
  · have e : Lib.itoa n = 45 :: Lib.decDigits n.natAbs := by unfold Lib.itoa; rw [if_pos hn]
    have hg : piNeg (45 :: Lib.decDigits n.natAbs) = true := by simp [piNeg, Lib.hasPrefix]
    have hd : piDig (45 :: Lib.decDigits n.natAbs) = Lib.decDigits n.natAbs := by
      unfold piDig Lib.trimPrefix; rw [if_pos (by simpa [piNeg] using hg)]; rfl
    have hne : ¬ Lib.decDigits n.natAbs = [48] := by
      obtain ⟨c, r, e2, hc⟩ := dd_head n.natAbs (by omega)
      rw [e2]; intro e3; simp at e3; exact hc e3.1
    rw [e]
    refine ⟨?_, ?_⟩
    · unfold piBad; rw [hg, hd, dd_num _ (by omega)]; simp [hne]
    · unfold piN; rw [if_pos hg, hd, dd_dec']; omega
  · have e : Lib.itoa n = Lib.decDigits n.toNat := by unfold Lib.itoa; rw [if_neg hn]
    obtain ⟨c, r, e2, hc1, hc2⟩ := dd_first n.toNat
    have n45 : ¬ c = 45 := by intro h; rw [h] at hc1; simp at hc1
    have hg : piNeg (Lib.decDigits n.toNat) = false := by
      rw [e2]; simp only [piNeg, Lib.hasPrefix, List.isPrefixOf, Bool.and_true]; simpa using fun h => n45 (Eq.symm h)
    have hd : piDig (Lib.decDigits n.toNat) = Lib.decDigits n.toNat := by
      unfold piDig Lib.trimPrefix; rw [if_neg (by have := hg; unfold piNeg at this; simp [this])]
    rw [e]
    refine ⟨?_, ?_⟩
    · unfold piBad; rw [hg, hd, dd_num _ (by omega)]; rfl
    · unfold piN; rw [if_neg (by simp [hg]), hd, dd_dec']; omega
theorem itoa_first (n : Int) : ∃ c r, Lib.itoa n = c :: r ∧ 45 ≤ c.toNat ∧ c.toNat ≤ 57 := by
  by_cases hn : n < 0
  · exact ⟨45, Lib.decDigits n.natAbs, by unfold Lib.itoa; rw [if_pos hn], by decide, by decide⟩
  · obtain ⟨c, r, e, h1, h2⟩ := dd_first n.toNat
    exact ⟨c, r, by unfold Lib.itoa; rw [if_neg hn, e], by omega, h2⟩

/-- What is printed is read again. -/
theorem parse_show {t n : Int} {l : List UInt8} (h : vErr t n l = 0) : parseL (showL t n l) = (0, t, n, l) := by
  rcases vErr_ok h with ⟨rfl, h1, h2, rfl⟩ | ⟨rfl, hn, rfl⟩ | ⟨rfl, rfl, hl, hb⟩
  · have e : showL 1 n [] = Lib.itoa n := by unfold showL; rw [if_pos rfl]
    obtain ⟨c, r, e2, c1, c2⟩ := itoa_first n
    obtain ⟨p1, p2⟩ := piN_itoa n h1 h2
    have n102 : ¬ c = 102 := by intro h; rw [h] at c2; simp at c2
    have n116 : ¬ c = 116 := by intro h; rw [h] at c2; simp at c2
    have n39 : ¬ c = 39 := by intro h; rw [h] at c1; simp at c1
    rw [e]
    have hp : piErr (Lib.itoa n) = 0 := by unfold piErr; rw [p1, p2]; simpa using h
    unfold parseL
    rw [if_neg (by rw [e2]; simp [n102]), if_neg (by rw [e2]; simp [n116]), if_neg (by rw [e2]; simp [n39]), hp, p2]
  · rcases hn with rfl | rfl <;> decide
  · have e : showL 3 0 l = quo l := by unfold showL; rw [if_neg (by decide), if_neg (by decide)]
    rw [e]
    have hu : unqL (quo l) = some l := by simp [quo, unqL, und_dbl]
    unfold parseL
    rw [if_neg (by simp [quo]), if_neg (by simp [quo]), if_pos (by simp [quo]), hu]
    have : ptErr (some l) = 0 := by simp only [ptErr, hb]; rw [← vErr_3]; simpa using h
    rw [this]; rfl

theorem dbl_und (l : List UInt8) : ∀ r, und l = some r → dbl r = l := by
  induction l using und.induct with
  | case1 => intro r h; simp [und] at h; subst h; rfl
  | case2 => intro r h; simp [und] at h
  | case3 c hc => intro r h; simp [und, hc] at h; subst h; simp [dbl, hc]
  | case4 r ih => intro q h; simp [und] at h; obtain ⟨x, hx, rfl⟩ := h; simp [dbl, ih x hx]
  | case5 d r hd => intro q h; simp [und, hd] at h
  | case6 c d r hc ih => intro q h; simp [und, hc] at h; obtain ⟨x, hx, rfl⟩ := h; simp [dbl, hc, ih x hx]
theorem quo_unq {l r : List UInt8} (h : unqL l = some r) : quo r = l := by
  cases l with
  | nil => simp [unqL] at h
  | cons c q =>
    simp only [unqL] at h
    by_cases hc : c = 39 ∧ q.getLast? = some 39
    · rw [if_pos hc] at h
      unfold quo
      rw [dbl_und _ _ h, hc.1]
      congr 1
      obtain ⟨ys, rfl⟩ := List.getLast?_eq_some_iff.1 hc.2
      simp
    · rw [if_neg hc] at h; simp at h

theorem dec_pos (l : List UInt8) : ∀ acc m, 1 ≤ acc → Lib.decFrom acc l = some m → 1 ≤ m := by
  induction l with
  | nil => intro acc m h e; simp [Lib.decFrom] at e; omega
  | cons c r ih =>
    intro acc m h e
    simp only [Lib.decFrom] at e
    cases hc : Lib.digitVal c with
    | none => rw [hc] at e; simp at e
    | some x => rw [hc] at e; exact ih _ m (by omega) e
theorem digit_inv (c : UInt8) (h : noDig c = false) : Lib.digitVal c = some (c.toNat - 48) ∧ c.toNat - 48 < 10 ∧ c = UInt8.ofNat (48 + (c.toNat - 48)) := by
  unfold noDig at h; simp at h
  refine ⟨by unfold Lib.digitVal; rw [if_pos (by omega)], by omega, ?_⟩
  rw [show 48 + (c.toNat - 48) = c.toNat by omega]; simp
/-- Digits without a needless 0 are the numeral of their number. -/
theorem dd_of_len (n : Nat) : ∀ (r : List UInt8) (hn : r.length = n) (c : UInt8) (m : Nat), hasP noDig (c :: r) = false → (¬ c = 48 ∨ r = []) → Lib.decFrom 0 (c :: r) = some m → Lib.decDigits m = c :: r := by
  induction n with
  | zero =>
    intro r hn c m h _ e
    obtain rfl := List.eq_nil_of_length_eq_zero hn
    have hc : noDig c = false := by simpa [hasP] using h
    obtain ⟨d1, d2, d3⟩ := digit_inv c hc
    simp only [Lib.decFrom, d1] at e
    have : m = c.toNat - 48 := by simpa using e.symm
    subst this
    rw [Lib.decDigits, dif_pos d2, ← d3]
  | succ n ih =>
    intro r hn c m h h0 e
    obtain ⟨q, b, rfl⟩ : ∃ q b, r = q ++ [b] := by
      rcases List.eq_nil_or_concat r with e0 | ⟨q, b, e0⟩
      · rw [e0] at hn; simp at hn
      · exact ⟨q, b, by simpa using e0⟩
    have hqn : q.length = n := by simpa using hn
    have hne : ¬ c = 48 := by
      rcases h0 with h0 | h0
      · exact h0
      · simp at h0
    rw [show c :: (q ++ [b]) = (c :: q) ++ [b] from rfl] at h e ⊢
    rw [hasP_append] at h
    have hq : hasP noDig (c :: q) = false := by simp at h; exact h.1
    have hb : noDig b = false := by simp [hasP] at h; exact h.2
    obtain ⟨m', hm'⟩ := dec_of (c :: q) 0 hq
    obtain ⟨d1, d2, d3⟩ := digit_inv b hb
    rw [decFrom_snoc _ 0 m' b _ hm' d1] at e
    have hm : m = m' * 10 + (b.toNat - 48) := by simpa using e.symm
    have hc : noDig c = false := by
      have : noDig c = false ∧ hasP noDig q = false := by simpa [hasP] using hq
      exact this.1
    obtain ⟨c1, c2, c3⟩ := digit_inv c hc
    have hpos : 1 ≤ m' := by
      simp only [Lib.decFrom, c1] at hm'
      refine dec_pos q _ m' ?_ hm'
      have : ¬ c.toNat - 48 = 0 := by intro e0; apply hne; rw [c3, e0]; rfl
      omega
    have i := ih q hqn c m' hq (Or.inl hne) hm'
    rw [Lib.decDigits, dif_neg (by omega), show m / 10 = m' by omega, show m % 10 = b.toNat - 48 by omega, i, ← d3]

theorem dd_of (r : List UInt8) (c : UInt8) (m : Nat) (h : hasP noDig (c :: r) = false) (h0 : ¬ c = 48 ∨ r = []) (e : Lib.decFrom 0 (c :: r) = some m) : Lib.decDigits m = c :: r :=
  dd_of_len r.length r rfl c m h h0 e

theorem itoa_piN {l : List UInt8} (h : piBad l = false) : Lib.itoa (piN l) = l := by
  unfold piBad at h
  simp only [Bool.or_eq_false_iff, Bool.not_eq_false', Bool.and_eq_false_iff, decide_eq_false_iff_not] at h
  obtain ⟨hn, h2⟩ := h
  obtain ⟨hat, hd0, hd1, hd9⟩ := isNum_dec hn
  have hdd : Lib.decDigits (dec (piDig l)).toNat = piDig l ∧ (¬ piDig l = [48] → 1 ≤ dec (piDig l)) := by
    cases hdl : piDig l with
    | nil => rw [hdl] at hn; simp [isNum] at hn
    | cons c r =>
      rw [hdl] at hn
      simp only [isNum, Bool.and_eq_true, Bool.not_eq_true', Bool.or_eq_true, decide_eq_true_eq, decide_eq_false_iff_not] at hn
      obtain ⟨⟨h8, hz⟩, hd⟩ := hn
      obtain ⟨m, hm⟩ := dec_of (c :: r) 0 hd
      have hz' : ¬ c = 48 ∨ r = [] := by
        rcases hz with hz | hz
        · exact Or.inl hz
        · exact Or.inr (by simpa using hz)
      have hdec : dec (c :: r) = (m : Int) := by unfold dec; rw [hm]; rfl
      have hdm := dd_of r c m hd hz' hm
      refine ⟨by rw [hdec]; exact hdm, fun hne => ?_⟩
      rw [hdec]
      by_cases hm0 : m = 0
      · subst hm0; rw [dd_zero] at hdm; exact absurd hdm.symm hne
      · omega
  by_cases hg : piNeg l = true
  · have hne : ¬ piDig l = [48] := by
      rcases h2 with h2 | h2
      · rw [hg] at h2; simp at h2
      · exact h2
    have h1 := hdd.2 hne
    have e : piN l = -(dec (piDig l)) := by unfold piN; rw [if_pos hg]
    unfold Lib.itoa
    rw [if_pos (by omega), e, show (-(dec (piDig l))).natAbs = (dec (piDig l)).toNat by omega, hdd.1]
    cases hl : l with
    | nil => rw [hl] at hg; simp [piNeg, Lib.hasPrefix] at hg
    | cons c r =>
      rw [hl] at hg
      have hc : c = 45 := by simp [piNeg, Lib.hasPrefix] at hg; first | exact hg | exact hg.symm
      subst hc
      simp [piDig, Lib.trimPrefix, Lib.hasPrefix]
  · have e : piN l = dec (piDig l) := by unfold piN; rw [if_neg hg]
    have hd : piDig l = l := by
      unfold piDig Lib.trimPrefix; rw [if_neg (by simpa [piNeg] using hg)]
    unfold Lib.itoa
    rw [if_neg (by omega), e, hdd.1, hd]

/-- What is read is printed again. -/
theorem show_parse {l : List UInt8} (h : (parseL l).1 = 0) : vErr (parseL l).2.1 (parseL l).2.2.1 (parseL l).2.2.2 = 0 ∧ showL (parseL l).2.1 (parseL l).2.2.1 (parseL l).2.2.2 = l := by
  unfold parseL at h ⊢
  by_cases hF : l = [102, 97, 108, 115, 101]
  · subst hF; exact ⟨by decide, by decide⟩
  by_cases hT : l = [116, 114, 117, 101]
  · subst hT; exact ⟨by decide, by decide⟩
  rw [if_neg hF, if_neg hT] at h ⊢
  by_cases hQ : l.head? = some 39
  · rw [if_pos hQ] at h ⊢
    dsimp only at h ⊢
    cases hu : unqL l with
    | none => rw [hu] at h; simp [ptErr] at h
    | some r =>
      rw [hu] at h
      by_cases hb : hasP badB r = true
      · simp [ptErr, hb] at h
      · have ht : tErr r = 0 := by simpa [ptErr, hb] using h
        refine ⟨by simpa [vErr_3] using ht, ?_⟩
        unfold showL; rw [if_neg (by decide), if_neg (by decide)]
        exact quo_unq hu
  · rw [if_neg hQ] at h ⊢
    dsimp only at h ⊢
    unfold piErr at h
    by_cases hb : piBad l = true
    · rw [if_pos hb] at h; simp at h
    · rw [if_neg hb] at h
      refine ⟨h, ?_⟩
      unfold showL; rw [if_pos rfl]
      exact itoa_piN (by simpa using hb)

theorem cmpB_range (a b : List UInt8) : Lib.compareBytes a b = -1 ∨ Lib.compareBytes a b = 0 ∨ Lib.compareBytes a b = 1 := by
  induction a generalizing b with
  | nil => cases b <;> simp [Lib.compareBytes]
  | cons c r ih =>
    cases b with
    | nil => simp [Lib.compareBytes]
    | cons d q =>
      simp only [Lib.compareBytes]
      split
      · simp
      · split
        · simp
        · exact ih q
theorem cmpB_anti (a b : List UInt8) : Lib.compareBytes b a = -Lib.compareBytes a b := by
  induction a generalizing b with
  | nil => cases b <;> simp [Lib.compareBytes]
  | cons c r ih =>
    cases b with
    | nil => simp [Lib.compareBytes]
    | cons d q =>
      simp only [Lib.compareBytes]
      by_cases h1 : c < d
      · have h2 : ¬ d < c := by rw [UInt8.lt_iff_toNat_lt] at *; omega
        simp [h1, h2]
      · by_cases h2 : d < c
        · simp [h1, h2]
        · simp [h1, h2, ih q]
theorem cmpB_zero (a b : List UInt8) : Lib.compareBytes a b = 0 ↔ a = b := by
  induction a generalizing b with
  | nil => cases b <;> simp [Lib.compareBytes]
  | cons c r ih =>
    cases b with
    | nil => simp [Lib.compareBytes]
    | cons d q =>
      simp only [Lib.compareBytes]
      by_cases h1 : c < d
      · have hne : ¬ c = d := by intro e; rw [e, UInt8.lt_iff_toNat_lt] at h1; omega
        simp [h1, hne]
      · by_cases h2 : d < c
        · have hne : ¬ c = d := by intro e; rw [e, UInt8.lt_iff_toNat_lt] at h2; omega
          simp [h1, h2, hne]
        · have he : c = d := by rw [UInt8.lt_iff_toNat_lt] at h1 h2; exact UInt8.toNat_inj.1 (by omega)
          simp [h1, h2, ih q, he]
theorem cmpB_trans (a b c : List UInt8) (h1 : Lib.compareBytes a b ≤ 0) (h2 : Lib.compareBytes b c ≤ 0) : Lib.compareBytes a c ≤ 0 := by
  induction a generalizing b c with
  | nil => cases c <;> simp [Lib.compareBytes]
  | cons x r ih =>
    cases b with
    | nil => simp [Lib.compareBytes] at h1
    | cons y q =>
      cases c with
      | nil => simp [Lib.compareBytes] at h2
      | cons z p =>
        simp only [Lib.compareBytes] at h1 h2 ⊢
        simp only [UInt8.lt_iff_toNat_lt] at *
        by_cases a1 : x.toNat < y.toNat
        · by_cases b1 : y.toNat < z.toNat
          · rw [if_pos (by omega)]; decide
          · by_cases b2 : z.toNat < y.toNat
            · rw [if_neg b1, if_pos b2] at h2; simp at h2
            · rw [if_pos (by omega)]; decide
        · by_cases a2 : y.toNat < x.toNat
          · rw [if_neg a1, if_pos a2] at h1; simp at h1
          · rw [if_neg a1, if_neg a2] at h1
            by_cases b1 : y.toNat < z.toNat
            · rw [if_pos (by omega)]; decide
            · by_cases b2 : z.toNat < y.toNat
              · rw [if_neg b1, if_pos b2] at h2; simp at h2
              · rw [if_neg b1, if_neg b2] at h2
                rw [if_neg (by omega), if_neg (by omega)]
                exact ih q p h1 h2
end Go.Proofs.YtmgkdghkenpmbaaGreatDoor
