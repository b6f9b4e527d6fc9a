/-
  What package record says of texts, in plain functions of lists of bytes: a record as text, a text as a record, and that each is the other's inverse.
-/
import Derived.Test.YtghlncdnnmpikaaGreatDoorRecE
import Derived.Test.YtghlncdnnmpikaaGreatDoorBackM
namespace Go.Proofs.YtghlncdnnmpikaaGreatDoor
open Go.RowKit
set_option linter.unusedVariables false
set_option linter.unusedSimpArgs false

/-- The first word, and what stands behind the comma, if there is one; whether it begins in quotes. -/
def cutW : Bool → List UInt8 → List UInt8 × Option (List UInt8)
  | _, [] => ([], none)
  | q, c :: r => if c = 39 then (c :: (cutW (!q) r).1, (cutW (!q) r).2) else if c = 44 ∧ q = false then ([], some r) else (c :: (cutW q r).1, (cutW q r).2)
/-- A text at its first equals sign. -/
def splitEq : List UInt8 → Option (List UInt8 × List UInt8)
  | [] => none
  | c :: r => if c = 61 then some ([], r) else (splitEq r).map fun x => (c :: x.1, x.2)
/-- A property of a name's and a value's text. -/
def mkPr (a b : List UInt8) : Pr := ⟨⟨a.toArray⟩, (parseL b).2.1, (parseL b).2.2.1, ⟨(parseL b).2.2.2.toArray⟩⟩
/-- A word as a property. -/
def propL (w : List UInt8) : Option Pr :=
  match splitEq w with
  | none => none
  | some x => if nErr x.1 = 0 ∧ (parseL x.2).1 = 0 then some (mkPr x.1 x.2) else none
/-- A text as properties. -/
def prs : Nat → List UInt8 → List Pr → Option (List Pr)
  | 0, _, _ => none
  | n + 1, t, acc =>
    match propL (cutW false t).1 with
    | none => none
    | some p =>
      match (cutW false t).2 with
      | none => some (if acc.length ≤ 8 then acc ++ [p] else acc)
      | some r => prs n r (if acc.length ≤ 8 then acc ++ [p] else acc)
/-- A property as a word. -/
def wordOf (p : Pr) : List UInt8 := p.l ++ 61 :: showL p.t p.n p.s.data.toList
/-- Words with commas between. -/
def joinW : List (List UInt8) → List UInt8
  | [] => []
  | [w] => w
  | w :: v :: r => w ++ 44 :: joinW (v :: r)
/-- A record as text. -/
def showR (L : List Pr) : List UInt8 := if L = [] then [45] else joinW (L.map wordOf)

/-- What the quotes come to; none: a comma stands in none. -/
def bal : Bool → List UInt8 → Option Bool
  | q, [] => some q
  | q, c :: r => if c = 39 then bal (!q) r else if c = 44 ∧ q = false then none else bal q r
theorem bal_app (a b : List UInt8) : ∀ q q', bal q a = some q' → bal q (a ++ b) = bal q' b := by
  induction a with
  | nil => intro q q' h; simp [bal] at h; subst h; rfl
  | cons c r ih =>
    intro q q' h
    simp only [List.cons_append, bal] at h ⊢
    split
    · rename_i hc; rw [if_pos hc] at h; exact ih _ _ h
    · rename_i hc; rw [if_neg hc] at h
      split
      · rename_i hd; rw [if_pos hd] at h; cases h
      · rename_i hd; rw [if_neg hd] at h; exact ih _ _ h
theorem bal_plain (l : List UInt8) (h : ∀ c ∈ l, ¬ c = 39 ∧ ¬ c = 44) : ∀ q, bal q l = some q := by
  induction l with
  | nil => intro q; rfl
  | cons c r ih =>
    intro q
    have hc := h c (by simp)
    simp only [bal]
    rw [if_neg hc.1, if_neg (fun x => hc.2 x.1)]
    exact ih (fun c hc => h c (by simp [hc])) q
theorem bal_dbl (l : List UInt8) : bal true (dbl l) = some true := by
  induction l with
  | nil => rfl
  | cons c r ih =>
    by_cases hc : c = 39
    · subst hc; simp only [dbl, if_true, bal]; simpa using ih
    · simp only [dbl, if_neg hc, bal]
      rw [if_neg (by simp)]; exact ih
theorem bal_quo (l : List UInt8) : bal false (quo l) = some false := by
  unfold quo
  show bal false (39 :: (dbl l ++ [39])) = _
  simp only [bal, if_true, Bool.not_false]
  rw [bal_app _ _ _ _ (bal_dbl l)]; rfl
theorem cutW_end (w : List UInt8) : ∀ q q', bal q w = some q' → cutW q w = (w, none) := by
  induction w with
  | nil => intro q q' h; rfl
  | cons c r ih =>
    intro q q' h
    simp only [bal, cutW] at h ⊢
    split
    · rename_i hc; rw [if_pos hc] at h; rw [ih _ _ h]
    · rename_i hc; rw [if_neg hc] at h
      split
      · rename_i hd; rw [if_pos hd] at h; cases h
      · rename_i hd; rw [if_neg hd] at h; rw [ih _ _ h]
theorem cutW_comma (w r : List UInt8) : ∀ q, bal q w = some false → cutW q (w ++ 44 :: r) = (w, some r) := by
  induction w with
  | nil => intro q h; simp [bal] at h; subst h; simp [cutW]
  | cons c w ih =>
    intro q h
    simp only [bal, List.cons_append, cutW] at h ⊢
    split
    · rename_i hc; rw [if_pos hc] at h; rw [ih _ h]
    · rename_i hc; rw [if_neg hc] at h
      split
      · rename_i hd; rw [if_pos hd] at h; cases h
      · rename_i hd; rw [if_neg hd] at h; rw [ih _ h]
theorem cutW_join (t : List UInt8) : ∀ q, (∀ r, (cutW q t).2 = some r → t = (cutW q t).1 ++ 44 :: r ∧ r.length < t.length) ∧ ((cutW q t).2 = none → t = (cutW q t).1) := by
  induction t with
  | nil => intro q; exact ⟨fun r h => by simp [cutW] at h, fun _ => rfl⟩
  | cons c t ih =>
    intro q
    simp only [cutW]
    split
    · obtain ⟨h1, h2⟩ := ih (!q)
      refine ⟨fun r h => ?_, fun h => ?_⟩
      · obtain ⟨h3, h4⟩ := h1 r h
        exact ⟨by simp only [List.cons_append]; rw [← h3], by simp; omega⟩
      · simp only; rw [← h2 h]
    · split
      · rename_i h0
        refine ⟨fun r h => ?_, fun h => by cases h⟩
        simp at h; subst h
        exact ⟨by simp [h0.1], by simp⟩
      · obtain ⟨h1, h2⟩ := ih q
        refine ⟨fun r h => ?_, fun h => ?_⟩
        · obtain ⟨h3, h4⟩ := h1 r h
          exact ⟨by simp only [List.cons_append]; rw [← h3], by simp; omega⟩
        · simp only; rw [← h2 h]
theorem split_name (a b : List UInt8) (h : ∀ c ∈ a, ¬ c = 61) : splitEq (a ++ 61 :: b) = some (a, b) := by
  induction a with
  | nil => simp [splitEq]
  | cons c r ih =>
    simp only [List.cons_append, splitEq]
    rw [if_neg (h c (by simp)), ih (fun c hc => h c (by simp [hc]))]; rfl
theorem split_back (w : List UInt8) : ∀ a b, splitEq w = some (a, b) → w = a ++ 61 :: b := by
  induction w with
  | nil => intro a b h; simp [splitEq] at h
  | cons c r ih =>
    intro a b h
    simp only [splitEq] at h
    split at h
    · rename_i hc; subst hc
      obtain ⟨rfl, rfl⟩ := Prod.mk.inj (Option.some.inj h); rfl
    · obtain ⟨⟨x, y⟩, h1, h2⟩ := Option.map_eq_some_iff.1 h
      obtain ⟨rfl, rfl⟩ := Prod.mk.inj h2
      rw [ih x y h1]; rfl
theorem name_bytes {l : List UInt8} (h : nErr l = 0) : ∀ c ∈ l, 97 ≤ c.toNat ∧ c.toNat ≤ 122 := by
  unfold nErr at h
  split at h
  · exact absurd h (by decide)
  · split at h
    · exact absurd h (by decide)
    · split at h
      · exact absurd h (by decide)
      · rename_i hb
        intro c hc
        have : noLet c = false := by
          have h2 : hasP noLet l = false := by simpa using hb
          unfold hasP at h2
          rw [List.any_eq_false] at h2
          simpa using h2 c hc
        unfold noLet at this
        simp at this
        omega
theorem itoa_bytes (n : Int) (h1 : -1000000 ≤ n) (h2 : n ≤ 1000000) : ∀ c ∈ Lib.itoa n, c.toNat = 45 ∨ (48 ≤ c.toNat ∧ c.toNat ≤ 57) := by
  have hd : ∀ u, ∀ c ∈ Lib.decDigits u, 48 ≤ c.toNat ∧ c.toNat ≤ 57 := fun u c hc => by
    have h := dd_dig u
    unfold hasP at h
    rw [List.any_eq_false] at h
    have := h c hc
    unfold noDig at this
    simp at this
    omega
  intro c hc
  unfold Lib.itoa at hc
  split at hc
  · rcases List.mem_cons.1 hc with rfl | hc
    · left; rfl
    · right; exact hd _ c hc
  · right; exact hd _ c hc
theorem show_bal {t n : Int} {l : List UInt8} (h : vErr t n l = 0) : bal false (showL t n l) = some false := by
  have ht : t = 1 ∨ t = 2 ∨ t = 3 := by
    unfold vErr at h; split at h
    · assumption
    · exact absurd h (by decide)
  have hr : inR t n = true := by
    unfold vErr at h; rw [if_pos ht] at h; split at h
    · assumption
    · exact absurd h (by decide)
  unfold showL
  rcases ht with rfl | rfl | rfl
  · rw [if_pos rfl]
    have hr' : -1000000 ≤ n ∧ n ≤ 1000000 := by simpa [inR] using hr
    refine bal_plain _ (fun c hc => ?_) _
    have := itoa_bytes n hr'.1 hr'.2 c hc
    constructor
    · rintro rfl; revert this; decide
    · rintro rfl; revert this; decide
  · rw [if_neg (by decide), if_pos rfl]
    split <;> decide
  · rw [if_neg (by decide), if_neg (by decide)]
    exact bal_quo l
/-- A property that is right by itself. -/
def Pr.ok (p : Pr) : Prop := nErr p.l = 0 ∧ p.bad = 0
theorem word_bal {p : Pr} (h : p.ok) : bal false (wordOf p) = some false := by
  unfold wordOf
  have hn := name_bytes h.1
  rw [bal_app p.l _ false false (bal_plain _ (fun c hc => by
    have := hn c hc
    constructor
    · rintro rfl; revert this; decide
    · rintro rfl; revert this; decide) _)]
  show bal false (61 :: _) = _
  simp only [bal]
  rw [if_neg (by decide), if_neg (by decide)]
  exact show_bal h.2
theorem arr_eq (s : ByteArray) : (⟨s.data.toList.toArray⟩ : ByteArray) = s := rfl
theorem word_prop {p : Pr} (h : p.ok) : propL (wordOf p) = some p := by
  unfold propL wordOf
  have hn := name_bytes h.1
  rw [split_name p.l _ (fun c hc => by have := hn c hc; rintro rfl; revert this; decide)]
  have hp := parse_show (t := p.t) (n := p.n) (l := p.s.data.toList) h.2
  simp only [hp, h.1, and_self, if_true]
  simp only [mkPr, hp]
  rfl
theorem prop_word {w : List UInt8} {p : Pr} (h : propL w = some p) : wordOf p = w ∧ p.ok := by
  unfold propL at h
  split at h
  · cases h
  · rename_i x hx
    split at h
    · rename_i hh
      obtain rfl := Option.some.inj h
      obtain ⟨h1, h2⟩ := show_parse hh.2
      refine ⟨?_, hh.1, h1⟩
      have := split_back w x.1 x.2 hx
      rw [this]
      show x.1 ++ 61 :: showL _ _ _ = _
      congr 2
    · cases h
theorem prs_show (L : List Pr) (hne : L ≠ []) : ∀ n acc, (∀ p ∈ L, p.ok) → acc.length + L.length ≤ 8 → (joinW (L.map wordOf)).length < n → prs n (joinW (L.map wordOf)) acc = some (acc ++ L) := by
  induction L with
  | nil => exact absurd rfl hne
  | cons p r ih =>
    intro n acc hok hlen hn
    cases n with
    | zero => omega
    | succ n =>
      have hp := hok p (by simp)
      have ha : acc.length ≤ 8 := by simp at hlen; omega
      cases r with
      | nil =>
        show prs (n + 1) (wordOf p) acc = _
        unfold prs
        rw [cutW_end _ _ _ (word_bal hp)]
        simp only [word_prop hp]
        rw [if_pos ha]
      | cons q r =>
        have hj : joinW ((p :: q :: r).map wordOf) = wordOf p ++ 44 :: joinW ((q :: r).map wordOf) := rfl
        rw [hj] at hn ⊢
        unfold prs
        rw [cutW_comma _ _ _ (word_bal hp)]
        simp only [word_prop hp]
        rw [if_pos ha, ih (by simp) n (acc ++ [p]) (fun x hx => hok x (by simp [hx])) (by simp at hlen ⊢; omega) (by rw [List.length_append, List.length_cons] at hn; omega)]
        simp
theorem prs_back : ∀ (n : Nat) (t : List UInt8) (acc M : List Pr), prs n t acc = some M → M.length ≤ 8 → ∃ R, R ≠ [] ∧ M = acc ++ R ∧ joinW (R.map wordOf) = t := by
  intro n
  induction n with
  | zero => intro t acc M h; simp [prs] at h
  | succ n ih =>
    intro t acc M h hM
    unfold prs at h
    split at h
    · cases h
    · rename_i p hp
      obtain ⟨hw, _⟩ := prop_word hp
      split at h
      · rename_i hr
        have ht := (cutW_join t false).2 hr
        obtain rfl := Option.some.inj h
        by_cases ha : acc.length ≤ 8
        · rw [if_pos ha] at hM ⊢
          exact ⟨[p], by simp, rfl, by show wordOf p = t; rw [hw, ← ht]⟩
        · rw [if_neg ha] at hM; omega
      · rename_i r hr
        obtain ⟨ht, _⟩ := (cutW_join t false).1 r hr
        obtain ⟨R, hne, h1, h2⟩ := ih r _ M h hM
        by_cases ha : acc.length ≤ 8
        · rw [if_pos ha] at h1
          refine ⟨p :: R, by simp, by rw [h1]; simp, ?_⟩
          cases R with
          | nil => exact absurd rfl hne
          | cons q R' =>
            show wordOf p ++ 44 :: joinW ((q :: R').map wordOf) = t
            rw [h2, hw, ← ht]
        · rw [if_neg ha] at h1
          rw [h1] at hM; simp at hM; omega
theorem chk_ok (L : List Pr) : ∀ o, chk o L = 0 → ∀ p ∈ L, p.ok := by
  induction L with
  | nil => intro o _ p hp; simp at hp
  | cons a r ih =>
    intro o h p hp
    have h1 : nErr a.l = 0 := by
      by_cases h1 : nErr a.l = 0
      · exact h1
      · rw [chk_name h1] at h; exact absurd h h1
    have h2 : a.bad = 0 := by
      by_cases h2 : a.bad = 0
      · exact h2
      · rw [chk_bad h1 h2] at h; exact absurd h h2
    rcases List.mem_cons.1 hp with rfl | hp
    · exact ⟨h1, h2⟩
    · cases o with
      | none => rw [chk_first h1 h2] at h; exact ih _ h p hp
      | some q =>
        by_cases h3 : a.low q = true
        · rw [chk_low h1 h2 h3] at h; exact absurd h (by decide)
        · rw [chk_up h1 h2 (by simpa using h3)] at h; exact ih _ h p hp
theorem rErr_ok {L : List Pr} (h : rErr L = 0) : ∀ p ∈ L, p.ok := by
  have hl := rErr_len h
  unfold rErr at h; rw [if_neg (by omega)] at h
  exact chk_ok L none h

/-- A text as a record, and its fault. -/
def readR (t : List UInt8) : Option (List Pr) := if t = [45] then some [] else prs (t.length + 1) t []
/-- What Parse finds wrong. -/
def pErr (t : List UInt8) : Int := match readR t with | none => 2 | some M => rErr M
theorem word_head (p : Pr) (h : p.ok) (x : List UInt8) : ∃ c r, wordOf p ++ x = c :: r ∧ ¬ c = 45 := by
  have hn := name_bytes h.1
  unfold wordOf
  cases hl : p.l with
  | nil => exact ⟨61, _, rfl, by decide⟩
  | cons c r =>
    refine ⟨c, _, rfl, ?_⟩
    have := hn c (by rw [hl]; simp)
    rintro rfl; revert this; decide
theorem join_head (p : Pr) (r : List Pr) (h : p.ok) : ¬ joinW ((p :: r).map wordOf) = [45] := by
  cases r with
  | nil =>
    obtain ⟨c, x, hx, hc⟩ := word_head p h []
    show ¬ wordOf p = [45]
    rw [List.append_nil] at hx
    rw [hx]; intro e; simp at e; exact hc e.1
  | cons q r =>
    obtain ⟨c, x, hx, hc⟩ := word_head p h (44 :: joinW ((q :: r).map wordOf))
    show ¬ wordOf p ++ 44 :: joinW ((q :: r).map wordOf) = [45]
    rw [hx]; intro e; simp at e; exact hc e.1
/-- What is shown is read as it was. -/
theorem read_show {L : List Pr} (h : rErr L = 0) : readR (showR L) = some L := by
  have hok := rErr_ok h
  have hl := rErr_len h
  cases L with
  | nil => rfl
  | cons p r =>
    unfold showR
    rw [if_neg (by simp)]
    unfold readR
    rw [if_neg (join_head p r (hok p (by simp)))]
    have := prs_show (p :: r) (by simp) ((joinW ((p :: r).map wordOf)).length + 1) [] hok (by simpa using hl) (by omega)
    simpa using this
/-- What is read is shown as it was. -/
theorem show_read {t : List UInt8} {M : List Pr} (h : readR t = some M) (hM : rErr M = 0) : showR M = t := by
  unfold readR at h
  split at h
  · rename_i ht; subst ht
    obtain rfl := Option.some.inj h; rfl
  · obtain ⟨R, hne, h1, h2⟩ := prs_back _ _ _ _ h (rErr_len hM)
    rw [List.nil_append] at h1
    subst h1
    unfold showR; rw [if_neg hne, h2]
end Go.Proofs.YtghlncdnnmpikaaGreatDoor
