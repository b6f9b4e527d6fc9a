/-
  What package record says of texts, in plain functions of lists of bytes: a record as text, a text as a record, and that each is the other's inverse.
-/
import Derived.Test.YteabdlandbmdaaaGreatDoorM09
import Derived.Test.YteabdlandbmdaaaGreatDoorM05
import Derived.Laws.Concat
import Derived.Lib.ItoaLen
import Derived.Deep.DeepCutAuto
namespace Go.Proofs.YteabdlandbmdaaaGreatDoor
open Go.RowKit
set_option linter.unusedVariables false
set_option linter.unusedSimpArgs false

def cutW : Bool → List UInt8 → List UInt8 × Option (List UInt8)
  | _, [] => ([], none)
  | q, c :: r => if c = 39 then (c :: (cutW (!q) r).1, (cutW (!q) r).2) else if c = 44 ∧ q = false then ([], some r) else (c :: (cutW q r).1, (cutW q r).2)
def splitEq : List UInt8 → Option (List UInt8 × List UInt8)
  | [] => none
  | c :: r => if c = 61 then some ([], r) else (splitEq r).map fun x => (c :: x.1, x.2)
def mkPr (a b : List UInt8) : Pr := ⟨⟨a.toArray⟩, (parseL b).2.1, (parseL b).2.2.1, ⟨(parseL b).2.2.2.toArray⟩⟩
def propL (w : List UInt8) : Option Pr :=
  match splitEq w with
  | none => none
  | some x => if nErr x.1 = 0 ∧ (parseL x.2).1 = 0 then some (mkPr x.1 x.2) else none
def prs : Nat → List UInt8 → List Pr → Option (List Pr)
  | 0, _, _ => none
  | n + 1, t, acc =>
    match propL (cutW false t).1 with
    | none => none
    | some p =>
      match (cutW false t).2 with
      | none => some (if acc.length ≤ 8 then acc ++ [p] else acc)
      | some r => prs n r (if acc.length ≤ 8 then acc ++ [p] else acc)
def wordOf (p : Pr) : List UInt8 := p.l ++ 61 :: showL p.t p.n p.s.data.toList
def joinW : List (List UInt8) → List UInt8
  | [] => []
  | [w] => w
  | w :: v :: r => w ++ 44 :: joinW (v :: r)
def showR (L : List Pr) : List UInt8 := if L = [] then [45] else joinW (L.map wordOf)

def bal : Bool → List UInt8 → Option Bool
  | q, [] => some q
  | q, c :: r => if c = 39 then bal (!q) r else if c = 44 ∧ q = false then none else bal q r
theorem bal_app (a b : List UInt8) : ∀ q q', bal q a = some q' → bal q (a ++ b) = bal q' b := by
  induction a with
  | nil => intro q q' h; simp [bal] at h; subst h; rfl
  | cons c r ih =>
    intro q q' h
    simp only [List.cons_append, bal] at h ⊢
    split
    · rename_i hc; rw [if_pos hc] at h; exact ih _ _ h
    · rename_i hc; rw [if_neg hc] at h
      split
      · rename_i hd; rw [if_pos hd] at h; cases h
      · rename_i hd; rw [if_neg hd] at h; exact ih _ _ h
theorem bal_plain (l : List UInt8) (h : ∀ c ∈ l, ¬ c = 39 ∧ ¬ c = 44) : ∀ q, bal q l = some q := by
  induction l with
  | nil => intro q; rfl
  | cons c r ih =>
    intro q
    have hc := h c (by simp)
    simp only [bal]
    rw [if_neg hc.1, if_neg (fun x => hc.2 x.1)]
    exact ih (fun c hc => h c (by simp [hc])) q
theorem bal_dbl (l : List UInt8) : bal true (dbl l) = some true := by
  induction l with
  | nil => rfl
  | cons c r ih =>
    by_cases hc : c = 39
    · subst hc; simp only [dbl, if_true, bal]; simpa using ih
    · simp only [dbl, if_neg hc, bal]
      rw [if_neg (by simp)]; exact ih
theorem bal_quo (l : List UInt8) : bal false (quo l) = some false := by
  unfold quo
  show bal false (39 :: (dbl l ++ [39])) = _
  simp only [bal, if_true, Bool.not_false]
  rw [bal_app _ _ _ _ (bal_dbl l)]; rfl
theorem cutW_end (w : List UInt8) : ∀ q q', bal q w = some q' → cutW q w = (w, none) := by
  induction w with
  | nil => intro q q' h; rfl
  | cons c r ih =>
    intro q q' h
    simp only [bal, cutW] at h ⊢
    split
    · rename_i hc; rw [if_pos hc] at h; rw [ih _ _ h]
    · rename_i hc; rw [if_neg hc] at h
      split
      · rename_i hd; rw [if_pos hd] at h; cases h
      · rename_i hd; rw [if_neg hd] at h; rw [ih _ _ h]
theorem cutW_comma (w r : List UInt8) : ∀ q, bal q w = some false → cutW q (w ++ 44 :: r) = (w, some r) := by
  induction w with
  | nil => intro q h; simp [bal] at h; subst h; simp [cutW]
  | cons c w ih =>
    intro q h
    simp only [bal, List.cons_append, cutW] at h ⊢
    split
    · rename_i hc; rw [if_pos hc] at h; rw [ih _ h]
    · rename_i hc; rw [if_neg hc] at h
      split
      · rename_i hd; rw [if_pos hd] at h; cases h
      · rename_i hd; rw [if_neg hd] at h; rw [ih _ h]
theorem cutW_join (t : List UInt8) : ∀ q, (∀ r, (cutW q t).2 = some r → t = (cutW q t).1 ++ 44 :: r ∧ r.length < t.length) ∧ ((cutW q t).2 = none → t = (cutW q t).1) := by
  induction t with
  | nil => intro q; exact ⟨fun r h => by simp [cutW] at h, fun _ => rfl⟩
  | cons c t ih =>
    intro q
    simp only [cutW]
    split
    · obtain ⟨h1, h2⟩ := ih (!q)
      refine ⟨fun r h => ?_, fun h => ?_⟩
      · obtain ⟨h3, h4⟩ := h1 r h
        exact ⟨by simp only [List.cons_append]; rw [← h3], by simp; omega⟩
      · simp only; rw [← h2 h]
    · split
      · rename_i h0
        refine ⟨fun r h => ?_, fun h => by cases h⟩
        simp at h; subst h
        exact ⟨by simp [h0.1], by simp⟩
      · obtain ⟨h1, h2⟩ := ih q
        refine ⟨fun r h => ?_, fun h => ?_⟩
        · obtain ⟨h3, h4⟩ := h1 r h
          exact ⟨by simp only [List.cons_append]; rw [← h3], by simp; omega⟩
        · simp only; rw [← h2 h]
theorem split_name (a b : List UInt8) (h : ∀ c ∈ a, ¬ c = 61) : splitEq (a ++ 61 :: b) = some (a, b) := by
  induction a with
  | nil => simp [splitEq]
  | cons c r ih =>
    simp only [List.cons_append, splitEq]
    rw [if_neg (h c (by simp)), ih (fun c hc => h c (by simp [hc]))]; rfl
theorem split_back (w : List UInt8) : ∀ a b, splitEq w = some (a, b) → w = a ++ 61 :: b := by
  induction w with
  | nil => intro a b h; simp [splitEq] at h
  | cons c r ih =>
    intro a b h
    simp only [splitEq] at h
    split at h
    · rename_i hc; subst hc
      obtain ⟨rfl, rfl⟩ := Prod.mk.inj (Option.some.inj h); rfl
    · obtain ⟨⟨x, y⟩, h1, h2⟩ := Option.map_eq_some_iff.1 h
      obtain ⟨rfl, rfl⟩ := Prod.mk.inj h2
      rw [ih x y h1]; rfl
theorem name_bytes {l : List UInt8} (h : nErr l = 0) : ∀ c ∈ l, 97 ≤ c.toNat ∧ c.toNat ≤ 122 := by
  unfold nErr at h
  split at h
  · exact absurd h (by decide)
  · split at h
    · exact absurd h (by decide)
    · split at h
      · exact absurd h (by decide)
      · rename_i hb
        intro c hc
        have : noLet c = false := by
          have h2 : hasP noLet l = false := by simpa using hb
          unfold hasP at h2
          rw [List.any_eq_false] at h2
          simpa using h2 c hc
        unfold noLet at this
        simp at this
        omega
theorem itoa_bytes (n : Int) (h1 : -1000000 ≤ n) (h2 : n ≤ 1000000) : ∀ c ∈ Lib.itoa n, c.toNat = 45 ∨ (48 ≤ c.toNat ∧ c.toNat ≤ 57) := by
  have hd : ∀ u, ∀ c ∈ Lib.decDigits u, 48 ≤ c.toNat ∧ c.toNat ≤ 57 := fun u c hc => by
    have h := dd_dig u
    unfold hasP at h
    rw [List.any_eq_false] at h
    have := h c hc
    unfold noDig at this
    simp at this
    omega
  intro c hc
  unfold Lib.itoa at hc
  split at hc
  · rcases List.mem_cons.1 hc with rfl | hc
    · left; rfl
    · right; exact hd _ c hc
  · right; exact hd _ c hc
theorem show_bal {t n : Int} {l : List UInt8} (h : vErr t n l = 0) : bal false (showL t n l) = some false := by
  have ht : t = 1 ∨ t = 2 ∨ t = 3 := by
    unfold vErr at h; split at h
    · assumption
    · exact absurd h (by decide)
  have hr : inR t n = true := by
    unfold vErr at h; rw [if_pos ht] at h; split at h
    · assumption
    · exact absurd h (by decide)
  unfold showL
  rcases ht with rfl | rfl | rfl
  · rw [if_pos rfl]
    have hr' : -1000000 ≤ n ∧ n ≤ 1000000 := by simpa [inR] using hr
    refine bal_plain _ (fun c hc => ?_) _
    have := itoa_bytes n hr'.1 hr'.2 c hc
    constructor
    · rintro rfl; revert this; decide
    · rintro rfl; revert this; decide
  · rw [if_neg (by decide), if_pos rfl]
    split <;> decide
  · rw [if_neg (by decide), if_neg (by decide)]
    exact bal_quo l
def Pr.ok (p : Pr) : Prop := nErr p.l = 0 ∧ p.bad = 0
theorem word_bal {p : Pr} (h : p.ok) : bal false (wordOf p) = some false := by
  unfold wordOf
  have hn := name_bytes h.1
  rw [bal_app p.l _ false false (bal_plain _ (fun c hc => by
    have := hn c hc
    constructor
    · rintro rfl; revert this; decide
    · rintro rfl; revert this; decide) _)]
  show bal false (61 :: _) = _
  simp only [bal]
  rw [if_neg (by decide), if_neg (by decide)]
  exact show_bal h.2
theorem word_prop {p : Pr} (h : p.ok) : propL (wordOf p) = some p := by
  unfold propL wordOf
  have hn := name_bytes h.1
  rw [split_name p.l _ (fun c hc => by have := hn c hc; rintro rfl; revert this; decide)]
  have hp := parse_show (t := p.t) (n := p.n) (l := p.s.data.toList) h.2
  simp only [hp, h.1, and_self, if_true]
  simp only [mkPr, hp]
  rfl
theorem prop_word {w : List UInt8} {p : Pr} (h : propL w = some p) : wordOf p = w ∧ p.ok := by
  unfold propL at h
  split at h
  · cases h
  · rename_i x hx
    split at h
    · rename_i hh
      obtain rfl := Option.some.inj h
      obtain ⟨h1, h2⟩ := show_parse hh.2
      refine ⟨?_, hh.1, h1⟩
      have := split_back w x.1 x.2 hx
      rw [this]
      show x.1 ++ 61 :: showL _ _ _ = _
      congr 2
    · cases h
theorem prs_show (L : List Pr) (hne : L ≠ []) : ∀ n acc, (∀ p ∈ L, p.ok) → acc.length + L.length ≤ 8 → (joinW (L.map wordOf)).length < n → prs n (joinW (L.map wordOf)) acc = some (acc ++ L) := by
  induction L with
  | nil => exact absurd rfl hne
  | cons p r ih =>
    intro n acc hok hlen hn
    cases n with
    | zero => omega
    | succ n =>
      have hp := hok p (by simp)
      have ha : acc.length ≤ 8 := by simp at hlen; omega
      cases r with
      | nil =>
        show prs (n + 1) (wordOf p) acc = _
        unfold prs
        rw [cutW_end _ _ _ (word_bal hp)]
        simp only [word_prop hp]
        rw [if_pos ha]
      | cons q r =>
        have hj : joinW ((p :: q :: r).map wordOf) = wordOf p ++ 44 :: joinW ((q :: r).map wordOf) := rfl
        rw [hj] at hn ⊢
        unfold prs
        rw [cutW_comma _ _ _ (word_bal hp)]
        simp only [word_prop hp]
        rw [if_pos ha, ih (by simp) n (acc ++ [p]) (fun x hx => hok x (by simp [hx])) (by simp at hlen ⊢; omega) (by rw [List.length_append, List.length_cons] at hn; omega)]
        simp
theorem prs_back : ∀ (n : Nat) (t : List UInt8) (acc M : List Pr), prs n t acc = some M → M.length ≤ 8 → ∃ R, R ≠ [] ∧ M = acc ++ R ∧ joinW (R.map wordOf) = t := by
  intro n
  induction n with
  | zero => intro t acc M h; simp [prs] at h
  | succ n ih =>
    intro t acc M h hM
    unfold prs at h
    split at h
    · cases h
    · rename_i p hp
      obtain ⟨hw, _⟩ := prop_word hp
      split at h
      · rename_i hr
        have ht := (cutW_join t false).2 hr
        obtain rfl := Option.some.inj h
        by_cases ha : acc.length ≤ 8
        · rw [if_pos ha] at hM ⊢
          exact ⟨[p], by simp, rfl, by show wordOf p = t; rw [hw, ← ht]⟩
        · rw [if_neg ha] at hM; omega
      · rename_i r hr
        obtain ⟨ht, _⟩ := (cutW_join t false).1 r hr
        obtain ⟨R, hne, h1, h2⟩ := ih r _ M h hM
        by_cases ha : acc.length ≤ 8
        · rw [if_pos ha] at h1
          refine ⟨p :: R, by simp, by rw [h1]; simp, ?_⟩
          cases R with
          | nil => exact absurd rfl hne
          | cons q R' =>
            show wordOf p ++ 44 :: joinW ((q :: R').map wordOf) = t
            rw [h2, hw, ← ht]
        · rw [if_neg ha] at h1
          rw [h1] at hM; simp at hM; omega
theorem chk_ok (L : List Pr) : ∀ o, chk o L = 0 → ∀ p ∈ L, p.ok := by
  induction L with
  | nil => intro o _ p hp; simp at hp
  | cons a r ih =>
    intro o h p hp
    have h1 : nErr a.l = 0 := by
      by_cases h1 : nErr a.l = 0
      · exact h1
      · rw [chk_name h1] at h; exact absurd h h1
    have h2 : a.bad = 0 := by
      by_cases h2 : a.bad = 0
      · exact h2
      · rw [chk_bad h1 h2] at h; exact absurd h h2
    rcases List.mem_cons.1 hp with rfl | hp
    · exact ⟨h1, h2⟩
    · cases o with
      | none => rw [chk_first h1 h2] at h; exact ih _ h p hp
      | some q =>
        by_cases h3 : a.low q = true
        · rw [chk_low h1 h2 h3] at h; exact absurd h (by decide)
        · rw [chk_up h1 h2 (by simpa using h3)] at h; exact ih _ h p hp
theorem rErr_ok {L : List Pr} (h : rErr L = 0) : ∀ p ∈ L, p.ok := by
  have hl := rErr_len h
  unfold rErr at h; rw [if_neg (by omega)] at h
  exact chk_ok L none h

def readR (t : List UInt8) : Option (List Pr) := if t = [45] then some [] else prs (t.length + 1) t []
theorem word_head (p : Pr) (h : p.ok) (x : List UInt8) : ∃ c r, wordOf p ++ x = c :: r ∧ ¬ c = 45 := by
  have hn := name_bytes h.1
  unfold wordOf
  cases hl : p.l with
  | nil => exact ⟨61, _, rfl, by decide⟩
  | cons c r =>
    refine ⟨c, _, rfl, ?_⟩
    have := hn c (by rw [hl]; simp)
    rintro rfl; revert this; decide
theorem join_head (p : Pr) (r : List Pr) (h : p.ok) : ¬ joinW ((p :: r).map wordOf) = [45] := by
  cases r with
  | nil =>
    obtain ⟨c, x, hx, hc⟩ := word_head p h []
    show ¬ wordOf p = [45]
    rw [List.append_nil] at hx
    rw [hx]; intro e; simp at e; exact hc e.1
  | cons q r =>
    obtain ⟨c, x, hx, hc⟩ := word_head p h (44 :: joinW ((q :: r).map wordOf))
    show ¬ wordOf p ++ 44 :: joinW ((q :: r).map wordOf) = [45]
    rw [hx]; intro e; simp at e; exact hc e.1
theorem read_show {L : List Pr} (h : rErr L = 0) : readR (showR L) = some L := by
  have hok := rErr_ok h
  have hl := rErr_len h
  cases L with
  | nil => rfl
  | cons p r =>
    unfold showR
    rw [if_neg (by simp)]
    unfold readR
    rw [if_neg (join_head p r (hok p (by simp)))]
    have := prs_show (p :: r) (by simp) ((joinW ((p :: r).map wordOf)).length + 1) [] hok (by simpa using hl) (by omega)
    simpa using this
theorem show_read {t : List UInt8} {M : List Pr} (h : readR t = some M) (hM : rErr M = 0) : showR M = t := by
  unfold readR at h
  split at h
  · rename_i ht; subst ht
    obtain rfl := Option.some.inj h; rfl
  · obtain ⟨R, hne, h1, h2⟩ := prs_back _ _ _ _ h (rErr_len hM)
    rw [List.nil_append] at h1
    subst h1
    unfold showR; rw [if_neg hne, h2]
end Go.Proofs.YteabdlandbmdaaaGreatDoor

/-
  The walk of record.Print.
-/
namespace Go.Proofs.YteabdlandbmdaaaGreatDoor
open Go.RowKit
set_option linter.unusedVariables false
set_option linter.unusedSimpArgs false

theorem cat (x y : List UInt8) (hx : x.length ≤ 8388608) (hy : y.length ≤ 8388608) (w : World) : (Op.stringOp .add ⟨x.toArray⟩ ⟨y.toArray⟩).run Tryz.prog w = .ok (.string ⟨(x ++ y).toArray⟩) w := run_string_add_lists w x y (by omega) (by omega)
theorem name_len {l : List UInt8} (h : nErr l = 0) : l.length ≤ 8 := by
  unfold nErr at h
  split at h
  · exact absurd h (by decide)
  · split at h
    · exact absurd h (by decide)
    · omega
theorem show_len {t n : Int} {l : List UInt8} (h : vErr t n l = 0) : (showL t n l).length ≤ 42 := by
  have ht : t = 1 ∨ t = 2 ∨ t = 3 := by
    unfold vErr at h; split at h
    · assumption
    · exact absurd h (by decide)
  have hr : inR t n = true := by
    unfold vErr at h; rw [if_pos ht] at h; split at h
    · assumption
    · exact absurd h (by decide)
  unfold showL
  rcases ht with rfl | rfl | rfl
  · rw [if_pos rfl]
    have hr' : -1000000 ≤ n ∧ n ≤ 1000000 := by simpa [inR] using hr
    have := Lib.itoa_length_le n (by omega) (by omega)
    omega
  · rw [if_neg (by decide), if_pos rfl]
    split <;> decide
  · rw [if_neg (by decide), if_neg (by decide)]
    have h20 : l.length ≤ 20 := by
      unfold vErr at h; rw [if_pos (by omega), if_pos hr, if_pos rfl] at h
      unfold tErr at h; split at h
      · exact absurd h (by decide)
      · omega
    have := dbl_len l
    simp [quo]; omega
theorem word_len {p : Pr} (h : p.ok) : (wordOf p).length ≤ 51 := by
  have h1 := name_len h.1
  have h2 := show_len h.2
  unfold wordOf; simp; omega
theorem info9 : (Tryz.prog.info? 9).map (fun i => (i.zero, i.size, i.bytes)) = some (some (.string ⟨#[]⟩), 1, 16) := by kernel_rfl
theorem cell_new1 (w0 : World) (v : Value) : ∀ j u, [v][j]? = some u → (w0.alloc (.cells #[v] 9)).cell? ((⟨w0.heap.size, 0, none⟩ : Addr).add j) = some u := by
  intro j u hu
  match j, hu with
  | 0, hu => simp at hu; subst hu; simp [Addr.add]
  | k + 1, hu => simp at hu
theorem cell_one1 (x : ByteArray) : ∀ u ∈ [Value.string x], u.oneCell' = true := by
  intro u hu; simp at hu; subst hu; rfl
def wcells (L : List Pr) : List Value := L.map fun p => .string ⟨(wordOf p).toArray⟩
theorem words_at {w : World} {base : Nat} {v : Value} {L : List Pr} (h : w.ownsRow base 9 1 v L.length (wcells L)) (hp : 0 < L.length) :
    ∃ g cp, v = .slice (some ⟨g, 0, none⟩) L.length cp ∧ (g < w.heap.size ∧ L.length ≤ cp) ∧ ∀ (j : Nat) (x : ByteArray), (L.map fun p => (⟨(wordOf p).toArray⟩ : ByteArray))[j]? = some x → w.cell? ⟨g, j, none⟩ = some (.string x) := by
  have hc : ∀ g, v.ownBlock = some g → ∀ j u, (wcells L)[j]? = some u → w.cell? ((⟨g, 0, none⟩ : Addr).add j) = some u := fun g hg => h.cells hg
  rcases h.2 with ⟨rfl, h0⟩ | ⟨g, cap, cur, rfl, hb, hg, hle, _⟩
  · omega
  · refine ⟨g, cap, rfl, ⟨(Array.getElem?_eq_some_iff.1 hg).1, hle⟩, fun j x hx => ?_⟩
    have := hc g rfl j (.string x) (by
      rw [List.getElem?_map] at hx
      obtain ⟨p, h1, h2⟩ := Option.map_eq_some_iff.1 hx
      unfold wcells
      rw [List.getElem?_map, h1, ← h2]; rfl)
    rw [Addr.add_lit, Nat.zero_add] at this
    exact this
theorem joinW_eq (L : List (List UInt8)) : Lib.join L [44] = joinW L := by
  unfold Lib.join
  induction L with
  | nil => rfl
  | cons a r ih =>
    cases r with
    | nil => simp [joinW, List.intercalate]
    | cons b r =>
      show _ = a ++ 44 :: joinW (b :: r)
      rw [← ih]
      simp [List.intercalate, List.intersperse]
theorem joinW_len (L : List (List UInt8)) (h : ∀ w ∈ L, w.length ≤ 51) : (joinW L).length ≤ 52 * L.length := by
  induction L with
  | nil => simp [joinW]
  | cons a r ih =>
    have ha := h a (by simp)
    cases r with
    | nil => simp [joinW]; omega
    | cons b r =>
      have := ih (fun w hw => h w (by simp [hw]))
      show (a ++ 44 :: joinW (b :: r)).length ≤ _
      simp at this ⊢; omega
theorem own_al1 {w w0 : World} {base : Nat} {e : TypeId} {size : Nat} {v : Value} {n : Nat} {xs : List Value} (h : w.ownsRow base e size v n xs) (hB : ∀ k, base ≤ k → k < w.heap.size → w0.heap[k]? = w.heap[k]?) : w0.ownsRow base e size v n xs := by
  refine ⟨h.1, ?_⟩
  rcases h.2 with hn | ⟨g, cap, cur, hv, hb, hg, rest⟩
  · exact .inl hn
  · exact .inr ⟨g, cap, cur, hv, hb, by rw [hB g hb (Array.getElem?_eq_some_iff.1 hg).1]; exact hg, rest⟩
theorem own_on {w w0 : World} {base : Nat} {e : TypeId} {size : Nat} {v : Value} {n : Nat} {xs : List Value} (h : w.ownsRow base e size v n xs) (hB : Below w.heap.size w w0) : w0.ownsRow base e size v n xs :=
  own_al1 h (fun k _ hk => hB.block k hk)

theorem kept4P {w W1 : World} {v0 v1 v2 v3 : Value} {t : TypeId} (hB : Below (w.alloc (.cells #[v0, v1, v2, v3] t)).heap.size (w.alloc (.cells #[v0, v1, v2, v3] t)) W1) :
    w.heap.size < W1.heap.size ∧ (W1.cell? ⟨w.heap.size, 0, none⟩ = some v0 ∧ W1.cell? ⟨w.heap.size, 1, none⟩ = some v1 ∧ W1.cell? ⟨w.heap.size, 2, none⟩ = some v2 ∧ W1.cell? ⟨w.heap.size, 3, none⟩ = some v3) ∧
      (W1.frozen? ⟨w.heap.size, 0, none⟩ = false ∧ W1.frozen? ⟨w.heap.size, 1, none⟩ = false ∧ W1.frozen? ⟨w.heap.size, 2, none⟩ = false ∧ W1.frozen? ⟨w.heap.size, 3, none⟩ = false) := by
  refine ⟨Nat.lt_of_lt_of_le (by simp) hB.size, ⟨?_, ?_, ?_, ?_⟩, ⟨?_, ?_, ?_, ?_⟩⟩
  · rw [hB.cell (p := ⟨w.heap.size, 0, none⟩) (by simp)]; simp
  · rw [hB.cell (p := ⟨w.heap.size, 1, none⟩) (by simp)]; simp
  · rw [hB.cell (p := ⟨w.heap.size, 2, none⟩) (by simp)]; simp
  · rw [hB.cell (p := ⟨w.heap.size, 3, none⟩) (by simp)]; simp
  · rw [hB.frozen (p := ⟨w.heap.size, 0, none⟩) (by simp)]; simp
  · rw [hB.frozen (p := ⟨w.heap.size, 1, none⟩) (by simp)]; simp
  · rw [hB.frozen (p := ⟨w.heap.size, 2, none⟩) (by simp)]; simp
  · rw [hB.frozen (p := ⟨w.heap.size, 3, none⟩) (by simp)]; simp

def PW (w : World) (L : List Pr) (ws i : Value) (wr : World) : Prop := ∃ k : Nat, k ≤ L.length ∧ i = .int .i64 k ∧ wr.ownsRow w.heap.size 9 1 ws k (wcells (L.take k)) ∧ Below w.heap.size w wr
set_option maxHeartbeats 4000000 in
set_option maxRecDepth 100000 in
theorem rprint_some (b off cap : Nat) (L : List Pr) (w : World) (hb : b < w.heap.size) (hL : Lies w b off L) (hs : Sz L) (he : rErr L = 0) (hne : L ≠ []) (hT : Tab w) :
    Calls Tryz.prog 11 #[.slice (some ⟨b, off, none⟩) L.length cap] w fun e w' => e = .returned (.tuple #[.string ⟨(showR L).toArray⟩, .nilIface]) ∧ Below w.heap.size w w' := by
  obtain ⟨i0, hi0, hz0, hz1, hz2⟩ := info_parts info9
  have hn := rErr_len he
  have hok := rErr_ok he
  have hpos : 0 < L.length := List.length_pos_iff.2 hne
  have hl0 : ((L.length : Int) == 0) = false := by simp; omega
  have c1 : Calls Tryz.prog 27 #[.slice (some ⟨b, off, none⟩) L.length cap] w fun e w' => e = .returned .nilIface ∧ Below w.heap.size w w' := by
    have := rcheck_some b off cap L w hb hL hs hn
    have e0 : chk none L = 0 := by unfold rErr at he; rw [if_neg (by omega)] at he; exact he
    rw [e0] at this; exact this
  have HS : Hid (showR L = joinW (L.map wordOf)) := by
    show _ = _
    unfold showR; rw [if_neg hne]
  have HK : Hid ((∀ p ∈ L, p.ok) ∧ Sz L ∧ Tab w ∧ Lies w b off L) := ⟨hok, hs, hT, hL⟩
  clear hok hs hT hL he hne
  go_enter Tryz.func11, Tryz.ntmps11
  go_wp2_with (go_at_call 27; refine c1.mono ?_; rintro e W0 ⟨rfl, hB0⟩)
  go_loopw [5, 20] (fun ws i wr => PW w L ws i wr) (fun _ i _ => L.length - (intOf i).toNat)
  case atStart => exact ⟨0, Nat.zero_le _, rfl, World.ownsRow_nil _ _ _ _, hB0⟩
  case round =>
    obtain ⟨k, hk, rfl, hown, hB⟩ := hrel
    have HO : Hid (wr.ownsRow w.heap.size 9 1 u5 k (wcells (L.take k))) := hown
    clear hown
    by_cases hlt : k < L.length
    · obtain ⟨p, hp⟩ : ∃ p, L[k]? = some p := ⟨L[k], by simp [hlt]⟩
      obtain ⟨c0, c1', c2, c3⟩ := HK.out.2.2.2 k p hp
      have d0 := (hB.cell (p := ⟨b, off + k * 4, none⟩) hb).trans c0
      have d1 := (hB.cell (p := ⟨b, off + k * 4 + 1, none⟩) hb).trans c1'
      have d2 := (hB.cell (p := ⟨b, off + k * 4 + 2, none⟩) hb).trans c2
      have d3 := (hB.cell (p := ⟨b, off + k * 4 + 3, none⟩) hb).trans c3
      have hpok := HK.out.1 p (List.mem_of_getElem? hp)
      have hT1 : L.take (k + 1) = L.take k ++ [p] := by
        obtain ⟨hk', rfl⟩ := List.getElem?_eq_some_iff.1 hp
        exact List.take_succ_eq_append_getElem hk'
      have HW : Hid (wcells (L.take (k + 1)) = wcells (L.take k) ++ [.string ⟨(wordOf p).toArray⟩]) := by
        show _ = _
        rw [hT1]; simp [wcells]
      have hBA : Below w.heap.size w (wr.alloc (.cells #[.string p.nm, .int .i64 p.t, .int .i64 p.n, .string p.s] 33)) := b_alloc hB _
      have cp := print_any p.t p.n p.s (wr.alloc (.cells #[.string p.nm, .int .i64 p.t, .int .i64 p.n, .string p.s] 33)) (HK.out.2.1 p (List.mem_of_getElem? hp)).2 (tabOn HK.out.2.2.1 hBA)
      rw [if_pos (show vErr p.t p.n p.s.data.toList = 0 from hpok.2)] at cp
      have hnm : (⟨p.l.toArray⟩ : ByteArray) = p.nm := rfl
      have a1 := fun w => cat p.l [61] (by have := name_len hpok.1; omega) (by decide) w
      have a2 := fun w => cat (p.l ++ [61]) (showL p.t p.n p.s.data.toList) (by have := name_len hpok.1; simp; omega) (by have := show_len hpok.2; omega) w
      rw [hnm] at a1
      have HX : Hid (p.l ++ 61 :: showL p.t p.n p.s.data.toList = wordOf p) := rfl
      generalize showL p.t p.n p.s.data.toList = sl at cp a2 HX
      clear c0 c1' c2 c3 hp hT1 hpok hnm
      go_wp2_with (go_at_call 28; refine cp.mono ?_; rintro e W1 ⟨rfl, hB1⟩; refine Hid.out ?_)
      refine Lib.hid ?_
      obtain ⟨hz, ⟨g0, g1, g2, g3⟩, k0, k1, k2, k3⟩ := kept4P hB1
      have hB2 := on1B hBA hB1
      have hbase := hB2.size
      have hown1 : Hid (W1.ownsRow w.heap.size 9 1 u5 k (wcells (L.take k))) := own_on (HO.out.alloc _) hB1
      clear cp c1
      have HM : Hid (k + 1 ≤ maxLen ∧ (k + 1) * 16 ≤ 140737488355328) := by unfold maxLen; exact ⟨by omega, by omega⟩
      have hsz1 : w.heap.size ≤ W1.heap.size + 1 := by omega
      go_wp2_with (at_builtin; refine wpList_append_own _ rfl (.tmp 33) (.tmp 39) 68 rfl w.heap.size 9 i0 _ 1 16 Tryz.underlying68 hi0 hz0 hz1 hz2 rfl (by decide) u5 k (wcells (L.take k)) rfl (hown1.out.alloc _) ⟨W1.heap.size, 0, none⟩ 1 1 [.string ⟨(p.l ++ 61 :: sl).toArray⟩] rfl rfl (cell_new1 W1 _) (cell_one1 _) HM.out.1 HM.out.2 (by simp; omega) ?_; intro v1 w1 hown2 hgrow _; refine Hid.out ?_)
      refine Lib.hid ?_
      rw [HX.out, ← HW.out] at hown2
      go_wp2
      have R : PW w L v1 (.int .i64 ((k : Int) + 1)) w1 := ⟨k + 1, by omega, by go_num, hown2, (b_alloc hB2 _).grown hgrow (b_alloc hB2 _).size (fun j hj => (hown1.out.lt j hj).1)⟩
      refine ⟨?_, ?_⟩
      · first
          | exact R
          | ((repeat apply Exists.intro)
             refine ⟨?_, rfl⟩
             exact R)
      · simp [intOf]; omega
    · obtain rfl : k = L.length := by omega
      have hT2 : L.take L.length = L := List.take_length
      have hown := HO.out
      rw [hT2] at hown
      obtain ⟨g, cp, hv, hgl, hcells⟩ := words_at hown hpos
      subst hv
      have cj := Tryz.strings_Join g 0 cp (L.map fun p => (⟨(wordOf p).toArray⟩ : ByteArray)) ⟨#[44]⟩ wr (fun j x hx => by rw [Nat.zero_add]; exact hcells j x hx) hgl.1 (by simp; omega) (by simp; exact hgl.2)
        (by
          rw [show (L.map fun p => (⟨(wordOf p).toArray⟩ : ByteArray)).map (·.data.toList) = L.map wordOf by simp, joinW_eq]
          have := joinW_len (L.map wordOf) (fun w hw => by
            obtain ⟨p, hp, rfl⟩ := List.mem_map.1 hw
            exact word_len (HK.out.1 p hp))
          simp at this; omega)
      rw [show (L.map fun p => (⟨(wordOf p).toArray⟩ : ByteArray)).map (·.data.toList) = L.map wordOf by simp, joinW_eq, List.length_map, ← HS.out] at cj
      clear hT2 hown HO hcells c1
      go_wp2_with (go_at_call 29; refine cj.mono ?_; rintro e W1 ⟨rfl, hB1⟩)
      go_ret2
      exact ⟨rfl, on1B hB hB1⟩
set_option maxHeartbeats 4000000 in
set_option maxRecDepth 100000 in
theorem rprint_empty (ao : Option Addr) (cap : Nat) (w : World) (c : Calls Tryz.prog 27 #[.slice ao 0 cap] w fun e w' => e = .returned .nilIface ∧ Below w.heap.size w w') :
    Calls Tryz.prog 11 #[.slice ao 0 cap] w fun e w' => e = .returned (.tuple #[.string ⟨#[45]⟩, .nilIface]) ∧ Below w.heap.size w w' := by
  go_enter Tryz.func11, Tryz.ntmps11
  go_wp2_with (go_at_call 27; refine c.mono ?_; rintro e W0 ⟨rfl, hB0⟩)
  go_ret2
  exact ⟨rfl, hB0⟩
end Go.Proofs.YteabdlandbmdaaaGreatDoor

/-
  The walks of delta.copiedNode and delta.copied.
-/
namespace Go.Proofs.YteabdlandbmdaaaGreatDoor
open Go.RowKit
set_option linter.unusedVariables false
set_option linter.unusedSimpArgs false

def Nd.c (n : Nd) : Nd := ⟨n.id, n.kd, .nilIface, n.rc⟩
def cN (N : List Nd) : List Nd := N.map Nd.c

theorem b_undrew {w W : World} (h : Below w.drew.heap.size w.drew W) : Below w.heap.size w W := ⟨h.os, h.tape, h.output, h.size, h.block⟩
end Go.Proofs.YteabdlandbmdaaaGreatDoor
