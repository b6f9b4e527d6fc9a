/-
  Graphs that are right, in plain words: nodes and ties that rise, each of them right by itself; a binary search among ties.
-/
import Derived.Test.YtifcpjimhhpcpaaGreatDoorM23
import Derived.Laws.Externs
import Derived.Deep.QuietTactic
import Derived.BigQuiet
import Derived.BigGuard
import Derived.Deep.RegionWith
import Derived.Test.YtifcpjimhhpcpaaGreatDoorM10
namespace Go.Proofs.YtifcpjimhhpcpaaGreatDoor
open Go.RowKit
set_option linter.unusedVariables false
set_option linter.unusedSimpArgs false

/-- Nodes rise by their ids. -/
def SrtN (N : List Nd) : Prop := N.Pairwise fun a b => a.id < b.id
/-- How many are ahead of an id. -/
def loN (id : Int) : List Nd → Nat
  | [] => 0
  | n :: r => if n.id < id then loN id r + 1 else 0
theorem loN_le (id : Int) : ∀ l : List Nd, loN id l ≤ l.length
  | [] => Nat.le_refl _
  | n :: r => by have := loN_le id r; unfold loN; split <;> simp <;> omega
theorem loN_spec (id : Int) : ∀ {l : List Nd}, SrtN l → ∀ (i : Nat) (g : Nd), l[i]? = some g → (i < loN id l ↔ g.id < id)
  | [], _, i, g, hg => by simp at hg
  | x :: r, h, i, g, hg => by
    obtain ⟨h1, h2⟩ := List.pairwise_cons.1 h
    by_cases hx : x.id < id
    · have e : loN id (x :: r) = loN id r + 1 := by simp [loN, hx]
      rw [e]
      cases i with
      | zero => simp at hg; subst hg; simp [hx]
      | succ i =>
        have := loN_spec id h2 i g (by simpa using hg)
        rw [← this]; omega
    · have e : loN id (x :: r) = 0 := by simp [loN, hx]
      rw [e]
      have hge : x.id ≤ g.id := by
        cases i with
        | zero => simp at hg; subst hg; omega
        | succ i => have := h1 g (List.mem_of_getElem? (by simpa using hg)); omega
      constructor
      · intro h; omega
      · intro h; omega
/-- Is an id there, where it would stand? -/
def fndN (id : Int) (N : List Nd) : Bool := match N[loN id N]? with
  | some g => g.id == id
  | none => false
theorem cmpI_lt (x y : Int) : Lib.compareInt x y < 0 ↔ x < y := by unfold Lib.compareInt; split <;> (try split) <;> omega
theorem cmpI_zero (x y : Int) : Lib.compareInt x y = 0 ↔ x = y := by unfold Lib.compareInt; split <;> (try split) <;> omega

/-- A region that draws, whose operations read what is the same in every world that comes after this one: walked once. -/
theorem wp_region_after {P : Program} {X : Type} (F : X → World) {id : Nat} {Q : Exit → Act → World → Prop} {a : Act} {w : World} {l : List Oper} (hm : P.follows .mixedOrders = true) (hB : Region.lexB .any l.toArray = true)
    (hC : ∃ x, { w with drawn := w.drawn + 1 } = F x) (h : wpQuiet P l.toArray (fun w' => ∃ x, w' = F x) (fun a' => ∀ w', (∃ x, w' = F x) → Q .normal a' w') l a) : (Code.region id l.toArray true).wp P Q a w :=
  wp_region_quiet (C := fun w' => ∃ x, w' = F x) hm hB hC (by simpa using h)
/-- The worlds after this one, by a name each. -/
theorem after_all (w : World) : ∃ (X : Type) (_ : Nonempty X) (F : X → World), (∀ x, Below w.heap.size w (F x)) ∧ (∀ W, Below w.heap.size w W → ∃ x, W = F x) :=
  ⟨{ W // Below w.heap.size w W }, ⟨⟨w, Below.refl _ _⟩⟩, Subtype.val, fun x => x.2, fun W h => ⟨⟨W, h⟩, rfl⟩⟩

theorem loN_c (id : Int) : ∀ N : List Nd, loN id (cN N) = loN id N
  | [] => rfl
  | n :: r => by
    have := loN_c id r
    show loN id (n.c :: cN r) = _
    unfold loN
    rw [this]
    rfl
theorem fndN_c (id : Int) (N : List Nd) : fndN id (cN N) = fndN id N := by
  unfold fndN
  rw [loN_c]
  unfold cN
  rw [List.getElem?_map]
  cases N[loN id N]? <;> rfl
theorem chkN_srt : ∀ (N : List Nd) (o : Option Nd), chkN o N = 0 → (∀ q, o = some q → ∀ x ∈ N, q.id < x.id) ∧ SrtN N
  | [], o, _ => ⟨fun q _ x hx => (by cases hx), List.Pairwise.nil⟩
  | n :: r, o, h => by
    have hn : ndE o n = 0 := by
      by_cases e : ndE o n = 0
      · exact e
      · rw [chkN_bad e] at h; exact absurd h e
    rw [chkN_ok hn] at h
    obtain ⟨h1, h2⟩ := chkN_srt r (some n) h
    have hl : n.low o = false := by
      unfold ndE at hn
      by_cases a : idOk n.id = true
      · rw [if_pos a] at hn
        by_cases b : n.low o = true
        · rw [if_pos b] at hn; omega
        · simpa using b
      · rw [if_neg a] at hn; omega
    refine ⟨fun q hq x hx => ?_, List.pairwise_cons.2 ⟨h1 n rfl, h2⟩⟩
    subst hq
    have hlt : q.id < n.id := by simpa [Nd.low] using hl
    rcases List.mem_cons.1 hx with rfl | hx
    · exact hlt
    · exact Int.lt_trans hlt (h1 n rfl x hx)
theorem gErr_lens {N : List Nd} {T : List Te} (h : gErr N T = 0) : N.length ≤ 60 ∧ T.length ≤ 120 ∧ chkN none N = 0 ∧ chkT none T = 0 := by
  unfold gErr at h
  by_cases h1 : 60 < N.length ∨ 120 < T.length
  · rw [if_pos h1] at h; omega
  · rw [if_neg h1] at h
    by_cases h2 : chkN none N = 0
    · rw [if_pos h2] at h; exact ⟨by omega, by omega, h2, h⟩
    · rw [if_neg h2] at h; exact absurd h h2
theorem gErr_srt {N : List Nd} {T : List Te} (h : gErr N T = 0) : SrtN N := (chkN_srt N none (gErr_lens h).2.2.1).2

theorem chkN_rc : ∀ (N : List Nd) (o : Option Nd), chkN o N = 0 → ∀ n ∈ N, idOk n.id = true ∧ nErr n.kd.data.toList = 0 ∧ rErr n.rc = 0
  | [], o, _, n, hn => by cases hn
  | x :: r, o, h, n, hn => by
    have hx : ndE o x = 0 := by
      by_cases e : ndE o x = 0
      · exact e
      · rw [chkN_bad e] at h; exact absurd h e
    rw [chkN_ok hx] at h
    rcases List.mem_cons.1 hn with rfl | hn
    · unfold ndE at hx
      by_cases a : idOk n.id = true
      · rw [if_pos a] at hx
        by_cases b : n.low o = true
        · rw [if_pos b] at hx; omega
        · rw [if_neg b] at hx
          by_cases c : nErr n.kd.data.toList = 0
          · rw [if_pos c] at hx; exact ⟨a, c, hx⟩
          · rw [if_neg c] at hx; exact absurd hx c
      · rw [if_neg a] at hx; omega
    · exact chkN_rc r (some x) h n hn
theorem rErr_le {L : List Pr} (h : rErr L = 0) : L.length ≤ 8 := by
  unfold rErr at h
  by_cases e : 8 < L.length
  · rw [if_pos e] at h; omega
  · omega
theorem gErr_rc8 {N : List Nd} {T : List Te} (h : gErr N T = 0) : ∀ n ∈ N, n.rc.length ≤ 8 := fun n hn => rErr_le (chkN_rc N none (gErr_lens h).2.2.1 n hn).2.2

theorem ndE_c (o : Option Nd) (n : Nd) : ndE (o.map Nd.c) n.c = ndE o n := by
  cases o <;> rfl
theorem chkN_c : ∀ (N : List Nd) (o : Option Nd), chkN (o.map Nd.c) (cN N) = chkN o N
  | [], o => by cases o <;> rfl
  | n :: r, o => by
    show chkN (o.map Nd.c) (n.c :: cN r) = _
    have e := ndE_c o n
    by_cases h : ndE o n = 0
    · rw [chkN_ok h, chkN_ok (e.trans h)]
      exact chkN_c r (some n)
    · rw [chkN_bad h, chkN_bad (by rw [e]; exact h), e]
theorem gErr_c (N : List Nd) (T : List Te) : gErr (cN N) T = gErr N T := by
  unfold gErr
  rw [show chkN none (cN N) = chkN none N from chkN_c N none, show (cN N).length = N.length from List.length_map ..]
theorem cN_c (N : List Nd) : cN (cN N) = cN N := by unfold cN; rw [List.map_map]; rfl
theorem cN_len (N : List Nd) : (cN N).length = N.length := List.length_map ..
theorem cmpI_anti (x y : Int) : Lib.compareInt y x = -Lib.compareInt x y := by
  unfold Lib.compareInt
  by_cases h1 : x < y
  · rw [if_pos h1, if_neg (by omega), if_pos h1]; rfl
  · by_cases h2 : y < x
    · rw [if_pos h2, if_neg h1, if_pos h2]
    · rw [if_neg h2, if_neg h1, if_neg h1, if_neg h2]; rfl
theorem tCmp_anti (a b : Te) : tCmp b a = -tCmp a b := by
  unfold tCmp or3
  rw [cmpB_anti a.bd.data.toList b.bd.data.toList, cmpI_anti a.fr b.fr, cmpI_anti a.tt b.tt]
  by_cases h1 : Lib.compareBytes a.bd.data.toList b.bd.data.toList = 0
  · by_cases h2 : Lib.compareInt a.fr b.fr = 0
    · simp [h1, h2]
    · have : ¬ -Lib.compareInt a.fr b.fr = 0 := by omega
      simp [h1, h2, this]
  · have : ¬ -Lib.compareBytes a.bd.data.toList b.bd.data.toList = 0 := by omega
    simp [h1, this]
theorem te_ext {a b : Te} (h1 : a.bd.data.toList = b.bd.data.toList) (h2 : a.fr = b.fr) (h3 : a.tt = b.tt) : a = b := by
  obtain ⟨⟨⟨x⟩⟩, f, t⟩ := a
  obtain ⟨⟨⟨y⟩⟩, g, u⟩ := b
  simp at h1 h2 h3
  subst h1 h2 h3
  rfl
theorem tCmp_zero (a b : Te) : tCmp a b = 0 ↔ a = b := by
  unfold tCmp or3
  constructor
  · intro h
    by_cases h1 : Lib.compareBytes a.bd.data.toList b.bd.data.toList = 0
    · rw [if_pos h1] at h
      by_cases h2 : Lib.compareInt a.fr b.fr = 0
      · rw [if_pos h2] at h
        exact te_ext ((cmpB_zero _ _).1 h1) ((cmpI_zero _ _).1 h2) ((cmpI_zero _ _).1 h)
      · rw [if_neg h2] at h; exact absurd h h2
    · rw [if_neg h1] at h; exact absurd h h1
  · rintro rfl
    rw [if_pos ((cmpB_zero _ _).2 rfl), if_pos ((cmpI_zero _ _).2 rfl)]
    exact (cmpI_zero _ _).2 rfl
theorem tCmp_trans {a b c : Te} (h1 : tCmp a b < 0) (h2 : tCmp b c < 0) : tCmp a c < 0 := by
  unfold tCmp or3 at *
  have B1 := cmpB_anti a.bd.data.toList b.bd.data.toList
  by_cases e1 : Lib.compareBytes a.bd.data.toList b.bd.data.toList = 0
  · have q1 := (cmpB_zero _ _).1 e1
    rw [if_pos e1] at h1
    rw [q1]
    by_cases e2 : Lib.compareBytes b.bd.data.toList c.bd.data.toList = 0
    · rw [if_pos e2] at h2 ⊢
      by_cases f1 : Lib.compareInt a.fr b.fr = 0
      · have r1 := (cmpI_zero _ _).1 f1
        rw [if_pos f1, cmpI_lt] at h1
        rw [r1]
        by_cases f2 : Lib.compareInt b.fr c.fr = 0
        · rw [if_pos f2, cmpI_lt] at h2
          rw [if_pos f2, cmpI_lt]
          omega
        · rw [if_neg f2] at h2 ⊢
          exact h2
      · rw [if_neg f1, cmpI_lt] at h1
        by_cases f2 : Lib.compareInt b.fr c.fr = 0
        · have r2 := (cmpI_zero _ _).1 f2
          have : Lib.compareInt a.fr c.fr < 0 := (cmpI_lt _ _).2 (by omega)
          rw [if_neg (by omega)]
          exact this
        · rw [if_neg f2, cmpI_lt] at h2
          have : Lib.compareInt a.fr c.fr < 0 := (cmpI_lt _ _).2 (by omega)
          rw [if_neg (by omega)]
          exact this
    · rw [if_neg e2] at h2 ⊢
      exact h2
  · rw [if_neg e1] at h1
    by_cases e2 : Lib.compareBytes b.bd.data.toList c.bd.data.toList = 0
    · have q2 := (cmpB_zero _ _).1 e2
      rw [← q2, if_neg e1]
      exact h1
    · rw [if_neg e2] at h2
      have h3 := cmpB_trans _ _ _ (Int.le_of_lt h1) (Int.le_of_lt h2)
      have h4 : ¬ Lib.compareBytes a.bd.data.toList c.bd.data.toList = 0 := fun e => by
        have := (cmpB_zero _ _).1 e
        rw [this] at h1
        have := cmpB_anti c.bd.data.toList b.bd.data.toList
        omega
      rw [if_neg h4]
      omega
/-- Ties rise. -/
def SrtT (T : List Te) : Prop := T.Pairwise fun a b => tCmp a b < 0
theorem chkN_iff : ∀ (N : List Nd) (o : Option Nd), chkN o N = 0 ↔ (∀ q, o = some q → ∀ x ∈ N, q.id < x.id) ∧ SrtN N ∧ ∀ n ∈ N, ndE none n = 0
  | [], o => by simp [chkN_end, SrtN]
  | n :: r, o => by
    have hsplit : ndE o n = 0 ↔ (∀ q, o = some q → q.id < n.id) ∧ ndE none n = 0 := by
      unfold ndE
      by_cases a : idOk n.id = true
      · rw [if_pos a, if_pos a]
        cases o with
        | none => simp [Nd.low]
        | some q =>
          by_cases b : n.id ≤ q.id
          · have : n.low (some q) = true := by simpa [Nd.low] using b
            rw [if_pos this]
            constructor
            · intro h; omega
            · rintro ⟨h, _⟩; have := h q rfl; omega
          · have : ¬ n.low (some q) = true := by simpa [Nd.low] using b
            rw [if_neg this, if_neg (show ¬ n.low none = true by simp [Nd.low])]
            constructor
            · intro h; exact ⟨fun q' hq => by injection hq with hq; subst hq; omega, h⟩
            · exact fun h => h.2
      · rw [if_neg a, if_neg a]
        constructor
        · intro h; omega
        · rintro ⟨_, h⟩; omega
    constructor
    · intro h
      have hn : ndE o n = 0 := by
        by_cases e : ndE o n = 0
        · exact e
        · rw [chkN_bad e] at h; exact absurd h e
      rw [chkN_ok hn] at h
      obtain ⟨h1, h2, h3⟩ := (chkN_iff r (some n)).1 h
      obtain ⟨g1, g2⟩ := hsplit.1 hn
      refine ⟨fun q hq x hx => ?_, List.pairwise_cons.2 ⟨h1 n rfl, h2⟩, fun x hx => ?_⟩
      · rcases List.mem_cons.1 hx with rfl | hx
        · exact g1 q hq
        · exact Int.lt_trans (g1 q hq) (h1 n rfl x hx)
      · rcases List.mem_cons.1 hx with rfl | hx
        · exact g2
        · exact h3 x hx
    · rintro ⟨h1, h2, h3⟩
      obtain ⟨p1, p2⟩ := List.pairwise_cons.1 h2
      have hn : ndE o n = 0 := hsplit.2 ⟨fun q hq => h1 q hq n (by simp), h3 n (by simp)⟩
      rw [chkN_ok hn]
      exact (chkN_iff r (some n)).2 ⟨fun q hq x hx => by injection hq with hq; subst hq; exact p1 x hx, p2, fun x hx => h3 x (by simp [hx])⟩
theorem chkT_iff : ∀ (N : List Te) (o : Option Te), chkT o N = 0 ↔ (∀ q, o = some q → ∀ x ∈ N, tCmp q x < 0) ∧ SrtT N ∧ ∀ n ∈ N, teE none n = 0
  | [], o => by simp [chkT_end, SrtT]
  | n :: r, o => by
    have hsplit : teE o n = 0 ↔ (∀ q, o = some q → tCmp q n < 0) ∧ teE none n = 0 := by
      unfold teE
      by_cases c : nErr n.bd.data.toList = 0
      · rw [if_pos c, if_pos c]
        by_cases a : (idOk n.fr && idOk n.tt) = true
        · rw [if_pos a, if_pos a]
          cases o with
          | none => simp [Te.low]
          | some q =>
            have hq' := tCmp_anti q n
            by_cases b : tCmp n q ≤ 0
            · have : n.low (some q) = true := by simpa [Te.low] using b
              rw [if_pos this]
              constructor
              · intro h; omega
              · rintro ⟨h, _⟩; have := h q rfl; omega
            · have : ¬ n.low (some q) = true := by simpa [Te.low] using b
              rw [if_neg this, if_neg (by simp [Te.low])]
              constructor
              · intro h; exact ⟨fun q' hq => by injection hq with hq; subst hq; omega, h⟩
              · exact fun h => h.2
        · rw [if_neg a, if_neg a]
          constructor
          · intro h; omega
          · rintro ⟨_, h⟩; omega
      · rw [if_neg c, if_neg c]
        constructor
        · intro h; exact absurd h c
        · rintro ⟨_, h⟩; exact absurd h c
    constructor
    · intro h
      have hn : teE o n = 0 := by
        by_cases e : teE o n = 0
        · exact e
        · rw [chkT_bad e] at h; exact absurd h e
      rw [chkT_ok hn] at h
      obtain ⟨h1, h2, h3⟩ := (chkT_iff r (some n)).1 h
      obtain ⟨g1, g2⟩ := hsplit.1 hn
      refine ⟨fun q hq x hx => ?_, List.pairwise_cons.2 ⟨h1 n rfl, h2⟩, fun x hx => ?_⟩
      · rcases List.mem_cons.1 hx with rfl | hx
        · exact g1 q hq
        · exact tCmp_trans (g1 q hq) (h1 n rfl x hx)
      · rcases List.mem_cons.1 hx with rfl | hx
        · exact g2
        · exact h3 x hx
    · rintro ⟨h1, h2, h3⟩
      obtain ⟨p1, p2⟩ := List.pairwise_cons.1 h2
      have hn : teE o n = 0 := hsplit.2 ⟨fun q hq => h1 q hq n (by simp), h3 n (by simp)⟩
      rw [chkT_ok hn]
      exact (chkT_iff r (some n)).2 ⟨fun q hq x hx => by injection hq with hq; subst hq; exact p1 x hx, p2, fun x hx => h3 x (by simp [hx])⟩
theorem gErr_iff (N : List Nd) (T : List Te) : gErr N T = 0 ↔ (N.length ≤ 60 ∧ SrtN N ∧ ∀ n ∈ N, ndE none n = 0) ∧ (T.length ≤ 120 ∧ SrtT T ∧ ∀ t ∈ T, teE none t = 0) := by
  constructor
  · intro h
    obtain ⟨h1, h2, h3, h4⟩ := gErr_lens h
    obtain ⟨_, a1, a2⟩ := (chkN_iff N none).1 h3
    obtain ⟨_, b1, b2⟩ := (chkT_iff T none).1 h4
    exact ⟨⟨h1, a1, a2⟩, ⟨h2, b1, b2⟩⟩
  · rintro ⟨⟨h1, a1, a2⟩, ⟨h2, b1, b2⟩⟩
    have e1 : chkN none N = 0 := (chkN_iff N none).2 ⟨fun q hq => (by cases hq), a1, a2⟩
    have e2 : chkT none T = 0 := (chkT_iff T none).2 ⟨fun q hq => (by cases hq), b1, b2⟩
    unfold gErr
    rw [if_neg (by omega), if_pos e1]
    exact e2
theorem gErr_sub {N N' : List Nd} {T T' : List Te} (h : gErr N T = 0) (hN : List.Sublist N' N) (hT : List.Sublist T' T) : gErr N' T' = 0 := by
  obtain ⟨⟨h1, a1, a2⟩, ⟨h2, b1, b2⟩⟩ := (gErr_iff N T).1 h
  exact (gErr_iff N' T').2 ⟨⟨Nat.le_trans hN.length_le h1, a1.sublist hN, fun n hn => a2 n (hN.mem hn)⟩, ⟨Nat.le_trans hT.length_le h2, b1.sublist hT, fun t ht => b2 t (hT.mem ht)⟩⟩

/-- How many are ahead of a tie. -/
def loT (t : Te) : List Te → Nat
  | [] => 0
  | n :: r => if tCmp n t < 0 then loT t r + 1 else 0
theorem loT_le (t : Te) : ∀ l : List Te, loT t l ≤ l.length
  | [] => Nat.le_refl _
  | n :: r => by have := loT_le t r; unfold loT; split <;> simp <;> omega
theorem loT_spec (t : Te) : ∀ {l : List Te}, SrtT l → ∀ (i : Nat) (g : Te), l[i]? = some g → (i < loT t l ↔ tCmp g t < 0)
  | [], _, i, g, hg => by simp at hg
  | x :: r, h, i, g, hg => by
    obtain ⟨h1, h2⟩ := List.pairwise_cons.1 h
    by_cases hx : tCmp x t < 0
    · have e : loT t (x :: r) = loT t r + 1 := by simp [loT, hx]
      rw [e]
      cases i with
      | zero => simp at hg; subst hg; simp [hx]
      | succ i =>
        have := loT_spec t h2 i g (by simpa using hg)
        rw [← this]; omega
    · have e : loT t (x :: r) = 0 := by simp [loT, hx]
      rw [e]
      have hge : ¬ tCmp g t < 0 := by
        cases i with
        | zero => simp at hg; subst hg; exact hx
        | succ i =>
          intro hl
          have := h1 g (List.mem_of_getElem? (by simpa using hg))
          exact hx (tCmp_trans this hl)
      constructor
      · intro h; omega
      · intro h; exact absurd h hge
/-- Is a tie there, where it would stand? -/
def fndT (t : Te) (T : List Te) : Bool := match T[loT t T]? with
  | some g => tCmp g t == 0
  | none => false

set_option maxHeartbeats 8000000 in
set_option maxRecDepth 100000 in
theorem searchT_some (b off cap : Nat) (L : List Te) (f : Te) (w : World) (hb : b < w.heap.size) (hL : LiesT w b off L) (hs : SrtT L) (hn : L.length ≤ 1000) :
    Calls Tryz.prog 37 #[.slice (some ⟨b, off, none⟩) L.length cap, f.one, .func (.func 38) #[] #[]] w fun e w' => e = .returned (.tuple #[.int .i64 (loT f L), .bool (fndT f L)]) ∧ Below w.heap.size w w' := by
  have hlo := loT_le f L
  have HS : Hid (LiesT w b off L ∧ SrtT L) := ⟨hL, hs⟩
  have hB0 : Below w.heap.size w (w.alloc (.cells #[.string f.bd, .int .i64 f.fr, .int .i64 f.tt] 82)) := b_allocK (Below.refl _ _) (Nat.le_refl _) _
  obtain ⟨w0, hw0⟩ : ∃ w0, w0 = w.alloc (.cells #[.string f.bd, .int .i64 f.fr, .int .i64 f.tt] 82) := ⟨_, rfl⟩
  have HW : Hid (w0.cell? ⟨w.heap.size, 0, none⟩ = some (.string f.bd) ∧ w0.cell? ⟨w.heap.size, 1, none⟩ = some (.int .i64 f.fr) ∧ w0.cell? ⟨w.heap.size, 2, none⟩ = some (.int .i64 f.tt) ∧ w.heap.size < w0.heap.size) := by
    subst hw0; refine ⟨?_, ?_, ?_, ?_⟩ <;> simp
  rw [← hw0] at hB0
  have HB0 : Hid (Below w.heap.size w w0) := hB0
  clear hL hs hB0
  go_enter Tryz.func37, Tryz.ntmps37
  go_wp2
  rw [← hw0]
  clear hw0
  go_loopw [9, 10] (fun i j wr => ∃ p q : Nat, p ≤ loT f L ∧ loT f L ≤ q ∧ q ≤ L.length ∧ i = .int .i64 p ∧ j = .int .i64 q ∧ Below w0.heap.size w0 wr) (fun i j _ => (intOf j).toNat - (intOf i).toNat)
  case atStart => exact ⟨0, L.length, Nat.zero_le _, hlo, Nat.le_refl _, rfl, rfl, Below.refl _ _⟩
  case round =>
    obtain ⟨p, q, h1, h2, h3, rfl, rfl, hB⟩ := hrel
    have HR : Hid (p ≤ loT f L ∧ loT f L ≤ q ∧ Below w0.heap.size w0 wr) := ⟨h1, h2, hB⟩
    obtain ⟨g0, g1, g2, g4⟩ := HW.out
    have e0 := (hB.cell (p := ⟨w.heap.size, 0, none⟩) g4).trans g0
    have e1 := (hB.cell (p := ⟨w.heap.size, 1, none⟩) g4).trans g1
    have e2 := (hB.cell (p := ⟨w.heap.size, 2, none⟩) g4).trans g2
    have hBw : Below w.heap.size w wr := on1K HB0.out hB (Nat.le_refl _)
    by_cases hlt : p < q
    · obtain ⟨m, hm⟩ : ∃ m, m = (p + q) / 2 := ⟨_, rfl⟩
      have hml : m < L.length := by omega
      have hmq : m < q := by omega
      have hpm : p ≤ m := by omega
      have hdiv : ((p : Int) + (q : Int)) / 2 = (m : Int) := by omega
      obtain ⟨x, hx⟩ : ∃ x, L[m]? = some x := ⟨L[m], by simp [hml]⟩
      obtain ⟨c0, c1, c2⟩ := HS.out.1 m x hx
      have d0 := (hBw.cell (p := ⟨b, off + m * 3, none⟩) hb).trans c0
      have d1 := (hBw.cell (p := ⟨b, off + m * 3 + 1, none⟩) hb).trans c1
      have d2 := (hBw.cell (p := ⟨b, off + m * 3 + 2, none⟩) hb).trans c2
      have hsp := loT_spec f HS.out.2 m x hx
      have cb := fun W => cmpT_any x f W
      obtain ⟨r, hr⟩ : ∃ r, tCmp x f = r := ⟨_, rfl⟩
      rw [hr] at cb hsp
      clear c0 c1 c2 g0 g1 g2 hr hx hm hB
      by_cases hr0 : r < 0
      · have HM : Hid (m + 1 ≤ loT f L) := hsp.2 hr0
        clear hsp h1 h2
        go_wp2_with fail
        try rw [hdiv]
        clear hdiv
        go_region_with (go_at_call 38; refine (cb _).mono ?_; rintro e W2 ⟨rfl, hB2⟩)
        all_goals
          go_wp2
          go_roundw
          case rel => exact ⟨m + 1, q, HM.out, HR.out.2.1, h3, by go_num, rfl, on1K HR.out.2.2.drew hB2 (Nat.le_refl _)⟩
          case measure => simp [intOf]; omega
      · have HM : Hid (loT f L ≤ m) := by
          show _ ≤ _
          have : ¬ m < loT f L := fun h => hr0 (hsp.1 h)
          omega
        clear hsp h1 h2
        go_wp2_with fail
        try rw [hdiv]
        clear hdiv
        go_region_with (go_at_call 38; refine (cb _).mono ?_; rintro e W2 ⟨rfl, hB2⟩)
        all_goals
          go_wp2
          go_roundw
          case rel => exact ⟨p, m, HR.out.1, HM.out, by omega, rfl, by go_num, on1K HR.out.2.2.drew hB2 (Nat.le_refl _)⟩
          case measure => simp [intOf]; omega
    · have hpl : p = loT f L := by omega
      by_cases hl : p < L.length
      · obtain ⟨x, hx⟩ : ∃ x, L[p]? = some x := ⟨L[p], by simp [hl]⟩
        obtain ⟨c0, c1, c2⟩ := HS.out.1 p x hx
        have d0 := (hBw.cell (p := ⟨b, off + p * 3, none⟩) hb).trans c0
        have d1 := (hBw.cell (p := ⟨b, off + p * 3 + 1, none⟩) hb).trans c1
        have d2 := (hBw.cell (p := ⟨b, off + p * 3 + 2, none⟩) hb).trans c2
        have cb := fun W => cmpT_any x f W
        have hfnd : fndT f L = (tCmp x f == 0) := by
          unfold fndT; rw [← hpl, hx]
        obtain ⟨r, hr⟩ : ∃ r, tCmp x f = r := ⟨_, rfl⟩
        rw [hr] at cb hfnd
        have HF : Hid (fndT f L = (r == 0) ∧ p = loT f L) := ⟨hfnd, hpl⟩
        have hpi : (p : Int) < (L.length : Int) := by omega
        clear c0 c1 c2 g0 g1 g2 hr hx hB hfnd hpl h1 h2
        have hbr : b < wr.heap.size := Nat.lt_of_lt_of_le hb hBw.size
        have htr : w.heap.size < wr.heap.size := Nat.lt_of_lt_of_le g4 HR.out.2.2.size
        obtain ⟨X, hX, F, hF1, hF2⟩ := after_all wr
        have k0 : ∀ y, (F y).cell? ⟨b, off + p * 3, none⟩ = some (.string x.bd) := fun y => ((hF1 y).cell (p := ⟨b, off + p * 3, none⟩) hbr).trans d0
        have k1 : ∀ y, (F y).cell? ⟨b, off + p * 3 + 1, none⟩ = some (.int .i64 x.fr) := fun y => ((hF1 y).cell (p := ⟨b, off + p * 3 + 1, none⟩) hbr).trans d1
        have k2 : ∀ y, (F y).cell? ⟨b, off + p * 3 + 2, none⟩ = some (.int .i64 x.tt) := fun y => ((hF1 y).cell (p := ⟨b, off + p * 3 + 2, none⟩) hbr).trans d2
        have l0 : ∀ y, (F y).cell? ⟨w.heap.size, 0, none⟩ = some (.string f.bd) := fun y => ((hF1 y).cell (p := ⟨w.heap.size, 0, none⟩) htr).trans e0
        have l1 : ∀ y, (F y).cell? ⟨w.heap.size, 1, none⟩ = some (.int .i64 f.fr) := fun y => ((hF1 y).cell (p := ⟨w.heap.size, 1, none⟩) htr).trans e1
        have l2 : ∀ y, (F y).cell? ⟨w.heap.size, 2, none⟩ = some (.int .i64 f.tt) := fun y => ((hF1 y).cell (p := ⟨w.heap.size, 2, none⟩) htr).trans e2
        have cF : ∀ y, Calls Tryz.prog 38 #[x.one, f.one] (F y) fun e w'' => e = .returned (.int .i64 r) ∧ ∃ z, w'' = F z := fun y => (cb (F y)).mono fun e w'' h => ⟨h.1, hF2 _ (on1K (hF1 y) h.2 (Nat.le_refl _))⟩
        have HX : Hid (∃ z, { wr with drawn := wr.drawn + 1 } = F z) := hF2 _ (Below.refl _ wr).drew
        have HF1 : Hid (∀ y, Below wr.heap.size wr (F y)) := hF1
        clear hF1 hF2 cb d0 d1 d2 e0 e1 e2
        go_wp2_with fail
        refine wp_region_after F (by kernel_rfl) (by kernel_rfl) HX.out ?_
        repeat (go_big_quiet_step (exact cF _))
        refine wpQuiet_nil ?_
        intro W2 hw2
        obtain ⟨y, rfl⟩ := hw2
        go_wp2
        go_ret2
        exact ⟨ret_v (by rw [HF.out.1, ← HF.out.2]; rfl), on1K hBw (HF1.out y) (Nat.le_refl _)⟩
      · have hfnd : fndT f L = false := by
          unfold fndT; rw [← hpl, List.getElem?_eq_none (by omega)]
        have HF : Hid (fndT f L = false ∧ p = loT f L) := ⟨hfnd, hpl⟩
        have hpi : ¬ (p : Int) < (L.length : Int) := by omega
        have hpd : decide ((p : Int) < (L.length : Int)) = false := by simpa using hpi
        clear g0 g1 g2 hB hfnd hpl h1 h2
        go_wp2_with fail
        go_quiet (fail)
        go_wp2
        go_ret2
        exact ⟨ret_v (by rw [HF.out.1, ← HF.out.2]; rfl), b_drewK hBw _⟩
set_option maxHeartbeats 4000000 in
theorem searchT_nil (ao : Option Addr) (c : Nat) (f : Te) (w : World) :
    Calls Tryz.prog 37 #[.slice ao 0 c, f.one, .func (.func 38) #[] #[]] w fun e w' => e = .returned (.tuple #[.int .i64 0, .bool false]) ∧ Below w.heap.size w w' := by
  have hB0 : Below w.heap.size w (w.alloc (.cells #[.string f.bd, .int .i64 f.fr, .int .i64 f.tt] 82)) := b_allocK (Below.refl _ _) (Nat.le_refl _) _
  obtain ⟨w0, hw0⟩ : ∃ w0, w0 = w.alloc (.cells #[.string f.bd, .int .i64 f.fr, .int .i64 f.tt] 82) := ⟨_, rfl⟩
  rw [← hw0] at hB0
  go_enter Tryz.func37, Tryz.ntmps37
  go_wp2
  rw [← hw0]
  clear hw0
  go_loopw [9, 10] (fun i j wr => i = .int .i64 0 ∧ j = .int .i64 0 ∧ wr = w0) (fun i j _ => 0)
  case atStart => exact ⟨rfl, rfl, rfl⟩
  case round =>
    obtain ⟨rfl, rfl, rfl⟩ := hrel
    go_wp2_with fail
    go_quiet (fail)
    go_wp2
    go_ret2
    exact ⟨rfl, b_drewK hB0 _⟩
theorem searchT_any {v : Value} {L : List Te} {w : World} (h : IsT w v L) (hs : SrtT L) (hn : L.length ≤ 1000) (f : Te) :
    Calls Tryz.prog 37 #[v, f.one, .func (.func 38) #[] #[]] w fun e w' => e = .returned (.tuple #[.int .i64 (loT f L), .bool (fndT f L)]) ∧ Below w.heap.size w w' := by
  obtain ⟨ao, c, rfl, hc, rfl | ⟨b, off, rfl, hb, hl⟩⟩ := h
  · exact searchT_nil ao c f w
  · exact searchT_some b off c L f w hb hl hs hn
end Go.Proofs.YtifcpjimhhpcpaaGreatDoor

/-
  The walks of find and of what it calls, and of kinref2.In.
-/
namespace Go.Proofs.YtifcpjimhhpcpaaGreatDoor
open Go.RowKit
set_option linter.unusedVariables false
set_option linter.unusedSimpArgs false

/-- Where the node of an id stands. -/
def idxN (id : Int) : List Nd → Nat → Int
  | [], _ => -1
  | n :: r, k => if n.id = id then (k : Int) else idxN id r (k + 1)
/-- Is there such a node? -/
def hasId (N : List Nd) (id : Int) : Bool := N.any fun n => n.id == id
theorem idxN_neg (id : Int) : ∀ (N : List Nd) (k : Nat), (idxN id N k < 0) ↔ hasId N id = false
  | [], k => by simp [idxN, hasId]
  | n :: r, k => by
    have ih := idxN_neg id r (k + 1)
    unfold idxN
    by_cases h : n.id = id
    · rw [if_pos h]; simp [hasId, h]
    · rw [if_neg h, ih]; simp [hasId, h]
/-- The fault of finding a node. -/
def fE (N : List Nd) (T : List Te) (id : Int) : Int := if gErr N T = 0 then (if hasId N id = true then 0 else 5) else gErr N T

set_option maxHeartbeats 1000000 in
theorem find1_any (n : Nd) (p : Nat) (id : Int) (w : World) (hp : p < w.heap.size) (hc : w.cell? ⟨p, 0, none⟩ = some (.int .i64 id)) (hv : ∃ a l c, n.rv = .slice a l c) :
    Calls Tryz.prog 41 #[n.one, .pointer (some ⟨p, 0, none⟩)] w fun e w' => e = .returned (.bool (n.id == id)) ∧ Below w.heap.size w w' := by
  obtain ⟨ni, kd, rv, rc⟩ := n
  obtain ⟨a, l, c, h⟩ := hv
  simp only at h ⊢
  subst h
  have hB : Below w.heap.size w (w.alloc (.cells #[.int .i64 ni, .string kd, .slice a l c] 38)) := b_alloc (Below.refl _ _) _
  have hc' := (hB.cell (p := ⟨p, 0, none⟩) hp).trans hc
  have hpn : ¬ p = w.heap.size := by omega
  go_enter Tryz.func41, Tryz.ntmps41
  go_wp2
  go_ret
  exact ⟨rfl, hB⟩

set_option maxHeartbeats 1000000 in
set_option maxRecDepth 100000 in
theorem index_any {ao : Option Addr} {cn : Nat} {N : List Nd} {w : World} (hn : N = [] ∨ ∃ b off, ao = some ⟨b, off, none⟩ ∧ b < w.heap.size ∧ LiesN w b off N) (h60 : N.length ≤ 60) (p : Nat) (id : Int) (hp : p < w.heap.size) (hc : w.cell? ⟨p, 0, none⟩ = some (.int .i64 id)) :
    Calls Tryz.prog 40 #[.slice ao N.length cn, .func (.func 41) #[] #[.pointer (some ⟨p, 0, none⟩)]] w fun e w' => e = .returned (.int .i64 (idxN id N 0)) ∧ Below w.heap.size w w' := by
  go_enter Tryz.func40, Tryz.ntmps40
  go_wp2
  go_loopw [8] (fun i wr => ∃ k : Nat, k ≤ N.length ∧ i = .int .i64 k ∧ idxN id N 0 = idxN id (N.drop k) k ∧ Below w.heap.size w wr) (fun i _ => N.length - (intOf i).toNat)
  case atStart => exact ⟨0, Nat.zero_le _, rfl, rfl, Below.refl _ _⟩
  case round =>
    obtain ⟨k, hk, rfl, hx, hB⟩ := hrel
    have HX : Hid (idxN id N 0 = idxN id (N.drop k) k) := hx
    clear hx
    by_cases hlt : k < N.length
    · obtain ⟨n, hn'⟩ : ∃ n, N[k]? = some n := ⟨N[k], by simp [hlt]⟩
      rcases hn with rfl | ⟨b, off, rfl, hb, hL⟩
      · exact absurd hlt (by simp)
      have HD : Hid (N.drop k = n :: N.drop (k + 1)) := dropN hn'
      obtain ⟨c0, c1, c2, cR⟩ := hL k n hn'
      have d0 := (hB.cell (p := ⟨b, off + k * 3, none⟩) hb).trans c0
      have d1 := (hB.cell (p := ⟨b, off + k * 3 + 1, none⟩) hb).trans c1
      have d2 := (hB.cell (p := ⟨b, off + k * 3 + 2, none⟩) hb).trans c2
      obtain ⟨av, cv, hv, _⟩ := cR
      have cf := find1_any n p id wr (Nat.lt_of_lt_of_le hp hB.size) ((hB.cell hp).trans hc) ⟨av, n.rc.length, cv, hv⟩
      have HL : Hid (LiesN w b off N) := hL
      clear c0 c1 c2 hn' hL hc
      obtain ⟨ni, kd, rv, rc⟩ := n
      simp only at hv d0 d1 d2 cf HD
      subst hv
      by_cases he : ni = id
      · have H : Hid (idxN id N 0 = (k : Int)) := by
          show _ = _
          rw [HX.out, HD.out]; unfold idxN; rw [if_pos he]
        have hb' : (ni == id) = true := by simpa using he
        rw [hb'] at cf
        clear HX HD he hb'
        go_wp2_with (first | (go_at_call 41; refine cf.mono ?_; rintro e W2 ⟨rfl, hB2⟩))
        go_ret
        exact ⟨ret_v (congrArg (Value.int .i64) H.out.symm), on1 hB hB2⟩
      · have H : Hid (idxN id N 0 = idxN id (N.drop (k + 1)) (k + 1)) := by
          show _ = _
          rw [HX.out, HD.out]; conv => lhs; unfold idxN; rw [if_neg he]
        have hb' : (ni == id) = false := by simpa using he
        rw [hb'] at cf
        clear HX HD he hb'
        go_wp2_with (first | (go_at_call 41; refine cf.mono ?_; rintro e W2 ⟨rfl, hB2⟩))
        go_roundw
        case rel => exact ⟨k + 1, by omega, by go_num, H.out, on1 hB hB2⟩
        case measure => simp [intOf]; omega
    · have hd : N.drop k = [] := List.drop_eq_nil_of_le (by omega)
      have H : Hid (idxN id N 0 = -1) := by
        show _ = _
        rw [HX.out, hd]; rfl
      clear HX hd
      go_wp2
      go_ret
      exact ⟨ret_v (congrArg (Value.int .i64) H.out.symm), hB⟩

theorem fE_bad {N : List Nd} {T : List Te} (id : Int) (h : ¬ gErr N T = 0) : fE N T id = gErr N T := by unfold fE; rw [if_neg h]
theorem fE_ok {N : List Nd} {T : List Te} {id : Int} (h : gErr N T = 0) (h2 : hasId N id = true) : fE N T id = 0 := by unfold fE; rw [if_pos h, if_pos h2]
theorem fE_no {N : List Nd} {T : List Te} {id : Int} (h : gErr N T = 0) (h2 : hasId N id = false) : fE N T id = 5 := by unfold fE; rw [if_pos h, h2]; rfl
theorem gErr_len {N : List Nd} {T : List Te} (h : gErr N T = 0) : N.length ≤ 60 ∧ T.length ≤ 120 := by
  unfold gErr at h
  split at h
  · cases h
  · omega

set_option maxHeartbeats 1000000 in
set_option maxRecDepth 100000 in
theorem find_any {vn vt : Value} {N : List Nd} {T : List Te} {w : World} (hN : IsN w vn N) (hT : IsT w vt T) (zN : SzN N) (zT : SzT T) (lN : N.length ≤ maxLen) (lT : T.length ≤ maxLen) (id : Int) :
    Calls Tryz.prog 19 #[.agg #[vn, vt], .int .i64 id] w fun e w' => ∃ x, e = .returned (.tuple #[.int .i64 x, errV (fE N T id)]) ∧ Below w.heap.size w w' := by
  have hN' := hN
  obtain ⟨an, cn, rfl, hcn, hn⟩ := hN
  have hT' := hT
  obtain ⟨am, cm, rfl, hcm, hm⟩ := hT
  have hB : Below w.heap.size w ((w.alloc (.cells #[.slice an N.length cn, .slice am T.length cm] 29)).alloc (.cells #[.int .i64 id] 3)) := b_alloc (b_alloc (Below.refl _ _) _) _
  have cc := gcheck_any (hN'.on hB) (hT'.on hB) zN zT lN lT
  by_cases hg : gErr N T = 0
  · rw [hg, errV_0] at cc
    have g0 : ((w.alloc (.cells #[.slice an N.length cn, .slice am T.length cm] 29)).alloc (.cells #[.int .i64 id] 3)).cell? ⟨w.heap.size, 0, none⟩ = some (.slice an N.length cn) := by simp
    have g2 : ((w.alloc (.cells #[.slice an N.length cn, .slice am T.length cm] 29)).alloc (.cells #[.int .i64 id] 3)).cell? ⟨w.heap.size + 1, 0, none⟩ = some (.int .i64 id) := by simp
    have ci := fun W (hW : Below ((w.alloc (.cells #[.slice an N.length cn, .slice am T.length cm] 29)).alloc (.cells #[.int .i64 id] 3)).heap.size ((w.alloc (.cells #[.slice an N.length cn, .slice am T.length cm] 29)).alloc (.cells #[.int .i64 id] 3)) W) => index_any (ao := an) (cn := cn) (N := N) (w := W) (by
      rcases hn with h | ⟨b, off, h1, h2, h3⟩
      · exact .inl h
      · exact .inr ⟨b, off, h1, Nat.lt_of_lt_of_le h2 (on1 hB hW).size, h3.on h2 (on1 hB hW)⟩) (gErr_len hg).1 (w.heap.size + 1) id (by have := hW.size; simp at this; omega) ((hW.cell (by simp)).trans g2)
    have HG : Hid (∀ W, Below ((w.alloc (.cells #[.slice an N.length cn, .slice am T.length cm] 29)).alloc (.cells #[.int .i64 id] 3)).heap.size ((w.alloc (.cells #[.slice an N.length cn, .slice am T.length cm] 29)).alloc (.cells #[.int .i64 id] 3)) W → W.cell? ⟨w.heap.size, 0, none⟩ = some (.slice an N.length cn)) := fun W hW => (hW.cell (by simp; omega)).trans g0
    obtain ⟨r, hr⟩ : ∃ r, idxN id N 0 = r := ⟨_, rfl⟩
    rw [hr] at ci
    by_cases h0 : r < 0
    · have H : Hid (errV (fE N T id) = .iface 66 (.int .i64 5)) := by
        show _ = _
        rw [fE_no hg ((idxN_neg id N 0).1 (by omega))]; rfl
      clear g0 g2 hg hr hn hm
      go_enter Tryz.func19, Tryz.ntmps19
      go_wp2_with (first | (go_at_call 39; refine cc.mono ?_; rintro e W2 ⟨rfl, hB2⟩; have k0 := HG.out W2 hB2) | (go_at_call 40; refine (ci _ hB2).mono ?_; rintro e W3 ⟨rfl, hB3⟩))
      go_ret2
      exact ⟨0, by rw [H.out]; rfl, on1 (on1 hB hB2) hB3⟩
    · have H : Hid (errV (fE N T id) = .nilIface) := by
        show _ = _
        rw [fE_ok hg (by
          cases hh : hasId N id
          · exact absurd ((idxN_neg id N 0).2 hh) (by omega)
          · rfl)]; rfl
      clear g0 g2 hg hr hn hm
      go_enter Tryz.func19, Tryz.ntmps19
      go_wp2_with (first | (go_at_call 39; refine cc.mono ?_; rintro e W2 ⟨rfl, hB2⟩; have k0 := HG.out W2 hB2) | (go_at_call 40; refine (ci _ hB2).mono ?_; rintro e W3 ⟨rfl, hB3⟩))
      go_ret2
      exact ⟨r, by rw [H.out]; rfl, on1 (on1 hB hB2) hB3⟩
  · have H : Hid (errV (fE N T id) = .iface 66 (.int .i64 (gErr N T))) := by
      show _ = _
      rw [fE_bad id hg, errV_ne hg]
    rw [errV_ne hg] at cc
    clear hg hn hm
    go_enter Tryz.func19, Tryz.ntmps19
    go_wp2_with (first | (go_at_call 39; refine cc.mono ?_; rintro e W2 ⟨rfl, hB2⟩))
    go_ret2
    exact ⟨0, by rw [H.out]; rfl, on1 hB hB2⟩
end Go.Proofs.YtifcpjimhhpcpaaGreatDoor
