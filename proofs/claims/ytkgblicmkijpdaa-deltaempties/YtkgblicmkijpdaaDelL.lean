/-
  Graphs that are right, in plain words: nodes and ties that rise, each of them right by itself; without one of its nodes a graph is right.
-/
import Derived.Test.YtkgblicmkijpdaaCmpB
import Derived.Test.YtkgblicmkijpdaaDelI
namespace Go.Proofs.Ytkgblicmkijpdaa
open Go.RowKit
set_option linter.unusedVariables false
set_option linter.unusedSimpArgs false

theorem cmpI_anti (x y : Int) : Lib.compareInt y x = -Lib.compareInt x y := by
  unfold Lib.compareInt
  by_cases h1 : x < y
  · rw [if_pos h1, if_neg (by omega), if_pos h1]; rfl
  · by_cases h2 : y < x
    · rw [if_pos h2, if_neg h1, if_pos h2]
    · rw [if_neg h2, if_neg h1, if_neg h1, if_neg h2]; rfl
theorem tCmp_anti (a b : Te) : tCmp b a = -tCmp a b := by
  unfold tCmp or3
  rw [cmpB_anti a.bd.data.toList b.bd.data.toList, cmpI_anti a.fr b.fr, cmpI_anti a.tt b.tt]
  by_cases h1 : Lib.compareBytes a.bd.data.toList b.bd.data.toList = 0
  · by_cases h2 : Lib.compareInt a.fr b.fr = 0
    · simp [h1, h2]
    · have : ¬ -Lib.compareInt a.fr b.fr = 0 := by omega
      simp [h1, h2, this]
  · have : ¬ -Lib.compareBytes a.bd.data.toList b.bd.data.toList = 0 := by omega
    simp [h1, this]
theorem te_ext {a b : Te} (h1 : a.bd.data.toList = b.bd.data.toList) (h2 : a.fr = b.fr) (h3 : a.tt = b.tt) : a = b := by
  obtain ⟨⟨⟨x⟩⟩, f, t⟩ := a
  obtain ⟨⟨⟨y⟩⟩, g, u⟩ := b
  simp at h1 h2 h3
  subst h1 h2 h3
  rfl
theorem tCmp_zero (a b : Te) : tCmp a b = 0 ↔ a = b := by
  unfold tCmp or3
  constructor
  · intro h
    by_cases h1 : Lib.compareBytes a.bd.data.toList b.bd.data.toList = 0
    · rw [if_pos h1] at h
      by_cases h2 : Lib.compareInt a.fr b.fr = 0
      · rw [if_pos h2] at h
        exact te_ext ((cmpB_zero _ _).1 h1) ((cmpI_zero _ _).1 h2) ((cmpI_zero _ _).1 h)
      · rw [if_neg h2] at h; exact absurd h h2
    · rw [if_neg h1] at h; exact absurd h h1
  · rintro rfl
    rw [if_pos ((cmpB_zero _ _).2 rfl), if_pos ((cmpI_zero _ _).2 rfl)]
    exact (cmpI_zero _ _).2 rfl
theorem tCmp_trans {a b c : Te} (h1 : tCmp a b < 0) (h2 : tCmp b c < 0) : tCmp a c < 0 := by
  unfold tCmp or3 at *
  have B1 := cmpB_anti a.bd.data.toList b.bd.data.toList
  by_cases e1 : Lib.compareBytes a.bd.data.toList b.bd.data.toList = 0
  · have q1 := (cmpB_zero _ _).1 e1
    rw [if_pos e1] at h1
    rw [q1]
    by_cases e2 : Lib.compareBytes b.bd.data.toList c.bd.data.toList = 0
    · rw [if_pos e2] at h2 ⊢
      by_cases f1 : Lib.compareInt a.fr b.fr = 0
      · have r1 := (cmpI_zero _ _).1 f1
        rw [if_pos f1, cmpI_lt] at h1
        rw [r1]
        by_cases f2 : Lib.compareInt b.fr c.fr = 0
        · rw [if_pos f2, cmpI_lt] at h2
          rw [if_pos f2, cmpI_lt]
          omega
        · rw [if_neg f2] at h2 ⊢
          exact h2
      · rw [if_neg f1, cmpI_lt] at h1
        by_cases f2 : Lib.compareInt b.fr c.fr = 0
        · have r2 := (cmpI_zero _ _).1 f2
          have : Lib.compareInt a.fr c.fr < 0 := (cmpI_lt _ _).2 (by omega)
          rw [if_neg (by omega)]
          exact this
        · rw [if_neg f2, cmpI_lt] at h2
          have : Lib.compareInt a.fr c.fr < 0 := (cmpI_lt _ _).2 (by omega)
          rw [if_neg (by omega)]
          exact this
    · rw [if_neg e2] at h2 ⊢
      exact h2
  · rw [if_neg e1] at h1
    by_cases e2 : Lib.compareBytes b.bd.data.toList c.bd.data.toList = 0
    · have q2 := (cmpB_zero _ _).1 e2
      rw [← q2, if_neg e1]
      exact h1
    · rw [if_neg e2] at h2
      have h3 := cmpB_trans _ _ _ (Int.le_of_lt h1) (Int.le_of_lt h2)
      have h4 : ¬ Lib.compareBytes a.bd.data.toList c.bd.data.toList = 0 := fun e => by
        have := (cmpB_zero _ _).1 e
        rw [this] at h1
        have := cmpB_anti c.bd.data.toList b.bd.data.toList
        omega
      rw [if_neg h4]
      omega
/-- Ties rise. -/
def SrtT (T : List Te) : Prop := T.Pairwise fun a b => tCmp a b < 0
theorem chkN_iff : ∀ (N : List Nd) (o : Option Nd), chkN o N = 0 ↔ (∀ q, o = some q → ∀ x ∈ N, q.id < x.id) ∧ SrtN N ∧ ∀ n ∈ N, ndE none n = 0
  | [], o => by simp [chkN_end, SrtN]
  | n :: r, o => by
    have hsplit : ndE o n = 0 ↔ (∀ q, o = some q → q.id < n.id) ∧ ndE none n = 0 := by
      unfold ndE
      by_cases a : idOk n.id = true
      · rw [if_pos a, if_pos a]
        cases o with
        | none => simp [Nd.low]
        | some q =>
          by_cases b : n.id ≤ q.id
          · have : n.low (some q) = true := by simpa [Nd.low] using b
            rw [if_pos this]
            constructor
            · intro h; omega
            · rintro ⟨h, _⟩; have := h q rfl; omega
          · have : ¬ n.low (some q) = true := by simpa [Nd.low] using b
            rw [if_neg this, if_neg (show ¬ n.low none = true by simp [Nd.low])]
            constructor
            · intro h; exact ⟨fun q' hq => by injection hq with hq; subst hq; omega, h⟩
            · exact fun h => h.2
      · rw [if_neg a, if_neg a]
        constructor
        · intro h; omega
        · rintro ⟨_, h⟩; omega
    constructor
    · intro h
      have hn : ndE o n = 0 := by
        by_cases e : ndE o n = 0
        · exact e
        · rw [chkN_bad e] at h; exact absurd h e
      rw [chkN_ok hn] at h
      obtain ⟨h1, h2, h3⟩ := (chkN_iff r (some n)).1 h
      obtain ⟨g1, g2⟩ := hsplit.1 hn
      refine ⟨fun q hq x hx => ?_, List.pairwise_cons.2 ⟨h1 n rfl, h2⟩, fun x hx => ?_⟩
      · rcases List.mem_cons.1 hx with rfl | hx
        · exact g1 q hq
        · exact Int.lt_trans (g1 q hq) (h1 n rfl x hx)
      · rcases List.mem_cons.1 hx with rfl | hx
        · exact g2
        · exact h3 x hx
    · rintro ⟨h1, h2, h3⟩
      obtain ⟨p1, p2⟩ := List.pairwise_cons.1 h2
      have hn : ndE o n = 0 := hsplit.2 ⟨fun q hq => h1 q hq n (by simp), h3 n (by simp)⟩
      rw [chkN_ok hn]
      exact (chkN_iff r (some n)).2 ⟨fun q hq x hx => by injection hq with hq; subst hq; exact p1 x hx, p2, fun x hx => h3 x (by simp [hx])⟩
theorem chkT_iff : ∀ (N : List Te) (o : Option Te), chkT o N = 0 ↔ (∀ q, o = some q → ∀ x ∈ N, tCmp q x < 0) ∧ SrtT N ∧ ∀ n ∈ N, teE none n = 0
  | [], o => by simp [chkT_end, SrtT]
  | n :: r, o => by
    have hsplit : teE o n = 0 ↔ (∀ q, o = some q → tCmp q n < 0) ∧ teE none n = 0 := by
      unfold teE
      by_cases c : nErr n.bd.data.toList = 0
      · rw [if_pos c, if_pos c]
        by_cases a : (idOk n.fr && idOk n.tt) = true
        · rw [if_pos a, if_pos a]
          cases o with
          | none => simp [Te.low]
          | some q =>
            have hq' := tCmp_anti q n
            by_cases b : tCmp n q ≤ 0
            · have : n.low (some q) = true := by simpa [Te.low] using b
              rw [if_pos this]
              constructor
              · intro h; omega
              · rintro ⟨h, _⟩; have := h q rfl; omega
            · have : ¬ n.low (some q) = true := by simpa [Te.low] using b
              rw [if_neg this, if_neg (by simp [Te.low])]
              constructor
              · intro h; exact ⟨fun q' hq => by injection hq with hq; subst hq; omega, h⟩
              · exact fun h => h.2
        · rw [if_neg a, if_neg a]
          constructor
          · intro h; omega
          · rintro ⟨_, h⟩; omega
      · rw [if_neg c, if_neg c]
        constructor
        · intro h; exact absurd h c
        · rintro ⟨_, h⟩; exact absurd h c
    constructor
    · intro h
      have hn : teE o n = 0 := by
        by_cases e : teE o n = 0
        · exact e
        · rw [chkT_bad e] at h; exact absurd h e
      rw [chkT_ok hn] at h
      obtain ⟨h1, h2, h3⟩ := (chkT_iff r (some n)).1 h
      obtain ⟨g1, g2⟩ := hsplit.1 hn
      refine ⟨fun q hq x hx => ?_, List.pairwise_cons.2 ⟨h1 n rfl, h2⟩, fun x hx => ?_⟩
      · rcases List.mem_cons.1 hx with rfl | hx
        · exact g1 q hq
        · exact tCmp_trans (g1 q hq) (h1 n rfl x hx)
      · rcases List.mem_cons.1 hx with rfl | hx
        · exact g2
        · exact h3 x hx
    · rintro ⟨h1, h2, h3⟩
      obtain ⟨p1, p2⟩ := List.pairwise_cons.1 h2
      have hn : teE o n = 0 := hsplit.2 ⟨fun q hq => h1 q hq n (by simp), h3 n (by simp)⟩
      rw [chkT_ok hn]
      exact (chkT_iff r (some n)).2 ⟨fun q hq x hx => by injection hq with hq; subst hq; exact p1 x hx, p2, fun x hx => h3 x (by simp [hx])⟩
theorem gErr_iff (N : List Nd) (T : List Te) : gErr N T = 0 ↔ (N.length ≤ 60 ∧ SrtN N ∧ ∀ n ∈ N, ndE none n = 0) ∧ (T.length ≤ 120 ∧ SrtT T ∧ ∀ t ∈ T, teE none t = 0) := by
  constructor
  · intro h
    obtain ⟨h1, h2, h3, h4⟩ := gErr_lens h
    obtain ⟨_, a1, a2⟩ := (chkN_iff N none).1 h3
    obtain ⟨_, b1, b2⟩ := (chkT_iff T none).1 h4
    exact ⟨⟨h1, a1, a2⟩, ⟨h2, b1, b2⟩⟩
  · rintro ⟨⟨h1, a1, a2⟩, ⟨h2, b1, b2⟩⟩
    have e1 : chkN none N = 0 := (chkN_iff N none).2 ⟨fun q hq => (by cases hq), a1, a2⟩
    have e2 : chkT none T = 0 := (chkT_iff T none).2 ⟨fun q hq => (by cases hq), b1, b2⟩
    unfold gErr
    rw [if_neg (by omega), if_pos e1]
    exact e2
theorem gErr_sub {N N' : List Nd} {T T' : List Te} (h : gErr N T = 0) (hN : List.Sublist N' N) (hT : List.Sublist T' T) : gErr N' T' = 0 := by
  obtain ⟨⟨h1, a1, a2⟩, ⟨h2, b1, b2⟩⟩ := (gErr_iff N T).1 h
  exact (gErr_iff N' T').2 ⟨⟨Nat.le_trans hN.length_le h1, a1.sublist hN, fun n hn => a2 n (hN.mem hn)⟩, ⟨Nat.le_trans hT.length_le h2, b1.sublist hT, fun t ht => b2 t (hT.mem ht)⟩⟩

/-- What Gone does. -/
def goneS : OpS := ⟨fun o M _ => goneE o.nd.id M, fun o M _ => M.eraseIdx (loN o.nd.id M), fun o _ T => T.filter (keepT o.nd.id)⟩
theorem gone_ap {o : Opx} (h : o.wh = 2) : ApOk goneS o := fun w base p N T hG hb he hR _ => apply_gone o h w base p N T hG hb he hR
theorem gone_keeps (o : Opx) : KeepsR goneS o := fun M T h _ => gErr_sub h (List.eraseIdx_sublist M _) List.filter_sublist
end Go.Proofs.Ytkgblicmkijpdaa
