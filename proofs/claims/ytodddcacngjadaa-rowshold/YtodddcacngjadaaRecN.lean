/-
  Records that are right, in plain words: properties that rise by name, each right by itself; with one more.
-/
import Derived.Test.YtodddcacngjadaaCmpB
import Derived.Test.YtodddcacngjadaaRsC
namespace Go.Proofs.Ytodddcacngjadaa
open Go.RowKit
set_option linter.unusedVariables false
set_option linter.unusedSimpArgs false

/-- A property that is right by itself. -/
def Pr.ok (p : Pr) : Prop := nErr p.l = 0 ∧ p.bad = 0
theorem chk_ok (L : List Pr) : ∀ o, chk o L = 0 → ∀ p ∈ L, p.ok := by
  induction L with
  | nil => intro o _ p hp; simp at hp
  | cons a r ih =>
    intro o h p hp
    have h1 : nErr a.l = 0 := by
      by_cases h1 : nErr a.l = 0
      · exact h1
      · rw [chk_name h1] at h; exact absurd h h1
    have h2 : a.bad = 0 := by
      by_cases h2 : a.bad = 0
      · exact h2
      · rw [chk_bad h1 h2] at h; exact absurd h h2
    rcases List.mem_cons.1 hp with rfl | hp
    · exact ⟨h1, h2⟩
    · cases o with
      | none => rw [chk_first h1 h2] at h; exact ih _ h p hp
      | some q =>
        by_cases h3 : a.low q = true
        · rw [chk_low h1 h2 h3] at h; exact absurd h (by decide)
        · rw [chk_up h1 h2 (by simpa using h3)] at h; exact ih _ h p hp
theorem lt_iff (p q : Pr) : p.lt q = true ↔ Lib.compareBytes p.nm.toList q.nm.toList < 0 := by
  unfold Pr.lt; rw [less_cmp]; simp
theorem lt_ne {p q : Pr} (h : p.lt q = true) : ¬ p.nm.toList = q.nm.toList := by
  intro e
  have h1 := (lt_iff p q).1 h
  have h2 := (cmpB_zero p.nm.toList q.nm.toList).2 e
  omega
theorem lt_asym {p q : Pr} (h : p.lt q = true) : ¬ q.lt p = true := by
  intro h2
  have h1 := (lt_iff p q).1 h
  have h3 := (lt_iff q p).1 h2
  have := cmpB_anti p.nm.toList q.nm.toList
  omega
theorem lt_trans {p q r : Pr} (h1 : p.lt q = true) (h2 : q.lt r = true) : p.lt r = true := by
  rw [lt_iff] at *
  have h3 := cmpB_trans p.nm.toList q.nm.toList r.nm.toList (by omega) (by omega)
  rcases Int.lt_or_eq_of_le h3 with h | h
  · exact h
  · have e := (cmpB_zero _ _).1 h
    rw [e] at h1
    have := cmpB_anti q.nm.toList r.nm.toList
    omega
theorem low_lt {p q : Pr} : p.low q = false ↔ q.lt p = true := by
  unfold Pr.low
  rw [lt_iff, less_cmp]
  have ha := cmpB_anti p.nm.toList q.nm.toList
  have hz := cmpB_zero p.nm.toList q.nm.toList
  have hr := cmpB_range p.nm.toList q.nm.toList
  constructor
  · intro h
    rw [Bool.or_eq_false_iff] at h
    have h1 : ¬ Lib.compareBytes p.nm.toList q.nm.toList < 0 := by simpa using h.1
    have h2 : ¬ p.nm.toList = q.nm.toList := by simpa using h.2
    have h3 : ¬ Lib.compareBytes p.nm.toList q.nm.toList = 0 := fun e => h2 (hz.1 e)
    omega
  · intro h
    rw [Bool.or_eq_false_iff]
    refine ⟨by simp; omega, ?_⟩
    have : ¬ p.nm.toList = q.nm.toList := fun e => by have := hz.2 e; omega
    simpa using this
/-- In order, and each right by itself. -/
def SrtP (L : List Pr) : Prop := (∀ p ∈ L, p.ok) ∧ L.Pairwise fun a b => a.lt b = true
theorem chk_srt (L : List Pr) : ∀ q : Pr, chk (some q) L = 0 ↔ SrtP L ∧ ∀ p ∈ L, q.lt p = true := by
  induction L with
  | nil => intro q; exact ⟨fun _ => ⟨⟨fun p hp => by simp at hp, List.Pairwise.nil⟩, fun p hp => by simp at hp⟩, fun _ => rfl⟩
  | cons a r ih =>
    intro q
    constructor
    · intro h
      have hok := chk_ok (a :: r) _ h
      have ha := hok a (by simp)
      have h3 : a.low q = false := by
        cases h4 : a.low q
        · rfl
        · rw [chk_low ha.1 ha.2 h4] at h; exact absurd h (by decide)
      rw [chk_up ha.1 ha.2 h3] at h
      obtain ⟨hs, hl⟩ := (ih a).1 h
      have hqa := low_lt.1 h3
      refine ⟨⟨hok, List.pairwise_cons.2 ⟨hl, hs.2⟩⟩, fun p hp => ?_⟩
      rcases List.mem_cons.1 hp with rfl | hp
      · exact hqa
      · exact lt_trans hqa (hl p hp)
    · rintro ⟨⟨hok, hp⟩, hl⟩
      have ha := hok a (by simp)
      rw [chk_up ha.1 ha.2 (low_lt.2 (hl a (by simp)))]
      obtain ⟨h1, h2⟩ := List.pairwise_cons.1 hp
      exact (ih a).2 ⟨⟨fun p hp => hok p (by simp [hp]), h2⟩, h1⟩
theorem rErr_srt (L : List Pr) : rErr L = 0 ↔ SrtP L ∧ L.length ≤ 8 := by
  unfold rErr
  constructor
  · intro h
    split at h
    · exact absurd h (by decide)
    · refine ⟨?_, by omega⟩
      cases L with
      | nil => exact ⟨fun p hp => by simp at hp, List.Pairwise.nil⟩
      | cons a r =>
        have hok := chk_ok _ _ h
        have ha := hok a (by simp)
        rw [chk_first ha.1 ha.2] at h
        obtain ⟨h1, h2⟩ := (chk_srt r a).1 h
        exact ⟨hok, List.pairwise_cons.2 ⟨h2, h1.2⟩⟩
  · rintro ⟨⟨hok, hp⟩, hl⟩
    rw [if_neg (by omega)]
    cases L with
    | nil => rfl
    | cons a r =>
      have ha := hok a (by simp)
      rw [chk_first ha.1 ha.2]
      obtain ⟨h1, h2⟩ := List.pairwise_cons.1 hp
      exact (chk_srt r a).2 ⟨⟨fun p hp => hok p (by simp [hp]), h2⟩, h1⟩
theorem ins_mem (p : Pr) (L : List Pr) : ∀ q ∈ ins p L, q = p ∨ q ∈ L := by
  induction L with
  | nil => intro q hq; simp [ins] at hq; exact .inl hq
  | cons a r ih =>
    intro q hq
    unfold ins at hq
    split at hq
    · rcases List.mem_cons.1 hq with rfl | h
      · exact .inr (by simp)
      · rcases ih q h with h | h
        · exact .inl h
        · exact .inr (by simp [h])
    · split at hq
      · rcases List.mem_cons.1 hq with rfl | h
        · exact .inl rfl
        · exact .inr (by simp [h])
      · rcases List.mem_cons.1 hq with rfl | h
        · exact .inl rfl
        · exact .inr h
theorem ins_sz {p : Pr} {L : List Pr} (h : Sz L) (hp : Sz [p]) : Sz (ins p L) := fun q hq => by
  rcases ins_mem p L q hq with rfl | h'
  · exact hp q (by simp)
  · exact h q h'
theorem not_lt_eq {a p : Pr} (h1 : ¬ a.lt p = true) (h2 : ¬ (a.nm.toList == p.nm.toList) = true) : p.lt a = true := by
  rw [lt_iff] at *
  have ha := cmpB_anti a.nm.toList p.nm.toList
  have hr := cmpB_range a.nm.toList p.nm.toList
  have h3 : ¬ Lib.compareBytes a.nm.toList p.nm.toList = 0 := fun e => h2 (by simpa using (cmpB_zero _ _).1 e)
  omega
theorem lt_same {a p b : Pr} (he : a.nm.toList = p.nm.toList) (h : a.lt b = true) : p.lt b = true := by
  rw [lt_iff] at *; rw [← he]; exact h
theorem ins_srt {p : Pr} {L : List Pr} (h : SrtP L) (hp : p.ok) : SrtP (ins p L) := by
  refine ⟨fun q hq => ?_, ?_⟩
  · rcases ins_mem p L q hq with rfl | h'
    · exact hp
    · exact h.1 q h'
  · have hpw := h.2
    clear h
    induction L with
    | nil => simp [ins]
    | cons a r ih =>
      obtain ⟨h1, h2⟩ := List.pairwise_cons.1 hpw
      unfold ins
      split
      · rename_i hlt
        refine List.pairwise_cons.2 ⟨fun q hq => ?_, ih h2⟩
        rcases ins_mem p r q hq with rfl | h'
        · exact hlt
        · exact h1 q h'
      · rename_i hlt
        split
        · rename_i heq
          have he : a.nm.toList = p.nm.toList := by simpa using heq
          exact List.pairwise_cons.2 ⟨fun q hq => lt_same he (h1 q hq), h2⟩
        · rename_i hne
          have hpa := not_lt_eq hlt hne
          refine List.pairwise_cons.2 ⟨fun q hq => ?_, hpw⟩
          rcases List.mem_cons.1 hq with rfl | h'
          · exact hpa
          · exact lt_trans hpa (h1 q h')
/-- The first of a name. -/
def look (nm : List UInt8) (L : List Pr) : Option Pr := L.find? fun q => q.nm.toList == nm
theorem look_cons (nm : List UInt8) (a : Pr) (r : List Pr) : look nm (a :: r) = if (a.nm.toList == nm) = true then some a else look nm r := by
  unfold look; rw [List.find?_cons]; split <;> simp_all
theorem look_ins (nm : List UInt8) (p : Pr) (L : List Pr) : look nm (ins p L) = if (p.nm.toList == nm) = true then some p else look nm L := by
  induction L with
  | nil => show look nm [p] = _; rw [look_cons]
  | cons a r ih =>
    unfold ins
    split
    · rename_i hlt
      have hne := lt_ne hlt
      rw [look_cons, ih, look_cons]
      by_cases h1 : (a.nm.toList == nm) = true
      · rw [if_pos h1, if_pos h1]
        have : ¬ (p.nm.toList == nm) = true := by
          intro h2
          exact hne ((by simpa using h1 : a.nm.toList = nm).trans (by simpa using h2 : p.nm.toList = nm).symm)
        rw [if_neg this]
      · rw [if_neg h1, if_neg h1]
    · split
      · rename_i heq
        have he : a.nm.toList = p.nm.toList := by simpa using heq
        rw [look_cons, look_cons, he]
        split <;> rfl
      · rw [look_cons]
theorem nErr_short {l : List UInt8} (h : nErr l = 0) : l.length ≤ 8 := by
  unfold nErr at h
  by_cases h1 : l = []
  · subst h1; simp
  · rw [if_neg h1] at h
    by_cases h2 : 8 < l.length
    · rw [if_pos h2] at h; omega
    · omega
theorem bad_short {p : Pr} (h : p.bad = 0) : p.s.data.toList.length ≤ 20 := by
  unfold Pr.bad vErr at h
  split at h
  · split at h
    · split at h
      · unfold tErr at h
        split at h
        · omega
        · omega
      · split at h
        · rename_i h2; rw [h2]; simp
        · omega
    · omega
  · omega
theorem ok_sz {p : Pr} (h : p.ok) : p.nm.size ≤ maxLen ∧ p.s.size ≤ maxLen := by
  have h1 := nErr_short h.1
  have h2 := bad_short h.2
  have e1 : p.nm.size = p.nm.data.toList.length := rfl
  have e2 : p.s.size = p.s.data.toList.length := rfl
  unfold Pr.l at h1
  unfold maxLen
  omega
/-- What is right is not too long for memory. -/
theorem sz_of {L : List Pr} (h : rErr L = 0) : Sz L := fun p hp => ok_sz (((rErr_srt L).1 h).1.1 p hp)
end Go.Proofs.Ytodddcacngjadaa
