/-
  What is set is there, and all else as it was; unset it is not: of records in order, in plain functions.
-/
import Derived.Test.YtghlncdnnmpikaaGreatDoorRTextM
namespace Go.Proofs.YtghlncdnnmpikaaGreatDoor
open Go.RowKit
set_option linter.unusedVariables false
set_option linter.unusedSimpArgs false

theorem less_cmp (a : List UInt8) : ∀ b, Op.bytesLess a b = decide (Lib.compareBytes a b < 0) := by
  induction a with
  | nil => intro b; cases b <;> simp [Op.bytesLess, Lib.compareBytes]
  | cons c r ih =>
    intro b
    cases b with
    | nil => simp [Op.bytesLess, Lib.compareBytes]
    | cons d q =>
      simp only [Op.bytesLess, Lib.compareBytes]
      by_cases h1 : c < d
      · simp [h1]
      · by_cases h2 : d < c
        · have hne : ¬ c = d := by intro e; rw [e, UInt8.lt_iff_toNat_lt] at h2; omega
          simp [h1, h2, hne]
        · have he : c = d := by rw [UInt8.lt_iff_toNat_lt] at h1 h2; exact UInt8.toNat_inj.1 (by omega)
          simp [h1, h2, he, ih q]
theorem lt_iff (p q : Pr) : p.lt q = true ↔ Lib.compareBytes p.nm.toList q.nm.toList < 0 := by
  unfold Pr.lt; rw [less_cmp]; simp
theorem lt_ne {p q : Pr} (h : p.lt q = true) : ¬ p.nm.toList = q.nm.toList := by
  intro e
  have h1 := (lt_iff p q).1 h
  have h2 := (cmpB_zero p.nm.toList q.nm.toList).2 e
  omega
theorem lt_asym {p q : Pr} (h : p.lt q = true) : ¬ q.lt p = true := by
  intro h2
  have h1 := (lt_iff p q).1 h
  have h3 := (lt_iff q p).1 h2
  have := cmpB_anti p.nm.toList q.nm.toList
  omega
theorem lt_trans {p q r : Pr} (h1 : p.lt q = true) (h2 : q.lt r = true) : p.lt r = true := by
  rw [lt_iff] at *
  have h3 := cmpB_trans p.nm.toList q.nm.toList r.nm.toList (by omega) (by omega)
  rcases Int.lt_or_eq_of_le h3 with h | h
  · exact h
  · have e := (cmpB_zero _ _).1 h
    rw [e] at h1
    have := cmpB_anti q.nm.toList r.nm.toList
    omega
theorem low_lt {p q : Pr} : p.low q = false ↔ q.lt p = true := by
  unfold Pr.low
  rw [lt_iff, less_cmp]
  have ha := cmpB_anti p.nm.toList q.nm.toList
  have hz := cmpB_zero p.nm.toList q.nm.toList
  have hr := cmpB_range p.nm.toList q.nm.toList
  constructor
  · intro h
    rw [Bool.or_eq_false_iff] at h
    have h1 : ¬ Lib.compareBytes p.nm.toList q.nm.toList < 0 := by simpa using h.1
    have h2 : ¬ p.nm.toList = q.nm.toList := by simpa using h.2
    have h3 : ¬ Lib.compareBytes p.nm.toList q.nm.toList = 0 := fun e => h2 (hz.1 e)
    omega
  · intro h
    rw [Bool.or_eq_false_iff]
    refine ⟨by simp; omega, ?_⟩
    have : ¬ p.nm.toList = q.nm.toList := fun e => by have := hz.2 e; omega
    simpa using this
/-- In order, and each right by itself. -/
def Srt (L : List Pr) : Prop := (∀ p ∈ L, p.ok) ∧ L.Pairwise fun a b => a.lt b = true
theorem chk_srt (L : List Pr) : ∀ q : Pr, chk (some q) L = 0 ↔ Srt L ∧ ∀ p ∈ L, q.lt p = true := by
  induction L with
  | nil => intro q; exact ⟨fun _ => ⟨⟨fun p hp => by simp at hp, List.Pairwise.nil⟩, fun p hp => by simp at hp⟩, fun _ => rfl⟩
  | cons a r ih =>
    intro q
    constructor
    · intro h
      have hok := chk_ok (a :: r) _ h
      have ha := hok a (by simp)
      have h3 : a.low q = false := by
        cases h4 : a.low q
        · rfl
        · rw [chk_low ha.1 ha.2 h4] at h; exact absurd h (by decide)
      rw [chk_up ha.1 ha.2 h3] at h
      obtain ⟨hs, hl⟩ := (ih a).1 h
      have hqa := low_lt.1 h3
      refine ⟨⟨hok, List.pairwise_cons.2 ⟨hl, hs.2⟩⟩, fun p hp => ?_⟩
      rcases List.mem_cons.1 hp with rfl | hp
      · exact hqa
      · exact lt_trans hqa (hl p hp)
    · rintro ⟨⟨hok, hp⟩, hl⟩
      have ha := hok a (by simp)
      rw [chk_up ha.1 ha.2 (low_lt.2 (hl a (by simp)))]
      obtain ⟨h1, h2⟩ := List.pairwise_cons.1 hp
      exact (ih a).2 ⟨⟨fun p hp => hok p (by simp [hp]), h2⟩, h1⟩
theorem rErr_srt (L : List Pr) : rErr L = 0 ↔ Srt L ∧ L.length ≤ 8 := by
  unfold rErr
  constructor
  · intro h
    split at h
    · exact absurd h (by decide)
    · refine ⟨?_, by omega⟩
      cases L with
      | nil => exact ⟨fun p hp => by simp at hp, List.Pairwise.nil⟩
      | cons a r =>
        have hok := chk_ok _ _ h
        have ha := hok a (by simp)
        rw [chk_first ha.1 ha.2] at h
        obtain ⟨h1, h2⟩ := (chk_srt r a).1 h
        exact ⟨hok, List.pairwise_cons.2 ⟨h2, h1.2⟩⟩
  · rintro ⟨⟨hok, hp⟩, hl⟩
    rw [if_neg (by omega)]
    cases L with
    | nil => rfl
    | cons a r =>
      have ha := hok a (by simp)
      rw [chk_first ha.1 ha.2]
      obtain ⟨h1, h2⟩ := List.pairwise_cons.1 hp
      exact (chk_srt r a).2 ⟨⟨fun p hp => hok p (by simp [hp]), h2⟩, h1⟩
theorem ins_mem (p : Pr) (L : List Pr) : ∀ q ∈ ins p L, q = p ∨ q ∈ L := by
  induction L with
  | nil => intro q hq; simp [ins] at hq; exact .inl hq
  | cons a r ih =>
    intro q hq
    unfold ins at hq
    split at hq
    · rcases List.mem_cons.1 hq with rfl | h
      · exact .inr (by simp)
      · rcases ih q h with h | h
        · exact .inl h
        · exact .inr (by simp [h])
    · split at hq
      · rcases List.mem_cons.1 hq with rfl | h
        · exact .inl rfl
        · exact .inr (by simp [h])
      · rcases List.mem_cons.1 hq with rfl | h
        · exact .inl rfl
        · exact .inr h
theorem ins_sz {p : Pr} {L : List Pr} (h : Sz L) (hp : Sz [p]) : Sz (ins p L) := fun q hq => by
  rcases ins_mem p L q hq with rfl | h'
  · exact hp q (by simp)
  · exact h q h'
theorem not_lt_eq {a p : Pr} (h1 : ¬ a.lt p = true) (h2 : ¬ (a.nm.toList == p.nm.toList) = true) : p.lt a = true := by
  rw [lt_iff] at *
  have ha := cmpB_anti a.nm.toList p.nm.toList
  have hr := cmpB_range a.nm.toList p.nm.toList
  have h3 : ¬ Lib.compareBytes a.nm.toList p.nm.toList = 0 := fun e => h2 (by simpa using (cmpB_zero _ _).1 e)
  omega
theorem lt_same {a p b : Pr} (he : a.nm.toList = p.nm.toList) (h : a.lt b = true) : p.lt b = true := by
  rw [lt_iff] at *; rw [← he]; exact h
theorem ins_srt {p : Pr} {L : List Pr} (h : Srt L) (hp : p.ok) : Srt (ins p L) := by
  refine ⟨fun q hq => ?_, ?_⟩
  · rcases ins_mem p L q hq with rfl | h'
    · exact hp
    · exact h.1 q h'
  · have hpw := h.2
    clear h
    induction L with
    | nil => simp [ins]
    | cons a r ih =>
      obtain ⟨h1, h2⟩ := List.pairwise_cons.1 hpw
      unfold ins
      split
      · rename_i hlt
        refine List.pairwise_cons.2 ⟨fun q hq => ?_, ih h2⟩
        rcases ins_mem p r q hq with rfl | h'
        · exact hlt
        · exact h1 q h'
      · rename_i hlt
        split
        · rename_i heq
          have he : a.nm.toList = p.nm.toList := by simpa using heq
          exact List.pairwise_cons.2 ⟨fun q hq => lt_same he (h1 q hq), h2⟩
        · rename_i hne
          have hpa := not_lt_eq hlt hne
          refine List.pairwise_cons.2 ⟨fun q hq => ?_, hpw⟩
          rcases List.mem_cons.1 hq with rfl | h'
          · exact hpa
          · exact lt_trans hpa (h1 q h')
/-- The first of a name. -/
def look (nm : List UInt8) (L : List Pr) : Option Pr := L.find? fun q => q.nm.toList == nm
theorem look_cons (nm : List UInt8) (a : Pr) (r : List Pr) : look nm (a :: r) = if (a.nm.toList == nm) = true then some a else look nm r := by
  unfold look; rw [List.find?_cons]; split <;> simp_all
theorem look_ins (nm : List UInt8) (p : Pr) (L : List Pr) : look nm (ins p L) = if (p.nm.toList == nm) = true then some p else look nm L := by
  induction L with
  | nil => show look nm [p] = _; rw [look_cons]
  | cons a r ih =>
    unfold ins
    split
    · rename_i hlt
      have hne := lt_ne hlt
      rw [look_cons, ih, look_cons]
      by_cases h1 : (a.nm.toList == nm) = true
      · rw [if_pos h1, if_pos h1]
        have : ¬ (p.nm.toList == nm) = true := by
          intro h2
          exact hne ((by simpa using h1 : a.nm.toList = nm).trans (by simpa using h2 : p.nm.toList = nm).symm)
        rw [if_neg this]
      · rw [if_neg h1, if_neg h1]
    · split
      · rename_i heq
        have he : a.nm.toList = p.nm.toList := by simpa using heq
        rw [look_cons, look_cons, he]
        split <;> rfl
      · rw [look_cons]
theorem idx_look (nm : List UInt8) (L : List Pr) : ∀ k, (idx nm L k = -1 ∧ look nm L = none) ∨ ∃ j q, idx nm L k = ((k + j : Nat) : Int) ∧ L[j]? = some q ∧ look nm L = some q := by
  induction L with
  | nil => intro k; left; exact ⟨rfl, rfl⟩
  | cons p r ih =>
    intro k
    rw [look_cons]
    by_cases h : (p.nm.toList == nm) = true
    · right; exact ⟨0, p, by unfold idx; rw [if_pos h]; simp, rfl, by rw [if_pos h]⟩
    · have e : idx nm (p :: r) k = idx nm r (k + 1) := by
        conv => lhs; unfold idx
        rw [if_neg h]
      rw [e, if_neg h]
      rcases ih (k + 1) with h1 | ⟨j, q, h1, h2, h3⟩
      · exact .inl h1
      · exact .inr ⟨j + 1, q, by rw [h1]; congr 1; omega, by simpa using h2, h3⟩
/-- A value that was found. -/
def lookV : Option Pr → Value
  | some q => .agg #[.int .i64 q.t, .int .i64 q.n, .string q.s]
  | none => .agg #[.int .i64 0, .int .i64 0, .string ⟨#[]⟩]
theorem get_look {nm : List UInt8} {L : List Pr} (h : rErr L = 0) : getV nm L = lookV (look nm L) ∧ fErr nm L = if (look nm L).isSome = true then 0 else 5 := by
  rcases idx_look nm L 0 with ⟨h1, h2⟩ | ⟨j, q, h1, h2, h3⟩
  · have hf : fErr nm L = 5 := by unfold fErr; rw [if_pos h, if_pos h1]
    refine ⟨?_, by rw [hf, h2]; rfl⟩
    unfold getV; rw [if_neg (by rw [hf]; decide), h2]; rfl
  · have h1' : idx nm L 0 = (j : Int) := by simpa using h1
    have hf : fErr nm L = 0 := by unfold fErr; rw [if_pos h, if_neg (by rw [h1']; omega)]
    refine ⟨?_, by rw [hf, h3]; rfl⟩
    unfold getV; rw [if_pos hf, h1', h3]; simp [h2, lookV]
/-- What is set is there; unset it is not. -/
theorem set_facts {p : Pr} {L : List Pr} (h : sErr p L = 0) :
    rErr L = 0 ∧ rErr (ins p L) = 0 ∧ (ins p L).length ≤ 8 ∧ look p.nm.toList (ins p L) = some p ∧ (∀ nm, ¬ p.nm.toList = nm → look nm (ins p L) = look nm L) ∧
      ∃ j, idx p.nm.toList (ins p L) 0 = ((j : Nat) : Int) ∧ j < (ins p L).length ∧ rErr ((ins p L).take j ++ (ins p L).drop (j + 1)) = 0 ∧ look p.nm.toList ((ins p L).take j ++ (ins p L).drop (j + 1)) = none := by
  unfold sErr at h
  split at h
  · rename_i hL
    split at h
    · rename_i hp
      split at h
      · exact absurd h (by decide)
      · rename_i hlen
        obtain ⟨hs, _⟩ := (rErr_srt L).1 hL
        have hpok : p.ok := ((rErr_srt [p]).1 hp).1.1 p (by simp)
        have hM := ins_srt hs hpok
        have hM0 : rErr (ins p L) = 0 := (rErr_srt _).2 ⟨hM, by omega⟩
        have hlk : look p.nm.toList (ins p L) = some p := by rw [look_ins, if_pos (by simp)]
        refine ⟨hL, hM0, by omega, hlk, fun nm hnm => by rw [look_ins, if_neg (by simpa using hnm)], ?_⟩
        rcases idx_look p.nm.toList (ins p L) 0 with ⟨_, h2⟩ | ⟨j, q, h1, h2, h3⟩
        · rw [hlk] at h2; cases h2
        · have hqp : q = p := Option.some.inj (h3.symm.trans hlk)
          subst hqp
          have hj : j < (ins q L).length := (List.getElem?_eq_some_iff.1 h2).1
          have hsub : ((ins q L).take j ++ (ins q L).drop (j + 1)).Sublist (ins q L) := by
            have e : ins q L = (ins q L).take j ++ ([q] ++ (ins q L).drop (j + 1)) := by
              conv => lhs; rw [← List.take_append_drop j (ins q L)]
              rw [drop_at h2]; rfl
            conv => rhs; rw [e]
            exact List.Sublist.append (List.Sublist.refl _) (List.sublist_append_right _ _)
          refine ⟨j, by simpa using h1, hj, ?_, ?_⟩
          · refine (rErr_srt _).2 ⟨⟨fun x hx => hM.1 x (hsub.subset hx), hM.2.sublist hsub⟩, ?_⟩
            exact Nat.le_trans hsub.length_le (by omega)
          · have hpw := hM.2
            rw [← List.take_append_drop j (ins q L), drop_at h2] at hpw
            obtain ⟨_, h5, h6⟩ := List.pairwise_append.1 hpw
            obtain ⟨h7, _⟩ := List.pairwise_cons.1 h5
            unfold look
            rw [List.find?_eq_none]
            intro x hx
            rcases List.mem_append.1 hx with hx | hx
            · have := lt_ne (h6 x hx q (by simp))
              simpa using this
            · have := lt_ne (h7 x hx)
              simpa using fun e => this e.symm
    · rename_i hp; exact absurd h hp
  · rename_i hL; exact absurd h hL
end Go.Proofs.YtghlncdnnmpikaaGreatDoor
