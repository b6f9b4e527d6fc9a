/-
  The mathematics of Diff, second half: what is set and unset of a record; the ops between two graphs make of the one the other.
-/
import Derived.Test.YtidmfdbckpficaaM30
namespace Go.Proofs.Ytidmfdbckpficaa
set_option linter.unusedVariables false
set_option linter.unusedSimpArgs false

theorem ba_ext {a b : ByteArray} (h : a.toList = b.toList) : a = b := by
  rw [Lib.toList_data, Lib.toList_data] at h
  obtain ⟨⟨x⟩⟩ := a
  obtain ⟨⟨y⟩⟩ := b
  simp at h
  subst h
  rfl
theorem pr_eq_iff (p q : Pr) : p.eq q = true ↔ p = q := by
  constructor
  · intro h
    obtain ⟨a, b, c, d⟩ := p
    obtain ⟨a', b', c', d'⟩ := q
    simp only [Pr.eq, Bool.and_eq_true, beq_iff_eq] at h
    obtain ⟨h1, ⟨h2, h3⟩, h4⟩ := h
    have h1' := ba_ext h1
    have h4' := ba_ext h4
    subst h1' h2 h3 h4'
    rfl
  · rintro rfl; exact pr_eq_self p
theorem sameP_iff (A : List Pr) (p : Pr) : sameP A p = true ↔ p ∈ A := by
  unfold sameP
  rw [List.any_eq_true]
  constructor
  · rintro ⟨q, hq, e⟩; rw [(pr_eq_iff p q).1 e]; exact hq
  · intro h; exact ⟨p, h, (pr_eq_iff p p).2 rfl⟩
theorem namedP_iff (B : List Pr) (p : Pr) : namedP B p = true ↔ ∃ q ∈ B, q.nm.toList = p.nm.toList := by
  unfold namedP
  rw [List.any_eq_true]
  constructor
  · rintro ⟨q, hq, e⟩; exact ⟨q, hq, by simpa using e⟩
  · rintro ⟨q, hq, e⟩; exact ⟨q, hq, by simpa using e⟩
theorem srtP_uniq {L : List Pr} (h : SrtP L) {a b : Pr} (ha : a ∈ L) (hb : b ∈ L) (e : a.nm.toList = b.nm.toList) : a = b := by
  obtain ⟨i, hi⟩ := List.getElem?_of_mem ha
  obtain ⟨j, hj⟩ := List.getElem?_of_mem hb
  obtain ⟨i1, rfl⟩ := List.getElem?_eq_some_iff.1 hi
  obtain ⟨j1, rfl⟩ := List.getElem?_eq_some_iff.1 hj
  rcases Nat.lt_trichotomy i j with h' | h' | h'
  · exact absurd e (lt_ne (List.pairwise_iff_getElem.1 h.2 i j i1 j1 h'))
  · subst h'; rfl
  · exact absurd e.symm (lt_ne (List.pairwise_iff_getElem.1 h.2 j i j1 i1 h'))
theorem srtP_nodup {L : List Pr} (h : SrtP L) : L.Nodup := List.Pairwise.imp (fun {a b} hab e => by subst e; exact lt_ne hab rfl) h.2
theorem srtP_names {L : List Pr} (h : SrtP L) : (L.map fun p => p.nm.toList).Nodup := List.Pairwise.map _ (fun a b hab => lt_ne hab) h.2
theorem srtP_ext {A B : List Pr} (h1 : SrtP A) (h2 : SrtP B) (h : ∀ x, x ∈ A ↔ x ∈ B) : A = B := srt_ext (r := fun a b => a.lt b = true) (fun a b hab => lt_asym hab) h1.2 h2.2 h
theorem look_mem {L : List Pr} (h : SrtP L) (q : Pr) : q ∈ L ↔ look q.nm.toList L = some q := by
  constructor
  · intro hq
    cases hf : look q.nm.toList L with
    | none =>
      have := List.find?_eq_none.1 hf q hq
      simp at this
    | some x =>
      have h1 := List.mem_of_find?_eq_some hf
      have h2 := List.find?_some hf
      rw [srtP_uniq h h1 hq (by simpa using h2)]
  · intro hf; exact List.mem_of_find?_eq_some hf
theorem mem_insP {p : Pr} {L : List Pr} (h : SrtP L) (hp : p.ok) (q : Pr) : q ∈ ins p L ↔ q = p ∨ (q ∈ L ∧ q.nm.toList ≠ p.nm.toList) := by
  rw [look_mem (ins_srt h hp), look_ins]
  by_cases e : (p.nm.toList == q.nm.toList) = true
  · rw [if_pos e]
    have e' : p.nm.toList = q.nm.toList := by simpa using e
    constructor
    · intro hh; exact .inl (Option.some.inj hh).symm
    · rintro (rfl | ⟨_, hne⟩)
      · rfl
      · exact absurd e'.symm hne
  · rw [if_neg e, ← look_mem h]
    constructor
    · intro hh; exact .inr ⟨hh, fun e2 => e (by rw [e2]; simp)⟩
    · rintro (rfl | ⟨hh, _⟩)
      · exact absurd (by simp) e
      · exact hh
theorem idxP_none (nm : List UInt8) : ∀ (L : List Pr) (k : Nat), idxP nm L k = -1 → ∀ q ∈ L, q.nm.toList ≠ nm
  | [], _, _, q, hq => by cases hq
  | p :: r, k, h, q, hq => by
    unfold idxP at h
    by_cases e : (p.nm.toList == nm) = true
    · rw [if_pos e] at h; omega
    · rw [if_neg e] at h
      rcases List.mem_cons.1 hq with e' | e'
      · subst e'; intro e2; exact e (by rw [e2]; simp)
      · exact idxP_none nm r (k + 1) h q e'
theorem mem_unL {p : Pr} {L : List Pr} (h : SrtP L) (hp : p ∈ L) (q : Pr) : unE p.nm.toList L = 0 ∧ (q ∈ unL p.nm.toList L ↔ q ∈ L ∧ q ≠ p) := by
  have hx : ¬ idxP p.nm.toList L 0 = -1 := fun e => idxP_none _ L 0 e p hp rfl
  refine ⟨by unfold unE; rw [if_neg hx], ?_⟩
  rcases idxP_spec p.nm.toList L 0 with h1 | ⟨j, g, hj, hg, he⟩
  · exact absurd h1 hx
  · have hgp : g = p := srtP_uniq h (List.mem_of_getElem? hg) hp (by simpa using he)
    subst hgp
    have e : unL g.nm.toList L = L.eraseIdx j := by
      unfold unL
      rw [hj, List.eraseIdx_eq_take_drop_succ]
      simp
    rw [e]
    exact mem_erase_at hg (srtP_nodup h) q

/-- A node of a graph of the call's own. -/
def mkN (id : Int) (kd : ByteArray) (r : List Pr) : Nd := ⟨id, kd, .nilIface, r⟩
theorem put_mem2 {id : Int} {kd : ByteArray} {R : List Pr} {M : List Nd} (hs : SrtN M) (hm : mkN id kd R ∈ M) : fndN id M = true ∧ rcAt id M = R ∧ ∀ r x, x ∈ putR id M r ↔ (x ∈ M ∧ x.id ≠ id) ∨ x = mkN id kd r := by
  have hf : fndN id M = true := (fnd_iff hs).2 ⟨_, hm, rfl⟩
  obtain ⟨g, hg, hgi⟩ := fndN_at hf
  have e := srtN_uniq hs (List.mem_of_getElem? hg) hm hgi
  subst e
  refine ⟨hf, by unfold rcAt; rw [hg]; rfl, fun r x => ?_⟩
  unfold putR
  rw [hg]
  show x ∈ M.set (loN id M) (mkN id kd r) ↔ _
  rw [mem_set_at hg hs.nodup]
  constructor
  · rintro (⟨a, b⟩ | a)
    · exact .inl ⟨a, fun e => b (srtN_uniq hs a (List.mem_of_getElem? hg) e)⟩
    · exact .inr a
  · rintro (⟨a, b⟩ | a)
    · exact .inl ⟨a, fun e => b (by rw [e]; rfl)⟩
    · exact .inr a
theorem self_mem2 {id : Int} {kd : ByteArray} {R : List Pr} {M : List Nd} (hs : SrtN M) (hm : mkN id kd R ∈ M) (x : Nd) : x ∈ M ↔ (x ∈ M ∧ x.id ≠ id) ∨ x = mkN id kd R := by
  constructor
  · intro hx
    by_cases e : x.id = id
    · exact .inr (srtN_uniq hs hx hm e)
    · exact .inl ⟨hx, e⟩
  · rintro (⟨a, _⟩ | rfl)
    · exact a
    · exact hm
theorem gErr_srtN {M : List Nd} {T : List Te} (h : gErr M T = 0) : SrtN M := ((gErr_iff M T).1 h).1.2.1
theorem gErr_rc {M : List Nd} {T : List Te} (h : gErr M T = 0) {n : Nd} (hn : n ∈ M) : rErr n.rc = 0 := ((ndE_iff n).1 (((gErr_iff M T).1 h).1.2.2 n hn)).2.2
/-- What holds behind ops on the record of one node. -/
def RcPost (L : List Opx) (id : Int) (kd : ByteArray) (M : List Nd) (T : List Te) (Q : Pr → Prop) : Prop := ∃ M' R', Runs L M T M' T ∧ gErr M' T = 0 ∧ mkN id kd R' ∈ M' ∧ (∀ x, x ∈ M' ↔ (x ∈ M ∧ x.id ≠ id) ∨ x = mkN id kd R') ∧ ∀ p, p ∈ R' ↔ Q p
theorem RcPost.step {o : Opx} {L : List Opx} {id : Int} {kd : ByteArray} {M : List Nd} {T : List Te} {R : List Pr} {Q : Pr → Prop} (h : gErr M T = 0) (hm : mkN id kd R ∈ M) {r : List Pr} (e0 : opE o M T = 0) (e1 : opM o M T = putR id M r) (e2 : opT o M T = T)
    (hn : gErr (putR id M r) T = 0 → mkN id kd r ∈ putR id M r → RcPost L id kd (putR id M r) T Q) : RcPost (o :: L) id kd M T Q := by
  obtain ⟨p1, p2, p3⟩ := put_mem2 (gErr_srtN h) hm
  have hk : gErr (putR id M r) T = 0 := by
    have : gErr (opM o M T) (opT o M T) = 0 := keeps_all o M T h e0
    rwa [e1, e2] at this
  obtain ⟨M', R', r1, r2, r3, r4, r5⟩ := hn hk ((p3 r _).2 (.inr rfl))
  refine ⟨M', R', Runs.cons e0 (by rw [e1, e2]; exact r1), r2, r3, fun x => ?_, r5⟩
  rw [r4, p3]
  constructor
  · rintro (⟨a | a, b⟩ | a)
    · exact .inl a
    · exact absurd (by rw [a]; rfl) b
    · exact .inr a
  · rintro (⟨a, b⟩ | a)
    · exact .inl ⟨.inl ⟨a, b⟩, b⟩
    · exact .inr a
theorem RcPost.mono {L : List Opx} {id : Int} {kd : ByteArray} {M : List Nd} {T : List Te} {Q Q' : Pr → Prop} (h : RcPost L id kd M T Q) (hq : ∀ p, Q p ↔ Q' p) : RcPost L id kd M T Q' := by
  obtain ⟨M', R', r1, r2, r3, r4, r5⟩ := h
  exact ⟨M', R', r1, r2, r3, r4, fun p => (r5 p).trans (hq p)⟩
theorem unset_run (id : Int) (kd : ByteArray) : ∀ (D : List Pr) (R : List Pr) (M : List Nd) (T : List Te), gErr M T = 0 → mkN id kd R ∈ M → D.Nodup → (∀ p ∈ D, p ∈ R) → RcPost (D.map fun p => (unsetO id p).c) id kd M T (fun p => p ∈ R ∧ p ∉ D)
  | [], R, M, T, h, hm, _, _ => ⟨M, R, Runs.nil _ _, h, hm, self_mem2 (gErr_srtN h) hm, fun p => by simp⟩
  | p :: r, R, M, T, h, hm, hn, hD => by
    obtain ⟨n1, n2⟩ := List.nodup_cons.1 hn
    obtain ⟨p1, p2, p3⟩ := put_mem2 (gErr_srtN h) hm
    have hR : SrtP R := ((rErr_srt R).1 (gErr_rc h hm)).1
    have hu := mem_unL hR (hD p (List.mem_cons_self ..))
    have e0 : opE (unsetO id p).c M T = 0 := by
      show opE ⟨4, ⟨id, _, _, _⟩, ⟨p.nm, _, _, _⟩, _⟩ M T = 0
      simp [opE, p1, p2, (hu p).1]
    have e1 : opM (unsetO id p).c M T = putR id M (unL p.nm.toList R) := by
      show opM ⟨4, ⟨id, _, _, _⟩, ⟨p.nm, _, _, _⟩, _⟩ M T = _
      simp [opM, p2]
    have e2 : opT (unsetO id p).c M T = T := by
      show opT ⟨4, ⟨id, _, _, _⟩, ⟨p.nm, _, _, _⟩, _⟩ M T = _
      simp [opT]
    refine RcPost.step h hm e0 e1 e2 fun g1 g2 => ?_
    refine (unset_run id kd r _ _ T g1 g2 n2 fun q hq => ((hu q).2).2 ⟨hD q (List.mem_cons_of_mem _ hq), fun e => n1 (e ▸ hq)⟩).mono fun q => ?_
    rw [(hu q).2, List.mem_cons]
    constructor
    · rintro ⟨⟨a, b⟩, c⟩; exact ⟨a, fun e => e.elim b c⟩
    · rintro ⟨a, b⟩; exact ⟨⟨a, fun e => b (.inl e)⟩, fun e => b (.inr e)⟩
theorem ok_one {p : Pr} (h : p.ok) : rErr [p] = 0 := (rErr_srt [p]).2 ⟨⟨fun x hx => by simp at hx; subst hx; exact h, List.pairwise_singleton _ _⟩, by simp⟩
theorem names_len {L B : List Pr} (h : SrtP L) (hs : ∀ p ∈ L, ∃ q ∈ B, q.nm.toList = p.nm.toList) : L.length ≤ B.length := by
  have := len_sub (l := L.map fun p => p.nm.toList) (m := B.map fun p => p.nm.toList) (srtP_names h) (fun x hx => by
    obtain ⟨p, hp, rfl⟩ := List.mem_map.1 hx
    obtain ⟨q, hq, e⟩ := hs p hp
    exact List.mem_map.2 ⟨q, hq, e⟩)
  simpa using this
theorem set_run (id : Int) (kd : ByteArray) (B : List Pr) (hB : rErr B = 0) : ∀ (D : List Pr) (R : List Pr) (M : List Nd) (T : List Te), gErr M T = 0 → mkN id kd R ∈ M → (D.Pairwise fun a b => a.lt b = true) → (∀ p ∈ D, p ∈ B) → (∀ p ∈ R, ∃ q ∈ B, q.nm.toList = p.nm.toList) → RcPost (D.map fun p => (setO id p).c) id kd M T (fun p => p ∈ D ∨ (p ∈ R ∧ ∀ d ∈ D, d.nm.toList ≠ p.nm.toList))
  | [], R, M, T, h, hm, _, _, _ => ⟨M, R, Runs.nil _ _, h, hm, self_mem2 (gErr_srtN h) hm, fun p => by simp⟩
  | p :: r, R, M, T, h, hm, hn, hD, hR8 => by
    obtain ⟨n1, n2⟩ := List.pairwise_cons.1 hn
    obtain ⟨p1, p2, p3⟩ := put_mem2 (gErr_srtN h) hm
    have hr0 := gErr_rc h hm
    have hr0 : rErr R = 0 := hr0
    have hR : SrtP R := ((rErr_srt R).1 hr0).1
    obtain ⟨hBs, hBl⟩ := (rErr_srt B).1 hB
    have hpB := hD p (List.mem_cons_self ..)
    have hpo := hBs.1 p hpB
    have hi := mem_insP hR hpo
    have hin : ∀ q ∈ ins p R, ∃ g ∈ B, g.nm.toList = q.nm.toList := fun q hq => by
      rcases (hi q).1 hq with e | ⟨e, _⟩
      · subst e; exact ⟨q, hpB, rfl⟩
      · exact hR8 q e
    have hl : (ins p R).length ≤ B.length := names_len (ins_srt hR hpo) hin
    have es : rsErr p R = 0 := by
      unfold rsErr
      rw [if_pos hr0, if_pos (ok_one hpo), if_neg (by omega)]
    have e0 : opE (setO id p).c M T = 0 := by
      show opE ⟨3, ⟨id, _, _, _⟩, p, _⟩ M T = 0
      simp [opE, p1, p2, es]
    have e1 : opM (setO id p).c M T = putR id M (ins p R) := by
      show opM ⟨3, ⟨id, _, _, _⟩, p, _⟩ M T = _
      simp [opM, p2]
    have e2 : opT (setO id p).c M T = T := by
      show opT ⟨3, ⟨id, _, _, _⟩, p, _⟩ M T = _
      simp [opT]
    refine RcPost.step h hm e0 e1 e2 fun g1 g2 => ?_
    refine (set_run id kd B hB r _ _ T g1 g2 n2 (fun q hq => hD q (List.mem_cons_of_mem _ hq)) hin).mono fun q => ?_
    rw [hi]
    constructor
    · rintro (a | ⟨a | ⟨a, b⟩, c⟩)
      · exact .inl (List.mem_cons_of_mem _ a)
      · exact .inl (by rw [a]; exact List.mem_cons_self ..)
      · refine .inr ⟨a, fun d hd => ?_⟩
        rcases List.mem_cons.1 hd with e | e
        · subst e; exact fun e => b e.symm
        · exact c d e
    · rintro (a | ⟨a, b⟩)
      · rcases List.mem_cons.1 a with e | e
        · subst e
          exact .inr ⟨.inl rfl, fun d hd e => lt_ne (n1 d hd) e.symm⟩
        · exact .inl e
      · exact .inr ⟨.inr ⟨a, fun e => b p (List.mem_cons_self ..) e.symm⟩, fun d hd => b d (List.mem_cons_of_mem _ hd)⟩
/-- The ops on one record make of it the other one. -/
theorem prO_run {id : Int} {kd : ByteArray} {A B : List Pr} {M : List Nd} {T : List Te} (h : gErr M T = 0) (hm : mkN id kd A ∈ M) (hB : rErr B = 0) : ∃ M', Runs (prO id A B) M T M' T ∧ gErr M' T = 0 ∧ ∀ x, x ∈ M' ↔ (x ∈ M ∧ x.id ≠ id) ∨ x = mkN id kd B := by
  have hA : SrtP A := ((rErr_srt A).1 (gErr_rc h hm)).1
  have hBs := ((rErr_srt B).1 hB).1
  obtain ⟨M1, R1, a1, a2, a3, a4, a5⟩ := unset_run id kd (A.filter fun p => !namedP B p) A M T h hm ((srtP_nodup hA).filter _) (fun p hp => (List.mem_filter.1 hp).1)
  have a5' : ∀ p, p ∈ R1 ↔ p ∈ A ∧ namedP B p = true := fun p => by
    rw [a5]
    show (p ∈ A ∧ ¬ p ∈ A.filter fun p => !namedP B p) ↔ _
    rw [List.mem_filter]
    constructor
    · rintro ⟨x, y⟩
      refine ⟨x, ?_⟩
      cases hh : namedP B p with
      | true => rfl
      | false => exact absurd ⟨x, by rw [hh]; rfl⟩ y
    · rintro ⟨x, y⟩
      exact ⟨x, fun hh => by rw [y] at hh; simp at hh⟩
  obtain ⟨M2, R2, b1, b2, b3, b4, b5⟩ := set_run id kd B hB (B.filter fun p => !sameP A p) R1 M1 T a2 a3 (hBs.2.filter _) (fun p hp => (List.mem_filter.1 hp).1) (fun p hp => (namedP_iff B p).1 ((a5' p).1 hp).2)
  have hR2 : R2 = B := by
    refine srtP_ext ((rErr_srt R2).1 (gErr_rc b2 b3)).1 hBs fun p => ?_
    rw [b5]
    constructor
    · rintro (x | ⟨x, y⟩)
      · exact (List.mem_filter.1 x).1
      · obtain ⟨x1, x2⟩ := (a5' p).1 x
        obtain ⟨q, hq, e⟩ := (namedP_iff B p).1 x2
        cases hh : sameP A q with
        | true =>
          have hqA := (sameP_iff A q).1 hh
          rw [← srtP_uniq hA hqA x1 e]
          exact hq
        | false => exact absurd e (y q (List.mem_filter.2 ⟨hq, by rw [hh]; rfl⟩))
    · intro hp
      cases hh : sameP A p with
      | false => exact .inl (List.mem_filter.2 ⟨hp, by rw [hh]; rfl⟩)
      | true =>
        refine .inr ⟨(a5' p).2 ⟨(sameP_iff A p).1 hh, (namedP_iff B p).2 ⟨p, hp, rfl⟩⟩, fun d hd e => ?_⟩
        obtain ⟨d1, d2⟩ := List.mem_filter.1 hd
        rw [srtP_uniq hBs d1 hp e, hh] at d2
        simp at d2
  subst hR2
  refine ⟨M2, a1.app b1, b2, fun x => ?_⟩
  rw [b4, a4]
  constructor
  · rintro (⟨a | a, b⟩ | a)
    · exact .inl a
    · exact absurd (by rw [a]; rfl) b
    · exact .inr a
  · rintro (⟨a, b⟩ | a)
    · exact .inl ⟨.inl ⟨a, b⟩, b⟩
    · exact .inr a

theorem nG_out : ∀ (L : List Nd) (F : Int → Option Nd) (id : Int), (∀ n ∈ L, n.id ≠ id) → L.foldl (fun F n => upd F n.id n) F id = F id
  | [], _, _, _ => rfl
  | a :: r, F, id, h => by
    rw [List.foldl_cons, nG_out r _ id (fun n hn => h n (List.mem_cons_of_mem _ hn))]
    unfold upd
    rw [if_neg (fun e => h a (List.mem_cons_self ..) e.symm)]
theorem nG_in : ∀ (L : List Nd) (F : Int → Option Nd) (n : Nd), SrtN L → n ∈ L → L.foldl (fun F n => upd F n.id n) F n.id = some n
  | [], _, _, _, h => by cases h
  | a :: r, F, n, hs, h => by
    obtain ⟨s1, s2⟩ := List.pairwise_cons.1 hs
    rw [List.foldl_cons]
    rcases List.mem_cons.1 h with e | e
    · subst e
      rw [nG_out r _ n.id (fun m hm => by have := s1 m hm; omega)]
      unfold upd
      rw [if_pos rfl]
    · exact nG_in r _ n s2 e
theorem nG_iff {L : List Nd} (hs : SrtN L) (id : Int) (n : Nd) : nG L id = some n ↔ n ∈ L ∧ n.id = id :=
  ⟨nG_mem, fun ⟨h1, h2⟩ => by subst h2; exact nG_in L _ n hs h1⟩
theorem nG_none {L : List Nd} (hs : SrtN L) (id : Int) : nG L id = none ↔ ∀ n ∈ L, n.id ≠ id := by
  constructor
  · intro h n hn e
    rw [(nG_iff hs id n).2 ⟨hn, e⟩] at h
    cases h
  · intro h; exact nG_out L _ id h
theorem tG_in_aux : ∀ (L : List Te) (F : Te → Option Value) (t : Te), ((F t).isSome = true ∨ t ∈ L) → (L.foldl (fun F t => upd F t (.int .i64 1)) F t).isSome = true
  | [], F, t, h => by
    rcases h with h | h
    · exact h
    · cases h
  | a :: r, F, t, h => by
    rw [List.foldl_cons]
    refine tG_in_aux r _ t ?_
    by_cases e : t = a
    · left; unfold upd; rw [if_pos e]; rfl
    · rcases h with h | h
      · left; unfold upd; rw [if_neg e]; exact h
      · rcases List.mem_cons.1 h with e' | e'
        · exact absurd e' e
        · exact .inr e'
theorem hasT_iff (L : List Te) (t : Te) : hasT L t = true ↔ t ∈ L := by
  unfold hasT
  constructor
  · intro h
    obtain ⟨v, hv⟩ := Option.isSome_iff_exists.1 h
    exact (tG_mem hv).1
  · intro h; exact tG_in_aux L _ t (.inr h)
theorem hasN_iff {N : List Nd} (hs : SrtN N) (n : Nd) : hasN N n = true ↔ ∃ m ∈ N, m.id = n.id ∧ m.kd = n.kd := by
  constructor
  · intro h
    cases hg : nG N n.id with
    | none => rw [hasN_none hg] at h; cases h
    | some m =>
      rw [hasN_some hg] at h
      obtain ⟨h1, h2⟩ := nG_mem hg
      exact ⟨m, h1, h2, ba_ext (by simpa using h)⟩
  · rintro ⟨m, h1, h2, h3⟩
    rw [hasN_some ((nG_iff hs _ m).2 ⟨h1, h2⟩), h3]
    simp
/-- The ops on the records of the nodes that stay. -/
theorem rec_run {M : List Nd} {U : List Te} (hMU : gErr M U = 0) : ∀ (D : List Nd) (X : List Nd) (T : List Te), gErr X T = 0 → SrtN D → (∀ n ∈ D, hasN M n = true → mkN n.id n.kd n.rc ∈ X) → ∃ X', Runs (D.flatMap (ndO M)) X T X' T ∧ gErr X' T = 0 ∧ ∀ x, x ∈ X' ↔ (x ∈ X ∧ ∀ n ∈ D, hasN M n = true → n.id ≠ x.id) ∨ ∃ n ∈ D, hasN M n = true ∧ x = mkN n.id n.kd (rcOf M n.id)
  | [], X, T, h, _, _ => ⟨X, Runs.nil _ _, h, fun x => by simp⟩
  | n :: r, X, T, h, hs, hm => by
    obtain ⟨s1, s2⟩ := List.pairwise_cons.1 hs
    rw [List.flatMap_cons]
    cases hh : hasN M n with
    | false =>
      obtain ⟨X', r1, r2, r3⟩ := rec_run hMU r X T h s2 (fun u hu => hm u (List.mem_cons_of_mem _ hu))
      refine ⟨X', by rw [ndO_no hh]; exact r1, r2, fun x => ?_⟩
      rw [r3]
      constructor
      · rintro (⟨a, b⟩ | ⟨u, hu, a⟩)
        · refine .inl ⟨a, fun v hv hv' => ?_⟩
          rcases List.mem_cons.1 hv with e | e
          · subst e; rw [hh] at hv'; cases hv'
          · exact b v e hv'
        · exact .inr ⟨u, List.mem_cons_of_mem _ hu, a⟩
      · rintro (⟨a, b⟩ | ⟨u, hu, a, a'⟩)
        · exact .inl ⟨a, fun v hv => b v (List.mem_cons_of_mem _ hv)⟩
        · rcases List.mem_cons.1 hu with e | e
          · subst e; rw [hh] at a; cases a
          · exact .inr ⟨u, e, a, a'⟩
    | true =>
      obtain ⟨m, m1, m2, m3⟩ := (hasN_iff (gErr_srtN hMU) n).1 hh
      have hr : rcOf M n.id = m.rc := rcOf_some ((nG_iff (gErr_srtN hMU) _ m).2 ⟨m1, m2⟩)
      obtain ⟨X1, a1, a2, a3⟩ := prO_run (B := rcOf M n.id) h (hm n (List.mem_cons_self ..) hh) (by rw [hr]; exact gErr_rc hMU m1)
      obtain ⟨X', r1, r2, r3⟩ := rec_run hMU r X1 T a2 s2 (fun u hu hu' => (a3 _).2 (.inl ⟨hm u (List.mem_cons_of_mem _ hu) hu', by have := s1 u hu; show u.id ≠ n.id; omega⟩))
      refine ⟨X', by rw [ndO_yes hh]; exact a1.app r1, r2, fun x => ?_⟩
      rw [r3, a3]
      constructor
      · rintro (⟨⟨a, b⟩ | a, c⟩ | ⟨u, hu, a⟩)
        · refine .inl ⟨a, fun v hv hv' => ?_⟩
          rcases List.mem_cons.1 hv with e | e
          · subst e; exact fun e => b e.symm
          · exact c v e hv'
        · exact .inr ⟨n, List.mem_cons_self .., hh, a⟩
        · exact .inr ⟨u, List.mem_cons_of_mem _ hu, a⟩
      · rintro (⟨a, b⟩ | ⟨u, hu, a, a'⟩)
        · exact .inl ⟨.inl ⟨a, fun e => b n (List.mem_cons_self ..) hh e.symm⟩, fun v hv => b v (List.mem_cons_of_mem _ hv)⟩
        · rcases List.mem_cons.1 hu with e | e
          · subst e
            refine .inl ⟨.inr a', fun v hv _ => ?_⟩
            subst a'
            have := s1 v hv
            show v.id ≠ u.id
            omega
          · exact .inr ⟨u, e, a, a'⟩

/-- What is between two graphs. -/
def difO (N : List Nd) (T : List Te) (M : List Nd) (U : List Te) : List Opx :=
  ((T.filter fun t => !hasT U t).map fun t => (looseO t).c) ++ (((N.filter fun n => !hasN M n).map fun n => (goneO n).c) ++ (((M.filter fun n => !hasN N n).map fun n => (newO n).c) ++ (recO N M ++ ((U.filter fun t => !stayT N M T t).map fun t => (bindO t).c))))
theorem goes_iff {N M : List Nd} (hs : SrtN N) (id : Int) : goesN N M id = true ↔ ∃ n ∈ N, n.id = id ∧ hasN M n = false := by
  constructor
  · intro h
    cases hg : nG N id with
    | none => rw [goes_none hg] at h; cases h
    | some n =>
      rw [goes_some hg] at h
      obtain ⟨h1, h2⟩ := nG_mem hg
      exact ⟨n, h1, h2, by simpa using h⟩
  · rintro ⟨n, h1, h2, h3⟩
    rw [goes_some ((nG_iff hs id n).2 ⟨h1, h2⟩), h3]
    rfl
theorem filt_len {α : Type} (f : α → Bool) : ∀ l : List α, (l.filter f).length + (l.filter fun x => !f x).length = l.length
  | [] => rfl
  | a :: r => by
    have := filt_len f r
    cases h : f a <;> simp [List.filter_cons, h] <;> omega
theorem not_f {b : Bool} : (!b) = true ↔ b = false := by cases b <;> simp
theorem cN_mem {N : List Nd} {x : Nd} : x ∈ cN N ↔ ∃ n ∈ N, x = n.c := by
  unfold cN
  rw [List.mem_map]
  constructor
  · rintro ⟨n, h, rfl⟩; exact ⟨n, h, rfl⟩
  · rintro ⟨n, h, rfl⟩; exact ⟨n, h, rfl⟩
theorem srtN_c {N : List Nd} (h : SrtN N) : SrtN (cN N) := srt_ids h (by unfold cN; rw [List.map_map]; rfl)
/-- What is between two graphs makes of the one the other. -/
theorem dif_runs {N M : List Nd} {T U : List Te} (h1 : gErr N T = 0) (h2 : gErr M U = 0) : Runs (difO N T M U) (cN N) T (cN M) U := by
  have hN := gErr_srtN h1
  have hM := gErr_srtN h2
  have hT := ((gErr_iff N T).1 h1).2.2.1
  obtain ⟨⟨l60, _, okM⟩, ⟨l120, hU, okU⟩⟩ := (gErr_iff M U).1 h2
  have h1' : gErr (cN N) T = 0 := by rw [gErr_c]; exact h1
  -- ties that b has not
  obtain ⟨T1, a1, a2, a3⟩ := loose_run (T.filter fun t => !hasT U t) (cN N) T h1' (hT.nodup.filter _) (fun t ht => (List.mem_filter.1 ht).1)
  have a3' : ∀ t, t ∈ T1 ↔ t ∈ T ∧ t ∈ U := fun t => by
    rw [a3, List.mem_filter, not_f]
    constructor
    · rintro ⟨x, y⟩
      refine ⟨x, (hasT_iff U t).1 ?_⟩
      cases hh : hasT U t with
      | true => rfl
      | false => exact absurd ⟨x, hh⟩ y
    · rintro ⟨x, y⟩
      exact ⟨x, fun hh => by rw [(hasT_iff U t).2 y] at hh; cases hh.2⟩
  -- nodes that go
  obtain ⟨M2, T2, b1, b2, b3, b4⟩ := gone_run (N.filter fun n => !hasN M n) (cN N) T1 a2 (List.Pairwise.filter _ hN) (fun n hn => ⟨n.c, cN_mem.2 ⟨n, (List.mem_filter.1 hn).1, rfl⟩, rfl⟩)
  have b3' : ∀ x, x ∈ M2 ↔ ∃ n ∈ N, hasN M n = true ∧ x = n.c := fun x => by
    rw [b3, cN_mem]
    constructor
    · rintro ⟨⟨n, hn, rfl⟩, c⟩
      refine ⟨n, hn, ?_, rfl⟩
      cases hh : hasN M n with
      | true => rfl
      | false => exact absurd rfl (c n (List.mem_filter.2 ⟨hn, by rw [hh]; rfl⟩))
    · rintro ⟨n, hn, hh, rfl⟩
      refine ⟨⟨n, hn, rfl⟩, fun u hu e => ?_⟩
      obtain ⟨u1, u2⟩ := List.mem_filter.1 hu
      have : u = n := srtN_uniq hN u1 hn e
      subst this
      rw [hh] at u2
      cases u2
  have b4' : ∀ t, t ∈ T2 ↔ t ∈ U ∧ stayT N M T t = true := fun t => by
    have hk : (∀ n ∈ N.filter fun n => !hasN M n, keepT n.id t = true) ↔ goesN N M t.fr = false ∧ goesN N M t.tt = false := by
      constructor
      · intro h
        have key : ∀ id, (t.fr = id ∨ t.tt = id) → goesN N M id = false := fun id hid => by
          cases hh : goesN N M id with
          | false => rfl
          | true =>
            obtain ⟨n, n1, n2, n3⟩ := (goes_iff hN id).1 hh
            have := h n (List.mem_filter.2 ⟨n1, by rw [n3]; rfl⟩)
            unfold keepT Te.end at this
            rcases hid with e | e <;> simp [n2, e] at this
        exact ⟨key _ (.inl rfl), key _ (.inr rfl)⟩
      · rintro ⟨k1, k2⟩ n hn
        obtain ⟨n1, n2⟩ := List.mem_filter.1 hn
        have n2' := not_f.1 n2
        have hne : ∀ id, goesN N M id = false → id ≠ n.id := fun id hid e => by
          rw [(goes_iff hN id).2 ⟨n, n1, e.symm, n2'⟩] at hid
          cases hid
        have e1 := hne _ k1
        have e2 := hne _ k2
        unfold keepT Te.end
        simp [e1, e2]
    rw [b4, a3', hk]
    unfold stayT
    rw [Bool.and_eq_true, Bool.and_eq_true, not_f, not_f, hasT_iff]
    constructor
    · rintro ⟨⟨x, y⟩, z1, z2⟩; exact ⟨y, ⟨x, z1⟩, z2⟩
    · rintro ⟨y, ⟨x, z1⟩, z2⟩; exact ⟨⟨x, y⟩, z1, z2⟩
  -- nodes that come
  have hM2 := gErr_srtN b2
  have dj : ∀ n ∈ (M.filter fun n => !hasN N n), ∀ m ∈ M2, m.id ≠ n.id := fun n hn m hm e => by
    obtain ⟨n1, n2⟩ := List.mem_filter.1 hn
    obtain ⟨u, u1, u2, rfl⟩ := (b3' m).1 hm
    obtain ⟨v, v1, v2, v3⟩ := (hasN_iff hM u).1 u2
    have : v = n := srtN_uniq hM v1 n1 (v2.trans e)
    subst this
    rw [(hasN_iff hN v).2 ⟨u, u1, e, v3.symm⟩] at n2
    cases n2
  have lN : M2.length + (M.filter fun n => !hasN N n).length ≤ 60 := by
    have hnd : (M2.map (·.id) ++ (M.filter fun n => !hasN N n).map (·.id)).Nodup := by
      refine List.nodup_append.2 ⟨List.Pairwise.map _ (fun a b hab => by omega) hM2, List.Pairwise.map _ (fun a b hab => by omega) (List.Pairwise.filter _ hM), fun a ha b hb e => ?_⟩
      obtain ⟨m, hm, rfl⟩ := List.mem_map.1 ha
      obtain ⟨n, hn, rfl⟩ := List.mem_map.1 hb
      exact dj n hn m hm e
    have := len_sub (m := M.map (·.id)) hnd (fun x hx => by
      rcases List.mem_append.1 hx with hx | hx
      · obtain ⟨m, hm, rfl⟩ := List.mem_map.1 hx
        obtain ⟨u, u1, u2, rfl⟩ := (b3' m).1 hm
        obtain ⟨v, v1, v2, v3⟩ := (hasN_iff hM u).1 u2
        exact List.mem_map.2 ⟨v, v1, v2⟩
      · obtain ⟨n, hn, rfl⟩ := List.mem_map.1 hx
        exact List.mem_map.2 ⟨n, (List.mem_filter.1 hn).1, rfl⟩)
    simp only [List.length_append, List.length_map] at this
    omega
  obtain ⟨M3, c1, c2, c3⟩ := new_run (M.filter fun n => !hasN N n) M2 T2 b2 (List.Pairwise.filter _ hM) (fun n hn => okM n (List.mem_filter.1 hn).1) dj lN
  -- records
  obtain ⟨M4, d1, d2, d3⟩ := rec_run h2 N M3 T2 c2 hN (fun n hn hh => (c3 _).2 (.inl ((b3' _).2 ⟨n, hn, hh, rfl⟩)))
  have hM4 : M4 = cN M := by
    refine srtN_ext (gErr_srtN d2) (srtN_c hM) fun x => ?_
    rw [d3, c3, b3', cN_mem]
    constructor
    · rintro (⟨⟨n, n1, n2, rfl⟩ | ⟨n, hn, rfl⟩, b⟩ | ⟨n, n1, n2, rfl⟩)
      · exact absurd rfl (b n n1 n2)
      · exact ⟨n, (List.mem_filter.1 hn).1, rfl⟩
      · obtain ⟨v, v1, v2, v3⟩ := (hasN_iff hM n).1 n2
        refine ⟨v, v1, ?_⟩
        rw [rcOf_some ((nG_iff hM _ v).2 ⟨v1, v2⟩)]
        obtain ⟨vi, vk, vr, vc⟩ := v
        simp only at v2 v3
        subst v2 v3
        rfl
    · rintro ⟨m, hm, rfl⟩
      cases hh : hasN N m with
      | true =>
        obtain ⟨n, n1, n2, n3⟩ := (hasN_iff hN m).1 hh
        refine .inr ⟨n, n1, (hasN_iff hM n).2 ⟨m, hm, n2.symm, n3.symm⟩, ?_⟩
        rw [rcOf_some ((nG_iff hM _ m).2 ⟨hm, n2.symm⟩), n2, n3]
        rfl
      | false =>
        refine .inl ⟨.inr ⟨m, List.mem_filter.2 ⟨hm, by rw [hh]; rfl⟩, rfl⟩, fun n n1 n2 e => ?_⟩
        obtain ⟨v, v1, v2, v3⟩ := (hasN_iff hM n).1 n2
        have e' : v = m := srtN_uniq hM v1 hm (v2.trans e)
        subst e'
        rw [(hasN_iff hN v).2 ⟨n, n1, v2.symm, v3.symm⟩] at hh
        cases hh
  subst hM4
  -- ties that come
  have hT2 : T2 = U.filter (stayT N M T) := srtT_ext ((gErr_iff _ _).1 d2).2.2.1 (List.Pairwise.filter _ hU) fun t => by rw [b4', List.mem_filter]
  obtain ⟨T5, e1, e2, e3⟩ := bind_run (U.filter fun t => !stayT N M T t) (cN M) T2 d2 (hU.nodup.filter _) (fun t ht => okU t (List.mem_filter.1 ht).1) (fun t ht hh => by
    have := (List.mem_filter.1 ht).2
    rw [((b4' t).1 hh).2] at this
    cases this) (by
    have := filt_len (stayT N M T) U
    rw [hT2]
    omega)
  have hT5 : T5 = U := srtT_ext ((gErr_iff _ _).1 e2).2.2.1 hU fun t => by
    rw [e3, b4', List.mem_filter]
    constructor
    · rintro (x | x)
      · exact x.1
      · exact x.1
    · intro hx
      cases hh : stayT N M T t with
      | true => exact .inl ⟨hx, rfl⟩
      | false => exact .inr ⟨hx, rfl⟩
  subst hT5
  exact a1.app (b1.app (c1.app (d1.app e1)))
end Go.Proofs.Ytidmfdbckpficaa
