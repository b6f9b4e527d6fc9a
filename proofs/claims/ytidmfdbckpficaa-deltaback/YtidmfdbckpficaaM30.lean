/-
  The mathematics of Diff, first half: sorted lists with the same members are the same; what ops of one sort, one behind the other, make of a graph.
-/
import Derived.Test.YtidmfdbckpficaaM29
namespace Go.Proofs.Ytidmfdbckpficaa
set_option linter.unusedVariables false
set_option linter.unusedSimpArgs false

section
variable {α : Type}
theorem srt_ext {r : α → α → Prop} (ha : ∀ a b, r a b → ¬ r b a) : ∀ {l m : List α}, l.Pairwise r → m.Pairwise r → (∀ x, x ∈ l ↔ x ∈ m) → l = m
  | [], [], _, _, _ => rfl
  | [], b :: m, _, _, h => by have := (h b).2 (List.mem_cons_self ..); cases this
  | a :: l, [], _, _, h => by have := (h a).1 (List.mem_cons_self ..); cases this
  | a :: l, b :: m, hl, hm, h => by
    obtain ⟨l1, l2⟩ := List.pairwise_cons.1 hl
    obtain ⟨m1, m2⟩ := List.pairwise_cons.1 hm
    have hab : a = b := by
      rcases List.mem_cons.1 ((h a).1 (List.mem_cons_self ..)) with e | e
      · exact e
      · rcases List.mem_cons.1 ((h b).2 (List.mem_cons_self ..)) with e' | e'
        · exact e'.symm
        · exact absurd (m1 a e) (ha _ _ (l1 b e'))
    subst hab
    have hx : ∀ x, r a x → x ≠ a := fun x hr e => by subst e; exact ha _ _ hr hr
    rw [srt_ext ha l2 m2 (fun x => ⟨fun hh => ?_, fun hh => ?_⟩)]
    · rcases List.mem_cons.1 ((h x).1 (List.mem_cons_of_mem _ hh)) with e | e
      · exact absurd e (hx x (l1 x hh))
      · exact e
    · rcases List.mem_cons.1 ((h x).2 (List.mem_cons_of_mem _ hh)) with e | e
      · exact absurd e (hx x (m1 x hh))
      · exact e
theorem len_sub : ∀ {l m : List α}, l.Nodup → (∀ x ∈ l, x ∈ m) → l.length ≤ m.length
  | [], m, _, _ => Nat.zero_le _
  | a :: l, m, hn, h => by
    classical
    obtain ⟨h1, h2⟩ := List.nodup_cons.1 hn
    have ha := h a (List.mem_cons_self ..)
    have := len_sub (l := l) (m := m.erase a) h2 (fun x hx => (List.mem_erase_of_ne (fun e => h1 (by rw [← e]; exact hx))).2 (h x (List.mem_cons_of_mem _ hx)))
    rw [List.length_erase_of_mem ha] at this
    have hp := List.length_pos_of_mem ha
    rw [List.length_cons]
    omega
theorem mem_erase_at {l : List α} {k : Nat} {y : α} (hk : l[k]? = some y) (hn : l.Nodup) (x : α) : x ∈ l.eraseIdx k ↔ x ∈ l ∧ x ≠ y := by
  rw [List.mem_eraseIdx_iff_getElem?]
  constructor
  · rintro ⟨i, hi, hx⟩
    refine ⟨List.mem_of_getElem? hx, fun e => hi ?_⟩
    subst e
    obtain ⟨a1, a2⟩ := List.getElem?_eq_some_iff.1 hx
    exact (List.getElem?_inj a1 hn).1 (hx.trans hk.symm)
  · rintro ⟨hx, hne⟩
    obtain ⟨i, hi⟩ := List.getElem?_of_mem hx
    refine ⟨i, fun e => hne ?_, hi⟩
    subst e
    exact Option.some.inj (hi.symm.trans hk)
theorem mem_set_at {l : List α} {k : Nat} {z y : α} (hk : l[k]? = some z) (hn : l.Nodup) (x : α) : x ∈ l.set k y ↔ (x ∈ l ∧ x ≠ z) ∨ x = y := by
  have hl := (List.getElem?_eq_some_iff.1 hk).1
  constructor
  · intro hx
    obtain ⟨i, hi⟩ := List.getElem?_of_mem hx
    rw [List.getElem?_set] at hi
    by_cases e : k = i
    · rw [if_pos e, if_pos (e ▸ hl)] at hi
      exact .inr (Option.some.inj hi).symm
    · rw [if_neg e] at hi
      refine .inl ⟨List.mem_of_getElem? hi, fun e' => e ?_⟩
      subst e'
      exact (List.getElem?_inj hl hn).1 (hk.trans hi.symm)
  · rintro (⟨hx, hne⟩ | rfl)
    · obtain ⟨i, hi⟩ := List.getElem?_of_mem hx
      refine List.mem_of_getElem? (i := i) ?_
      rw [List.getElem?_set, if_neg, hi]
      intro e
      subst e
      exact hne (Option.some.inj (hi.symm.trans hk))
    · refine List.mem_of_getElem? (i := k) ?_
      rw [List.getElem?_set, if_pos rfl, if_pos hl]
end

theorem SrtN.nodup {N : List Nd} (h : SrtN N) : N.Nodup := List.Pairwise.imp (fun {a b} hab e => by subst e; omega) h
theorem SrtT.nodup {T : List Te} (h : SrtT T) : T.Nodup := List.Pairwise.imp (fun {a b} hab e => by subst e; have := (tCmp_zero a a).2 rfl; omega) h
theorem srtN_uniq {N : List Nd} (h : SrtN N) {a b : Nd} (ha : a ∈ N) (hb : b ∈ N) (e : a.id = b.id) : a = b := by
  obtain ⟨i, hi⟩ := List.getElem?_of_mem ha
  obtain ⟨j, hj⟩ := List.getElem?_of_mem hb
  obtain ⟨i1, rfl⟩ := List.getElem?_eq_some_iff.1 hi
  obtain ⟨j1, rfl⟩ := List.getElem?_eq_some_iff.1 hj
  rcases Nat.lt_trichotomy i j with h' | h' | h'
  · have := List.pairwise_iff_getElem.1 h i j i1 j1 h'; omega
  · subst h'; rfl
  · have := List.pairwise_iff_getElem.1 h j i j1 i1 h'; omega
theorem srtN_ext {A B : List Nd} (h1 : SrtN A) (h2 : SrtN B) (h : ∀ x, x ∈ A ↔ x ∈ B) : A = B := srt_ext (fun a b hab hba => by omega) h1 h2 h
theorem srtT_ext {A B : List Te} (h1 : SrtT A) (h2 : SrtT B) (h : ∀ x, x ∈ A ↔ x ∈ B) : A = B := srt_ext (fun a b hab hba => by have := tCmp_anti a b; omega) h1 h2 h

/-- Ops, one by one, have no error and make one graph of another one. -/
def Runs (L : List Opx) (M : List Nd) (T : List Te) (M' : List Nd) (T' : List Te) : Prop := opS.err L M T = 0 ∧ opS.res L M T = (M', T')
theorem Runs.nil (M : List Nd) (T : List Te) : Runs [] M T M T := ⟨rfl, rfl⟩
theorem Runs.cons {o : Opx} {L : List Opx} {M M' : List Nd} {T T' : List Te} (h : opE o M T = 0) (r : Runs L (opM o M T) (opT o M T) M' T') : Runs (o :: L) M T M' T' := by
  have h' : opS.e o M T = 0 := h
  unfold Runs OpS.err OpS.res
  rw [if_pos h', if_pos h']
  exact r
theorem Runs.app {L1 L2 : List Opx} {M M1 M2 : List Nd} {T T1 T2 : List Te} (h1 : Runs L1 M T M1 T1) (h2 : Runs L2 M1 T1 M2 T2) : Runs (L1 ++ L2) M T M2 T2 := by
  induction L1 generalizing M T with
  | nil =>
    obtain ⟨_, e⟩ := h1
    have e' : (M, T) = (M1, T1) := e
    injection e' with e1 e2
    subst e1 e2
    exact h2
  | cons o r ih =>
    obtain ⟨e1, e2⟩ := h1
    unfold OpS.err at e1
    unfold OpS.res at e2
    by_cases h' : opS.e o M T = 0
    · rw [if_pos h'] at e1 e2
      exact Runs.cons h' (ih ⟨e1, e2⟩)
    · rw [if_neg h'] at e1
      exact absurd e1 h'

theorem fndT_at {t : Te} {T : List Te} (h : fndT t T = true) : T[loT t T]? = some t := by
  unfold fndT at h
  split at h
  · rename_i g hg
    rw [hg]
    congr 1
    exact (tCmp_zero g t).1 (by simpa using h)
  · cases h
theorem fndN_at {id : Int} {M : List Nd} (h : fndN id M = true) : ∃ n, M[loN id M]? = some n ∧ n.id = id := by
  unfold fndN at h
  split at h
  · rename_i g hg
    exact ⟨g, hg, by simpa using h⟩
  · cases h

/-- Loose of ties that are there. -/
theorem loose_run : ∀ (D : List Te) (M : List Nd) (T : List Te), gErr M T = 0 → D.Nodup → (∀ t ∈ D, t ∈ T) → ∃ T', Runs (D.map fun t => (looseO t).c) M T M T' ∧ gErr M T' = 0 ∧ ∀ x, x ∈ T' ↔ x ∈ T ∧ x ∉ D
  | [], M, T, h, _, _ => ⟨T, Runs.nil _ _, h, fun x => by simp⟩
  | t :: r, M, T, h, hn, hm => by
    obtain ⟨n1, n2⟩ := List.nodup_cons.1 hn
    have hs := ((gErr_iff M T).1 h).2.2.1
    have hf : fndT t T = true := (fndT_iff hs).2 (hm t (List.mem_cons_self ..))
    have hx := mem_erase_at (fndT_at hf) hs.nodup
    have e0 : opE (looseO t).c M T = 0 := by show opE ⟨6, _, _, t⟩ M T = 0; simp [opE, hf]
    have e1 : opM (looseO t).c M T = M := by show opM ⟨6, _, _, t⟩ M T = M; simp [opM]
    have e2 : opT (looseO t).c M T = T.eraseIdx (loT t T) := by show opT ⟨6, _, _, t⟩ M T = _; simp [opT]
    have hk := keeps_all (looseO t).c M T h e0
    have hk' : gErr M (T.eraseIdx (loT t T)) = 0 := by
      have : gErr (opM (looseO t).c M T) (opT (looseO t).c M T) = 0 := hk
      rwa [e1, e2] at this
    obtain ⟨T', r1, r2, r3⟩ := loose_run r M (T.eraseIdx (loT t T)) hk' n2 (fun u hu => (hx u).2 ⟨hm u (List.mem_cons_of_mem _ hu), fun e => n1 (e ▸ hu)⟩)
    refine ⟨T', Runs.cons e0 (by rw [e1, e2]; exact r1), r2, fun x => ?_⟩
    rw [r3, hx, List.mem_cons]
    constructor
    · rintro ⟨⟨a, b⟩, c⟩; exact ⟨a, fun e => e.elim b c⟩
    · rintro ⟨a, b⟩; exact ⟨⟨a, fun e => b (.inl e)⟩, fun e => b (.inr e)⟩

/-- Gone of nodes that are there. -/
theorem gone_run : ∀ (D : List Nd) (M : List Nd) (T : List Te), gErr M T = 0 → SrtN D → (∀ n ∈ D, ∃ m ∈ M, m.id = n.id) → ∃ M' T', Runs (D.map fun n => (goneO n).c) M T M' T' ∧ gErr M' T' = 0 ∧ (∀ x, x ∈ M' ↔ x ∈ M ∧ ∀ n ∈ D, n.id ≠ x.id) ∧ ∀ t, t ∈ T' ↔ t ∈ T ∧ ∀ n ∈ D, keepT n.id t = true
  | [], M, T, h, _, _ => ⟨M, T, Runs.nil _ _, h, fun x => by simp, fun x => by simp⟩
  | n :: r, M, T, h, hn, hm => by
    obtain ⟨n1, n2⟩ := List.pairwise_cons.1 hn
    have hs := ((gErr_iff M T).1 h).1.2.1
    have hf : fndN n.id M = true := (fnd_iff hs).2 (hm n (List.mem_cons_self ..))
    obtain ⟨g, hg, hgi⟩ := fndN_at hf
    have hx := mem_erase_at hg hs.nodup
    have hx' : ∀ x, x ∈ M.eraseIdx (loN n.id M) ↔ x ∈ M ∧ x.id ≠ n.id := fun x => by
      rw [hx]
      constructor
      · rintro ⟨a, b⟩; exact ⟨a, fun e => b (srtN_uniq hs a (List.mem_of_getElem? hg) (e.trans hgi.symm))⟩
      · rintro ⟨a, b⟩; exact ⟨a, fun e => b (by rw [e]; exact hgi)⟩
    have e0 : opE (goneO n).c M T = 0 := by show opE ⟨2, ⟨n.id, _, _, _⟩, _, _⟩ M T = 0; simp [opE, goneE, hf]
    have e1 : opM (goneO n).c M T = M.eraseIdx (loN n.id M) := by show opM ⟨2, ⟨n.id, _, _, _⟩, _, _⟩ M T = _; simp [opM]
    have e2 : opT (goneO n).c M T = T.filter (keepT n.id) := by show opT ⟨2, ⟨n.id, _, _, _⟩, _, _⟩ M T = _; simp [opT]
    have hk' : gErr (M.eraseIdx (loN n.id M)) (T.filter (keepT n.id)) = 0 := by
      have : gErr (opM (goneO n).c M T) (opT (goneO n).c M T) = 0 := keeps_all (goneO n).c M T h e0
      rwa [e1, e2] at this
    obtain ⟨M', T', r1, r2, r3, r4⟩ := gone_run r (M.eraseIdx (loN n.id M)) (T.filter (keepT n.id)) hk' n2 (fun u hu => by
      obtain ⟨m, m1, m2⟩ := hm u (List.mem_cons_of_mem _ hu)
      exact ⟨m, (hx' m).2 ⟨m1, by have := n1 u hu; omega⟩, m2⟩)
    refine ⟨M', T', Runs.cons e0 (by rw [e1, e2]; exact r1), r2, fun x => ?_, fun t => ?_⟩
    · rw [r3, hx']
      constructor
      · rintro ⟨⟨a, b⟩, c⟩
        refine ⟨a, fun u hu => ?_⟩
        rcases List.mem_cons.1 hu with e | e
        · subst e; exact fun e => b e.symm
        · exact c u e
      · rintro ⟨a, b⟩; exact ⟨⟨a, fun e => b n (List.mem_cons_self ..) e.symm⟩, fun u hu => b u (List.mem_cons_of_mem _ hu)⟩
    · rw [r4, List.mem_filter]
      constructor
      · rintro ⟨⟨a, b⟩, c⟩
        refine ⟨a, fun u hu => ?_⟩
        rcases List.mem_cons.1 hu with e | e
        · subst e; exact b
        · exact c u e
      · rintro ⟨a, b⟩; exact ⟨⟨a, b n (List.mem_cons_self ..)⟩, fun u hu => b u (List.mem_cons_of_mem _ hu)⟩

theorem mem_ins4 {α : Type} {M : List α} {k : Nat} {x y : α} : y ∈ M.take k ++ x :: M.drop k ↔ y ∈ M ∨ y = x := by
  constructor
  · exact mem_ins3
  · rintro (h | rfl)
    · rw [← List.take_append_drop k M] at h
      rcases List.mem_append.1 h with h | h
      · exact List.mem_append_left _ h
      · exact List.mem_append_right _ (List.mem_cons_of_mem _ h)
    · exact List.mem_append_right _ (List.mem_cons_self ..)
theorem ndE_nc (n : Nd) : ndE none n.c = ndE none n := ndE_c none n
theorem gErr_new {n : Nd} (h : ndE none n = 0) : gErr [n] [] = 0 := (gErr_iff _ _).2 ⟨⟨by simp, List.pairwise_singleton _ _, fun x hx => by simp at hx; subst hx; exact h⟩, ⟨by simp, List.Pairwise.nil, fun x hx => by cases hx⟩⟩
theorem gErr_bnd {t : Te} (h : teE none t = 0) : gErr [] [t] = 0 := (gErr_iff _ _).2 ⟨⟨by simp, List.Pairwise.nil, fun x hx => by cases hx⟩, ⟨by simp, List.pairwise_singleton _ _, fun x hx => by simp at hx; subst hx; exact h⟩⟩
/-- New of nodes that are not there. -/
theorem new_run : ∀ (D : List Nd) (M : List Nd) (T : List Te), gErr M T = 0 → SrtN D → (∀ n ∈ D, ndE none n = 0) → (∀ n ∈ D, ∀ m ∈ M, m.id ≠ n.id) → M.length + D.length ≤ 60 → ∃ M', Runs (D.map fun n => (newO n).c) M T M' T ∧ gErr M' T = 0 ∧ ∀ x, x ∈ M' ↔ x ∈ M ∨ ∃ n ∈ D, x = n.c
  | [], M, T, h, _, _, _, _ => ⟨M, Runs.nil _ _, h, fun x => by simp⟩
  | n :: r, M, T, h, hn, ho, hm, hl => by
    obtain ⟨n1, n2⟩ := List.pairwise_cons.1 hn
    have hs := ((gErr_iff M T).1 h).1.2.1
    rw [List.length_cons] at hl
    have hf : fndN n.c.id M = false := by
      cases hh : fndN n.c.id M with
      | false => rfl
      | true =>
        obtain ⟨m, m1, m2⟩ := (fnd_iff hs).1 hh
        exact absurd m2 (hm n (List.mem_cons_self ..) m m1)
    have hg : gErr [n.c] [] = 0 := gErr_new (by rw [ndE_nc]; exact ho n (List.mem_cons_self ..))
    have e0 : opE (newO n).c M T = 0 := by
      show opE ⟨1, n.c, _, _⟩ M T = 0
      simp only [opE, newE, if_true, hg, hf]
      rw [if_neg (by decide), if_neg (by omega)]
    have e1 : opM (newO n).c M T = M.take (loN n.id M) ++ n.c :: M.drop (loN n.id M) := by
      show opM ⟨1, n.c, _, _⟩ M T = _
      simp only [opM, newM, if_true]
      rfl
    have e2 : opT (newO n).c M T = T := by show opT ⟨1, n.c, _, _⟩ M T = _; simp [opT]
    have hk' : gErr (M.take (loN n.id M) ++ n.c :: M.drop (loN n.id M)) T = 0 := by
      have : gErr (opM (newO n).c M T) (opT (newO n).c M T) = 0 := keeps_all (newO n).c M T h e0
      rwa [e1, e2] at this
    obtain ⟨M', r1, r2, r3⟩ := new_run r _ T hk' n2 (fun u hu => ho u (List.mem_cons_of_mem _ hu)) (fun u hu m hm' => by
      rcases mem_ins4.1 hm' with h' | h'
      · exact hm u (List.mem_cons_of_mem _ hu) m h'
      · subst h'; have := n1 u hu; show n.id ≠ u.id; omega) (by rw [ins_len3 _ _ (loN_le _ _)]; omega)
    refine ⟨M', Runs.cons e0 (by rw [e1, e2]; exact r1), r2, fun x => ?_⟩
    rw [r3, mem_ins4]
    constructor
    · rintro ((a | a) | ⟨u, hu, a⟩)
      · exact .inl a
      · exact .inr ⟨n, List.mem_cons_self .., a⟩
      · exact .inr ⟨u, List.mem_cons_of_mem _ hu, a⟩
    · rintro (a | ⟨u, hu, a⟩)
      · exact .inl (.inl a)
      · rcases List.mem_cons.1 hu with e | e
        · subst e; exact .inl (.inr a)
        · exact .inr ⟨u, e, a⟩
/-- Bind of ties that are not there. -/
theorem bind_run : ∀ (D : List Te) (M : List Nd) (T : List Te), gErr M T = 0 → D.Nodup → (∀ t ∈ D, teE none t = 0) → (∀ t ∈ D, t ∉ T) → T.length + D.length ≤ 120 → ∃ T', Runs (D.map fun t => (bindO t).c) M T M T' ∧ gErr M T' = 0 ∧ ∀ x, x ∈ T' ↔ x ∈ T ∨ x ∈ D
  | [], M, T, h, _, _, _, _ => ⟨T, Runs.nil _ _, h, fun x => by simp⟩
  | t :: r, M, T, h, hn, ho, hm, hl => by
    obtain ⟨n1, n2⟩ := List.nodup_cons.1 hn
    have hs := ((gErr_iff M T).1 h).2.2.1
    rw [List.length_cons] at hl
    have hf : fndT t T = false := by
      cases hh : fndT t T with
      | false => rfl
      | true => exact absurd ((fndT_iff hs).1 hh) (hm t (List.mem_cons_self ..))
    have hg : gErr [] [t] = 0 := gErr_bnd (ho t (List.mem_cons_self ..))
    have e0 : opE (bindO t).c M T = 0 := by
      show opE ⟨5, _, _, t⟩ M T = 0
      simp [opE, bindE, hg, hf]
      omega
    have e1 : opM (bindO t).c M T = M := by show opM ⟨5, _, _, t⟩ M T = _; simp [opM]
    have e2 : opT (bindO t).c M T = bindT t T := by show opT ⟨5, _, _, t⟩ M T = _; simp [opT]
    have hk' : gErr M (bindT t T) = 0 := by
      have : gErr (opM (bindO t).c M T) (opT (bindO t).c M T) = 0 := keeps_all (bindO t).c M T h e0
      rwa [e1, e2] at this
    have hx : ∀ x, x ∈ bindT t T ↔ x ∈ T ∨ x = t := fun x => mem_ins4
    obtain ⟨T', r1, r2, r3⟩ := bind_run r M _ hk' n2 (fun u hu => ho u (List.mem_cons_of_mem _ hu)) (fun u hu hu' => by
      rcases (hx u).1 hu' with h' | h'
      · exact hm u (List.mem_cons_of_mem _ hu) h'
      · subst h'; exact n1 hu) (by unfold bindT; rw [ins_len3 _ _ (loT_le _ _)]; omega)
    refine ⟨T', Runs.cons e0 (by rw [e1, e2]; exact r1), r2, fun x => ?_⟩
    rw [r3, hx, List.mem_cons]
    constructor
    · rintro ((a | a) | a)
      · exact .inl a
      · exact .inr (.inl a)
      · exact .inr (.inr a)
    · rintro (a | a | a)
      · exact .inl (.inl a)
      · exact .inl (.inr a)
      · exact .inr a
end Go.Proofs.Ytidmfdbckpficaa
