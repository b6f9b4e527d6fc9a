/-
  The faults behind ops: where the graph ahead of them conforms, a fault of a node that is not touched is that of a key that another one has.
-/
import Derived.Test.YtffiddpnkiejkaaGreatM36
import Derived.Test.YtffiddpnkiejkaaGreatM03
namespace Go.Proofs.YtffiddpnkiejkaaGreat
set_option linter.unusedVariables false
set_option linter.unusedSimpArgs false

/-! ### Which faults there may be -/
theorem prop_in {fs : List Fd} {id : Int} {f : Ft} : ∀ (rc : List Pr) (l : List Ft), f ∈ rc.foldl (propS fs id) l → f ∈ l ∨ (f.id = id ∧ ∃ p ∈ rc, ¬ fits fs p = true)
  | [], l, h => .inl h
  | p :: r, l, h => by
    rcases prop_in r _ h with h | ⟨h1, q, hq, h2⟩
    · unfold propS at h
      by_cases hf : fits fs p = true
      · rw [if_pos hf] at h; exact .inl h
      · rw [if_neg hf] at h
        rcases List.mem_append.1 h with h | h
        · exact .inl h
        · refine .inr ⟨?_, p, List.mem_cons_self .., hf⟩
          rw [List.mem_singleton.1 h]
    · exact .inr ⟨h1, q, List.mem_cons_of_mem _ hq, h2⟩
theorem field_in {id : Int} {rc : List Pr} {f : Ft} : ∀ (fs : List Fd) (S : List Ft × Tk), f ∈ (fs.foldl (fieldS id rc) S).1 → f ∈ S.1 ∨ (f.id = id ∧ (f.wh = 4 ∨ ∃ g ∈ fs, noF rc g = true))
  | [], S, h => .inl h
  | g :: r, S, h => by
    rcases field_in r _ h with h | ⟨h1, h2 | ⟨q, hq, h2⟩⟩
    · unfold fieldS at h
      by_cases hn : noF rc g = true
      · rw [if_pos hn] at h
        rcases List.mem_append.1 h with h | h
        · exact .inl h
        · exact .inr ⟨by rw [List.mem_singleton.1 h], .inr ⟨g, List.mem_cons_self .., hn⟩⟩
      · rw [if_neg hn] at h
        by_cases hm : sameF rc S.2 g = true
        · rw [if_pos hm] at h
          rcases List.mem_append.1 h with h | h
          · exact .inl h
          · exact .inr ⟨by rw [List.mem_singleton.1 h], .inl (by rw [List.mem_singleton.1 h])⟩
        · rw [if_neg hm] at h
          by_cases hk : g.key = true
          · rw [if_pos hk] at h; exact .inl h
          · rw [if_neg hk] at h; exact .inl h
    · exact .inr ⟨h1, .inl h2⟩
    · exact .inr ⟨h1, .inr ⟨q, List.mem_cons_of_mem _ hq, h2⟩⟩
/-- Too few or too many. -/
def bndB (id : Int) (O : Ou) (x : Bd) : Prop := cnt O id x < x.mn ∨ (decide (0 ≤ x.mx) && decide (x.mx < cnt O id x)) = true
theorem bond_in {id : Int} {O : Ou} {f : Ft} : ∀ (bn : List Bd) (l : List Ft), f ∈ bn.foldl (bondS id O) l → f ∈ l ∨ (f.id = id ∧ ∃ x ∈ bn, bndB id O x)
  | [], l, h => .inl h
  | x :: r, l, h => by
    rcases bond_in r _ h with h | ⟨h1, q, hq, h2⟩
    · unfold bondS at h
      by_cases ha : cnt O id x < x.mn
      · rw [if_pos ha] at h
        rcases List.mem_append.1 h with h | h
        · exact .inl h
        · exact .inr ⟨by rw [List.mem_singleton.1 h], x, List.mem_cons_self .., .inl ha⟩
      · rw [if_neg ha] at h
        by_cases hb : (decide (0 ≤ x.mx) && decide (x.mx < cnt O id x)) = true
        · rw [if_pos hb] at h
          rcases List.mem_append.1 h with h | h
          · exact .inl h
          · exact .inr ⟨by rw [List.mem_singleton.1 h], x, List.mem_cons_self .., .inr hb⟩
        · rw [if_neg hb] at h; exact .inl h
    · exact .inr ⟨h1, q, List.mem_cons_of_mem _ hq, h2⟩
theorem node_in {H : ByteArray → Option Sh} {O : Ou} {f : Ft} : ∀ (N : List Nd) (S : List Ft × Tk), f ∈ (N.foldl (nodeS H O) S).1 → f ∈ S.1 ∨ ∃ n ∈ N, (∃ T, f ∈ (ownF (H n.kd) n T).1) ∨ f ∈ bondF ((H n.kd).getD sh0).bn n.id O
  | [], S, h => .inl h
  | n :: r, S, h => by
    rcases node_in r _ h with h | ⟨q, hq, h2⟩
    · have h' : f ∈ S.1 ++ (ownF (H n.kd) n S.2).1 ++ bondF ((H n.kd).getD sh0).bn n.id O := h
      rcases List.mem_append.1 h' with h | h
      · rcases List.mem_append.1 h with h | h
        · exact .inl h
        · exact .inr ⟨n, List.mem_cons_self .., .inl ⟨_, h⟩⟩
      · exact .inr ⟨n, List.mem_cons_self .., .inr h⟩
    · exact .inr ⟨q, List.mem_cons_of_mem _ hq, h2⟩
/-- A tie has a fault. -/
def tieB (X : ByteArray → Option Bd) (E : En) (t : Te) : Prop := match X t.bd with
  | none => True
  | some x => badE E t x = true
theorem tie_in {X : ByteArray → Option Bd} {E : En} {f : Ft} : ∀ (T : List Te) (l : List Ft), f ∈ T.foldl (tieS X E) l → f ∈ l ∨ ∃ t ∈ T, f.id = t.fr ∧ tieB X E t
  | [], l, h => .inl h
  | t :: r, l, h => by
    rcases tie_in r _ h with h | ⟨q, hq, h1, h2⟩
    · unfold tieS at h
      cases hx : X t.bd with
      | none =>
        rw [hx] at h
        rcases List.mem_append.1 h with h | h
        · exact .inl h
        · exact .inr ⟨t, List.mem_cons_self .., by rw [List.mem_singleton.1 h], by unfold tieB; rw [hx]; trivial⟩
      | some x =>
        rw [hx] at h
        have h' : f ∈ if badE E t x = true then l ++ [⟨6, t.fr, t.bd⟩] else l := h
        by_cases hb : badE E t x = true
        · rw [if_pos hb] at h'
          rcases List.mem_append.1 h' with h | h
          · exact .inl h
          · exact .inr ⟨t, List.mem_cons_self .., by rw [List.mem_singleton.1 h], by unfold tieB; rw [hx]; exact hb⟩
        · rw [if_neg hb] at h'; exact .inl h'
    · exact .inr ⟨q, List.mem_cons_of_mem _ hq, h1, h2⟩

/-! ### What conforms has none of them -/
theorem prop_mo {fs : List Fd} {id : Int} {f : Ft} : ∀ (rc : List Pr) (l : List Ft), f ∈ l → f ∈ rc.foldl (propS fs id) l
  | [], l, h => h
  | p :: r, l, h => prop_mo r _ (by unfold propS; split <;> simp [h])
theorem prop_no {fs : List Fd} {id : Int} : ∀ (rc : List Pr) (l : List Ft), rc.foldl (propS fs id) l = [] → ∀ p ∈ rc, fits fs p = true
  | p :: r, l, h, q, hq => by
    rcases List.mem_cons.1 hq with rfl | hq
    · by_cases hf : fits fs q = true
      · exact hf
      · have := prop_mo (fs := fs) (id := id) (f := ⟨2, id, q.nm⟩) r (propS fs id l q) (by unfold propS; rw [if_neg hf]; simp)
        rw [show r.foldl (propS fs id) (propS fs id l q) = [] from h] at this
        cases this
    · exact prop_no r _ h q hq
theorem field_mo {id : Int} {rc : List Pr} {f : Ft} : ∀ (fs : List Fd) (S : List Ft × Tk), f ∈ S.1 → f ∈ (fs.foldl (fieldS id rc) S).1
  | [], S, h => h
  | g :: r, S, h => field_mo r _ (by unfold fieldS; split <;> (try split) <;> (try split) <;> simp [h])
theorem field_no {id : Int} {rc : List Pr} : ∀ (fs : List Fd) (S : List Ft × Tk), (fs.foldl (fieldS id rc) S).1 = [] → ∀ g ∈ fs, ¬ noF rc g = true
  | g :: r, S, h, q, hq => by
    rcases List.mem_cons.1 hq with rfl | hq
    · intro hn
      have := field_mo (id := id) (rc := rc) (f := ⟨3, id, bs q.nm⟩) r (fieldS id rc S q) (by unfold fieldS; rw [if_pos hn]; simp)
      rw [show (r.foldl (fieldS id rc) (fieldS id rc S q)).1 = [] from h] at this
      cases this
    · exact field_no r _ h q hq
theorem bond_mo {id : Int} {O : Ou} {f : Ft} : ∀ (bn : List Bd) (l : List Ft), f ∈ l → f ∈ bn.foldl (bondS id O) l
  | [], l, h => h
  | x :: r, l, h => bond_mo r _ (by unfold bondS; split <;> (try split) <;> simp [h])
theorem bond_no {id : Int} {O : Ou} : ∀ (bn : List Bd) (l : List Ft), bn.foldl (bondS id O) l = [] → ∀ x ∈ bn, ¬ bndB id O x
  | x :: r, l, h, q, hq => by
    rcases List.mem_cons.1 hq with rfl | hq
    · intro hb
      have : ∃ f, f ∈ bondS id O l q := by
        unfold bondS
        by_cases ha : cnt O id q < q.mn
        · rw [if_pos ha]; exact ⟨_, List.mem_append.2 (.inr (List.mem_singleton.2 rfl))⟩
        · rw [if_neg ha, if_pos (hb.resolve_left ha)]; exact ⟨_, List.mem_append.2 (.inr (List.mem_singleton.2 rfl))⟩
      obtain ⟨f, hf⟩ := this
      have := bond_mo (id := id) (O := O) r _ hf
      rw [show r.foldl (bondS id O) (bondS id O l q) = [] from h] at this
      cases this
    · exact bond_no r _ h q hq
theorem node_mo {H : ByteArray → Option Sh} {O : Ou} {f : Ft} : ∀ (N : List Nd) (S : List Ft × Tk), f ∈ S.1 → f ∈ (N.foldl (nodeS H O) S).1
  | [], S, h => h
  | n :: r, S, h => node_mo r _ (by unfold nodeS; simp [h])
theorem node_no {H : ByteArray → Option Sh} {O : Ou} : ∀ (N : List Nd) (S : List Ft × Tk), (N.foldl (nodeS H O) S).1 = [] → ∀ n ∈ N, ∃ T, (ownF (H n.kd) n T).1 = [] ∧ bondF ((H n.kd).getD sh0).bn n.id O = []
  | n :: r, S, h, q, hq => by
    rcases List.mem_cons.1 hq with rfl | hq
    · have key : ∀ f, f ∉ (nodeS H O S q).1 := fun f hf => by
        have := node_mo (H := H) (O := O) r _ hf
        rw [show (r.foldl (nodeS H O) (nodeS H O S q)).1 = [] from h] at this
        cases this
      have e : (nodeS H O S q).1 = [] := List.eq_nil_iff_forall_not_mem.2 key
      have e' : S.1 ++ (ownF (H q.kd) q S.2).1 ++ bondF ((H q.kd).getD sh0).bn q.id O = [] := e
      obtain ⟨e1, e2⟩ := List.append_eq_nil_iff.1 e'
      exact ⟨_, (List.append_eq_nil_iff.1 e1).2, e2⟩
    · exact node_no r _ h q hq
theorem tie_mo {X : ByteArray → Option Bd} {E : En} {f : Ft} : ∀ (T : List Te) (l : List Ft), f ∈ l → f ∈ T.foldl (tieS X E) l
  | [], l, h => h
  | t :: r, l, h => tie_mo r _ (by unfold tieS; split <;> (try split) <;> simp [h])
theorem tie_no {X : ByteArray → Option Bd} {E : En} : ∀ (T : List Te) (l : List Ft), T.foldl (tieS X E) l = [] → ∀ t ∈ T, ¬ tieB X E t
  | t :: r, l, h, q, hq => by
    rcases List.mem_cons.1 hq with rfl | hq
    · intro hb
      have : ∃ f, f ∈ tieS X E l q := by
        unfold tieB at hb
        unfold tieS
        cases hx : X q.bd with
        | none => exact ⟨_, List.mem_append.2 (.inr (List.mem_singleton.2 rfl))⟩
        | some x =>
          rw [hx] at hb
          have hb' : badE E q x = true := hb
          show ∃ f, f ∈ if badE E q x = true then l ++ [⟨6, q.fr, q.bd⟩] else l
          rw [if_pos hb']
          exact ⟨_, List.mem_append.2 (.inr (List.mem_singleton.2 rfl))⟩
      obtain ⟨f, hf⟩ := this
      have := tie_mo (X := X) (E := E) r _ hf
      rw [show r.foldl (tieS X E) (tieS X E l q) = [] from h] at this
      cases this
    · exact tie_no r _ h q hq

/-! ### Counts and ends -/
theorem out_cnt (k : EndV) : ∀ (T : List Te) (O : Ou), ((T.foldl outS O) k).getD 0 = (O k).getD 0 + ((T.filter fun t => decide ((t.bd, t.fr) = k)).length : Int)
  | [], O => by simp
  | t :: r, O => by
    have := out_cnt k r (outS O t)
    rw [List.foldl_cons, this]
    unfold outS upd
    by_cases e : (t.bd, t.fr) = k
    · rw [if_pos e.symm, List.filter_cons_of_pos (by simpa using e), e]
      simp
      omega
    · rw [if_neg (fun q => e q.symm), List.filter_cons_of_neg (by simpa using e)]
theorem cnt_eq {T U : List Te} {id : Int} (hT : SrtT T) (hU : SrtT U) (h : ∀ t : Te, t.fr = id → (t ∈ U ↔ t ∈ T)) (x : Bd) : cnt (outO U) id x = cnt (outO T) id x := by
  have e : (U.filter fun t => decide ((t.bd, t.fr) = (bs x.nm, id))) = T.filter fun t => decide ((t.bd, t.fr) = (bs x.nm, id)) := by
    refine srtT_ext (List.Pairwise.filter _ hU) (List.Pairwise.filter _ hT) fun t => ?_
    rw [List.mem_filter, List.mem_filter]
    refine ⟨fun ⟨a, b⟩ => ⟨(h t ?_).1 a, b⟩, fun ⟨a, b⟩ => ⟨(h t ?_).2 a, b⟩⟩
    · exact (Prod.mk.inj (of_decide_eq_true b)).2
    · exact (Prod.mk.inj (of_decide_eq_true b)).2
  unfold cnt outO
  rw [out_cnt, out_cnt, e]
theorem end_off (H : ByteArray → Option Sh) (id : Int) : ∀ (N : List Nd) (E : En), (∀ n ∈ N, n.id ≠ id) → (N.foldl (endS H) E) id = E id
  | [], E, _ => rfl
  | n :: r, E, h => by
    rw [List.foldl_cons, end_off H id r _ (fun x hx => h x (List.mem_cons_of_mem _ hx))]
    unfold endS upd
    rw [if_neg (fun q => h n (List.mem_cons_self ..) q.symm)]
theorem end_on (H : ByteArray → Option Sh) : ∀ (N : List Nd) (E : En), SrtN N → ∀ n ∈ N, (N.foldl (endS H) E) n.id = some ((H n.kd).getD sh0)
  | n :: r, E, hs, q, hq => by
    obtain ⟨h1, h2⟩ := List.pairwise_cons.1 hs
    rcases List.mem_cons.1 hq with rfl | hq
    · rw [List.foldl_cons, end_off H q.id r _ (fun x hx => by have := h1 x hx; omega)]
      unfold endS upd
      rw [if_pos rfl]
    · exact end_on H r _ h2 q hq
theorem hasN_no (x : Nm) : hasN sh0.kn x = false := rfl

/-- Behind ops on a graph that conforms, a fault of a node that is not touched is a key that another one has. -/
theorem near_faults {L : List Kd} {B : List Bd} {M0 M : List Nd} {T U : List Te} {X G : List Int} (h0 : allF L B M0 T = []) (hu : Un T X G M0 M U) (s0 : SrtN M0) (s1 : SrtN M) (t0 : SrtT T) (t1 : SrtT U)
    (hX : ∀ t ∈ T, t.tt ∈ G → t.fr ∈ X) : ∀ f ∈ allF L B M U, f.id ∈ X ∨ f.wh = 4 := by
  obtain ⟨n0, e0⟩ := List.append_eq_nil_iff.1 (show nodeF (shO L B L) (outO T) M0 ++ tieF (bdO B) (endO (shO L B L) M0) T = [] from h0)
  intro f hf
  rcases List.mem_append.1 (show f ∈ nodeF (shO L B L) (outO U) M ++ tieF (bdO B) (endO (shO L B L) M) U from hf) with hf | hf
  · rcases node_in M _ hf with hf | ⟨n, hn, hf⟩
    · cases hf
    · by_cases hi : n.id ∈ X
      · left
        rcases hf with ⟨T', hf⟩ | hf
        · unfold ownF at hf
          cases hh : shO L B L n.kd with
          | none => rw [hh] at hf; rw [List.mem_singleton.1 hf]; exact hi
          | some s =>
            rw [hh] at hf
            rcases List.mem_append.1 hf with hf | hf
            · rcases prop_in _ _ hf with hf | ⟨e, _⟩
              · cases hf
              · rw [e]; exact hi
            · rcases field_in _ _ hf with hf | ⟨e, _⟩
              · cases hf
              · rw [e]; exact hi
        · rcases bond_in _ _ hf with hf | ⟨e, _⟩
          · cases hf
          · rw [e]; exact hi
      · right
        have hm : n ∈ M0 := (hu.nd n hi).1 hn
        obtain ⟨T2, o1, o2⟩ := node_no M0 _ n0 n hm
        rcases hf with ⟨T', hf⟩ | hf
        · unfold ownF at hf o1
          cases hh : shO L B L n.kd with
          | none => rw [hh] at o1; cases o1
          | some s =>
            rw [hh] at hf o1
            obtain ⟨p1, p2⟩ := List.append_eq_nil_iff.1 o1
            rcases List.mem_append.1 hf with hf | hf
            · rcases prop_in _ _ hf with hf | ⟨_, p, hp, hb⟩
              · cases hf
              · exact absurd (prop_no _ _ p1 p hp) hb
            · rcases field_in _ _ hf with hf | ⟨_, h4 | ⟨g, hg, hb⟩⟩
              · cases hf
              · exact h4
              · exact absurd hb (field_no _ _ p2 g hg)
        · rcases bond_in _ _ hf with hf | ⟨_, x, hx, hb⟩
          · cases hf
          · refine absurd ?_ (bond_no _ _ o2 x hx)
            have ec := cnt_eq (id := n.id) t0 t1 (fun t ht => hu.te t (.inl (by rw [ht]; exact hi))) x
            unfold bndB at hb ⊢
            rw [ec] at hb
            exact hb
  · left
    rcases tie_in U _ hf with hf | ⟨t, ht, hfi, hb⟩
    · cases hf
    · rw [hfi]
      refine Classical.byContradiction fun hi => ?_
      have hm : t ∈ T := (hu.te t (.inl hi)).1 ht
      have hnb := tie_no T _ e0 t hm
      unfold tieB at hb hnb
      cases hx : bdO B t.bd with
      | none => rw [hx] at hnb; exact hnb trivial
      | some x =>
        rw [hx] at hb hnb
        have hb1 : badE (endO (shO L B L) M) t x = true := hb
        have hb0 : ¬ badE (endO (shO L B L) M0) t x = true := hnb
        unfold badE at hb1 hb0
        have f0 : ∃ n ∈ M0, n.id = t.fr := Classical.byContradiction fun q => hb0 (by
          have : endO (shO L B L) M0 t.fr = none := end_off _ _ _ _ (fun n hn e => q ⟨n, hn, e⟩)
          rw [this]; simp [hasN_no])
        have f1 : ∃ n ∈ M0, n.id = t.tt := Classical.byContradiction fun q => hb0 (by
          have : endO (shO L B L) M0 t.tt = none := end_off _ _ _ _ (fun n hn e => q ⟨n, hn, e⟩)
          rw [this]; simp [hasN_no])
        obtain ⟨n, hn, en⟩ := f0
        obtain ⟨m, hm2, em⟩ := f1
        have a0 : endO (shO L B L) M0 t.fr = some ((shO L B L n.kd).getD sh0) := by rw [← en]; exact end_on _ _ _ s0 n hn
        have a1 : endO (shO L B L) M t.fr = some ((shO L B L n.kd).getD sh0) := by rw [← en]; exact end_on _ _ _ s1 n ((hu.nd n (by rw [en]; exact hi)).2 hn)
        obtain ⟨y, hy, y1, y2⟩ := hu.kd m hm2 (fun q => hi (hX t hm (by rw [← em]; exact q)))
        have c0 : endO (shO L B L) M0 t.tt = some ((shO L B L m.kd).getD sh0) := by rw [← em]; exact end_on _ _ _ s0 m hm2
        have c1 : endO (shO L B L) M t.tt = some ((shO L B L m.kd).getD sh0) := by rw [← em, ← y1, ← y2]; exact end_on _ _ _ s1 y hy
        rw [a1, c1] at hb1
        rw [a0, c0] at hb0
        exact hb0 hb1

theorem un_self (T : List Te) (M : List Nd) : Un T [] [] M M T := ⟨fun _ _ => Iff.rfl, fun _ _ => Iff.rfl, fun x hx _ => ⟨x, hx, rfl, rfl⟩⟩
/-- The whole of it: what stands behind ops. -/
theorem near_all {N : List Nd} {T : List Te} {O : List Opx} (h : AllOk N T O) : Un T (touA T O) (gonA O) (cN N) (resN N T O) (resT N T O) ∧ gErr (resN N T O) (resT N T O) = 0 := by
  have hg : gErr (cN N) T = 0 := by
    obtain ⟨_, h1, _⟩ := h
    rw [gErr_c]; exact h1
  have := un_all O [] [] (cN N) T hg h.2.2 (un_self T (cN N))
  rw [List.nil_append, List.nil_append] at this
  exact this
theorem near_faulty {L : List Kd} {B : List Bd} {N : List Nd} {T : List Te} {O : List Opx} (h : AllOk N T O) (h0 : allF L B N T = []) : ∀ f ∈ allF L B (resN N T O) (resT N T O), f.id ∈ touA T O ∨ f.wh = 4 := by
  obtain ⟨hu, hg⟩ := near_all h
  obtain ⟨⟨_, s1, _⟩, ⟨_, t1, _⟩⟩ := (gErr_iff _ _).1 hg
  obtain ⟨⟨_, s0, _⟩, ⟨_, t0, _⟩⟩ := (gErr_iff _ _).1 h.2.1
  refine near_faults (M0 := cN N) (by rw [allF_c]; exact h0) hu ?_ s1 t0 t1 (fun t ht hg => gon_tou ht hg)
  unfold cN SrtN
  rw [List.pairwise_map]
  exact s0
end Go.Proofs.YtffiddpnkiejkaaGreat

/-
  The walk of guard.Check where it tells an error; the walk of guard.May.
-/
namespace Go.Proofs.YtffiddpnkiejkaaGreat
open Go.RowKit
set_option linter.unusedVariables false
set_option linter.unusedSimpArgs false

set_option maxHeartbeats 8000000 in
set_option maxRecDepth 100000 in
theorem gdcheck_no {vs vg vl : Value} {L : List Kd} {B : List Bd} {N : List Nd} {T : List Te} {O : List Opx} {w : World} (hs : IsSc w vs L B) (hg : IsG w vg N T) (hl : IsO w vl O) (zl : ∀ o ∈ O, OpSz o) (lO : O.length ≤ maxLen) (h : ¬ CkOk L B N T O) :
    Calls Tryz.prog 12 #[vs, vg, vl] w fun e w' => ∃ z, z ≠ 0 ∧ e = .returned (.tuple #[.slice none 0 0, .iface 74 (.int .i64 z)]) ∧ Below w.heap.size w w' := by
  obtain ⟨vk, vb, rfl, hK, hP, hz, hb, hzb⟩ := hs
  obtain ⟨vn, vt, rfl, hN, hT, zN, zT, lN, lT⟩ := hg
  obtain ⟨ak, ck, rfl, hl1⟩ := hK.sln
  obtain ⟨ab, cb, rfl, hl2⟩ := hb.sln
  have HN : Hid (IsN w vn N ∧ IsT w vt T ∧ IsO w vl O) := ⟨hN, hT, hl⟩
  obtain ⟨an, cn, rfl, _⟩ := hN
  obtain ⟨at', ct, rfl, _⟩ := hT
  obtain ⟨ao, co, rfl, _⟩ := hl
  obtain ⟨W0, hW0⟩ : ∃ W0, W0 = box2 w #[.slice ak L.length ck, .slice ab B.length cb] 25 #[.slice an N.length cn, .slice at' T.length ct] 29 := ⟨_, rfl⟩
  have HB0 : Hid (Below w.heap.size w W0) := by rw [hW0]; exact box2_below _ _ _ _ _
  have x0 : W0.cell? ⟨w.heap.size, 0, none⟩ = some (.slice ak L.length ck) := by rw [hW0]; exact box2_a _ _ _ _ _ rfl
  have x1 : W0.cell? ⟨w.heap.size, 1, none⟩ = some (.slice ab B.length cb) := by rw [hW0]; exact box2_a _ _ _ _ _ rfl
  have x2 : W0.cell? ⟨w.heap.size + 1, 0, none⟩ = some (.slice an N.length cn) := by rw [hW0]; exact box2_b _ _ _ _ _ rfl
  have x3 : W0.cell? ⟨w.heap.size + 1, 1, none⟩ = some (.slice at' T.length ct) := by rw [hW0]; exact box2_b _ _ _ _ _ rfl
  have hs0 : W0.heap.size = w.heap.size + 2 := by rw [hW0]; exact box2_size _ _ _ _ _
  have cC := conforms_any (L := L) (B := B) (N := N) (T := T) (w := W0) ⟨_, _, rfl, hK.on HB0.out, hP.on HB0.out, hz, hb.on HB0.out, hzb⟩ ⟨_, _, rfl, HN.out.1.on HB0.out, HN.out.2.1.on HB0.out, zN, zT, lN, lT⟩
  have HC : Hid (∀ W, Below W0.heap.size W0 W → Below w.heap.size w W ∧ W.cell? ⟨w.heap.size + 1, 0, none⟩ = some (.slice an N.length cn) ∧ W.cell? ⟨w.heap.size + 1, 1, none⟩ = some (.slice at' T.length ct)) := fun W hB =>
    ⟨on1K HB0.out hB (Nat.le_refl _), (hB.cell (p := ⟨w.heap.size + 1, 0, none⟩) (by show w.heap.size + 1 < _; omega)).trans x2, (hB.cell (p := ⟨w.heap.size + 1, 1, none⟩) (by show w.heap.size + 1 < _; omega)).trans x3⟩
  by_cases h1 : inE L B N T = 0
  · rw [h1, errV_0] at cC
    by_cases h2 : confB L B N T = true
    · have h3 : ¬ AllOk N T O := fun h3 => h ⟨h1, h2, h3⟩
      rw [h2] at cC
      have HA : Hid (∀ W, Below w.heap.size w W → Calls Tryz.prog 6 #[.agg #[.slice an N.length cn, .slice at' T.length ct], .slice ao O.length co] W fun e w' => ∃ k z, z ≠ 0 ∧ e = noG k z ∧ Below W.heap.size W w') := fun W hB => all_no (HN.out.1.on hB) (HN.out.2.1.on hB) zN zT lN lT (HN.out.2.2.on hB) zl lO h3
      clear hK hP hz hb hzb zN zT lN lT hl1 hl2 zl h h1 h2 h3 lO
      go_enter Tryz.func12, Tryz.ntmps12
      go_upto_region 1 with fail
      unfold box2 at hW0
      rw [← hW0]
      clear hW0
      go_wp2_with (first | (go_at_call 16; refine cC.mono ?_; rintro e W1 ⟨rfl, hB1⟩; refine Hid.out ?_))
      refine Lib.hid ?_
      obtain ⟨hbw, y2, y3⟩ := HC.out W1 hB1
      have cA := HA.out W1 hbw
      have H1 := Lib.hid hbw
      clear hbw hB1 cC x0 x1 x2 x3
      unfold noG at cA
      go_wp2_with (first | (go_at_call 6; refine cA.mono ?_; rintro e W2 ⟨k, z, hz, rfl, hB2⟩; have HZ := Lib.hid hz; clear hz))
      go_ret2
      exact ⟨z, HZ.out, rfl, b_alloc (on1K H1.out hB2 (Nat.le_refl _)) _⟩
    · have h2' : confB L B N T = false := by simpa using h2
      rw [h2'] at cC
      clear hK hP hz hb hzb zN zT lN lT hl1 hl2 zl h h1 h2 h2' lO
      go_enter Tryz.func12, Tryz.ntmps12
      go_upto_region 1 with fail
      unfold box2 at hW0
      rw [← hW0]
      clear hW0
      go_wp2_with (first | (go_at_call 16; refine cC.mono ?_; rintro e W1 ⟨rfl, hB1⟩))
      go_ret2
      exact ⟨6, by decide, rfl, (HC.out W1 hB1).1⟩
  · rw [errV_ne h1] at cC
    obtain ⟨z, hz0⟩ : ∃ z, z = inE L B N T := ⟨_, rfl⟩
    rw [← hz0] at cC h1
    have HZ := Lib.hid h1
    generalize confB L B N T = cf at cC
    clear hK hP hz hb hzb zN zT lN lT hl1 hl2 zl h lO hz0 h1
    go_enter Tryz.func12, Tryz.ntmps12
    go_upto_region 1 with fail
    unfold box2 at hW0
    rw [← hW0]
    clear hW0
    go_wp2_with (first | (go_at_call 16; refine cC.mono ?_; rintro e W1 ⟨rfl, hB1⟩))
    go_ret2
    exact ⟨z, HZ.out, rfl, (HC.out W1 hB1).1⟩

/-- May they be done? -/
def mayB (L : List Kd) (B : List Bd) (N : List Nd) (T : List Te) (O : List Opx) : Bool := decide ((allF L B (resN N T O) (resT N T O)).length = 0)
theorem isSc_sl {w : World} {v : Value} {L : List Kd} {B : List Bd} (h : IsSc w v L B) : ∃ a n c b m d, v = .agg #[.slice a n c, .slice b m d] := by
  obtain ⟨vk, vb, rfl, hK, _, _, hb, _⟩ := h
  obtain ⟨ak, ck, rfl, _⟩ := hK.sln
  obtain ⟨ab, cb, rfl, _⟩ := hb.sln
  exact ⟨_, _, _, _, _, _, rfl⟩
theorem isG_sl {w : World} {v : Value} {N : List Nd} {T : List Te} (h : IsG w v N T) : ∃ a n c b m d, v = .agg #[.slice a n c, .slice b m d] := by
  obtain ⟨vn, vt, rfl, ⟨an, cn, rfl, _⟩, ⟨am, cm, rfl, _⟩, _⟩ := h
  exact ⟨_, _, _, _, _, _, rfl⟩
theorem isO_sl {w : World} {v : Value} {O : List Opx} (h : IsO w v O) : ∃ a n c, v = .slice a n c := by
  obtain ⟨ao, co, rfl, _⟩ := h
  exact ⟨_, _, _, rfl⟩
set_option maxHeartbeats 8000000 in
set_option maxRecDepth 100000 in
theorem may_yes {vs vg vl : Value} {L : List Kd} {B : List Bd} {N : List Nd} {T : List Te} {O : List Opx} {w : World} (hs : IsSc w vs L B) (hg : IsG w vg N T) (hl : IsO w vl O) (zl : ∀ o ∈ O, OpSz o) (h : CkOk L B N T O) :
    Calls Tryz.prog 13 #[vs, vg, vl] w fun e w' => e = .returned (.tuple #[.bool (mayB L B N T O), .nilIface]) ∧ Below w.heap.size w w' := by
  obtain ⟨a1, n1, c1, b1, m1, d1, rfl⟩ := isSc_sl hs
  obtain ⟨a2, n2, c2, b2, m2, d2, rfl⟩ := isG_sl hg
  obtain ⟨a3, n3, c3, rfl⟩ := isO_sl hl
  have HB0 : Hid (Below w.heap.size w (box2 w #[.slice a1 n1 c1, .slice b1 m1 d1] 25 #[.slice a2 n2 c2, .slice b2 m2 d2] 29)) := box2_below _ _ _ _ _
  have c : Calls Tryz.prog 12 #[.agg #[.slice a1 n1 c1, .slice b1 m1 d1], .agg #[.slice a2 n2 c2, .slice b2 m2 d2], .slice a3 n3 c3] (box2 w #[.slice a1 n1 c1, .slice b1 m1 d1] 25 #[.slice a2 n2 c2, .slice b2 m2 d2] 29) fun e w' => ∃ ao cp, e = .returned (.tuple #[.slice ao (allF L B (resN N T O) (resT N T O)).length cp, .nilIface]) ∧ Below (box2 w #[.slice a1 n1 c1, .slice b1 m1 d1] 25 #[.slice a2 n2 c2, .slice b2 m2 d2] 29).heap.size (box2 w #[.slice a1 n1 c1, .slice b1 m1 d1] 25 #[.slice a2 n2 c2, .slice b2 m2 d2] 29) w' := by
    refine (gdcheck_yes (hs.on HB0.out) (hg.on HB0.out) (hl.on HB0.out) zl h).mono ?_
    rintro e w' ⟨u, rfl, ho, hB⟩
    obtain ⟨ao, cp, rfl⟩ := own_sliceC ho
    exact ⟨ao, cp, rfl, hB⟩
  have HE : Hid (mayB L B N T O = (((allF L B (resN N T O) (resT N T O)).length : Int) == 0)) := by
    show _ = _
    unfold mayB
    by_cases h : (allF L B (resN N T O) (resT N T O)).length = 0
    · rw [h]; rfl
    · have h' : ¬ ((allF L B (resN N T O) (resT N T O)).length : Int) = 0 := by omega
      simp [h, h']
  generalize (allF L B (resN N T O) (resT N T O)).length = m at c HE
  clear hs hg hl zl h
  go_enter Tryz.func13, Tryz.ntmps13
  go_wp2_with (go_at_call 12; refine c.mono ?_; rintro e W1 ⟨ao, cp, rfl, hB1⟩)
  go_ret2
  exact ⟨ret_v (by rw [HE.out]; rfl), on1K HB0.out hB1 (Nat.le_refl _)⟩
set_option maxHeartbeats 8000000 in
set_option maxRecDepth 100000 in
theorem may_no {vs vg vl : Value} {L : List Kd} {B : List Bd} {N : List Nd} {T : List Te} {O : List Opx} {w : World} (hs : IsSc w vs L B) (hg : IsG w vg N T) (hl : IsO w vl O) (zl : ∀ o ∈ O, OpSz o) (lO : O.length ≤ maxLen) (h : ¬ CkOk L B N T O) :
    Calls Tryz.prog 13 #[vs, vg, vl] w fun e w' => ∃ z, z ≠ 0 ∧ e = .returned (.tuple #[.bool false, .iface 74 (.int .i64 z)]) ∧ Below w.heap.size w w' := by
  obtain ⟨a1, n1, c1, b1, m1, d1, rfl⟩ := isSc_sl hs
  obtain ⟨a2, n2, c2, b2, m2, d2, rfl⟩ := isG_sl hg
  obtain ⟨a3, n3, c3, rfl⟩ := isO_sl hl
  have HB0 : Hid (Below w.heap.size w (box2 w #[.slice a1 n1 c1, .slice b1 m1 d1] 25 #[.slice a2 n2 c2, .slice b2 m2 d2] 29)) := box2_below _ _ _ _ _
  have c := gdcheck_no (hs.on HB0.out) (hg.on HB0.out) (hl.on HB0.out) zl lO h
  clear hs hg hl zl h
  go_enter Tryz.func13, Tryz.ntmps13
  go_wp2_with (go_at_call 12; refine c.mono ?_; rintro e W1 ⟨z, hz, rfl, hB1⟩; have HZ := Lib.hid hz; clear hz)
  go_ret2
  exact ⟨z, HZ.out, rfl, on1K HB0.out hB1 (Nat.le_refl _)⟩
end Go.Proofs.YtffiddpnkiejkaaGreat

/-
  The walks of find and of what it calls, and of kinref2.In.
-/
namespace Go.Proofs.YtffiddpnkiejkaaGreat
open Go.RowKit
set_option linter.unusedVariables false
set_option linter.unusedSimpArgs false

/-- Where the node of an id stands. -/
def idxN (id : Int) : List Nd → Nat → Int
  | [], _ => -1
  | n :: r, k => if n.id = id then (k : Int) else idxN id r (k + 1)
/-- Is there such a node? -/
def hasId (N : List Nd) (id : Int) : Bool := N.any fun n => n.id == id
theorem idxN_neg (id : Int) : ∀ (N : List Nd) (k : Nat), (idxN id N k < 0) ↔ hasId N id = false
  | [], k => by simp [idxN, hasId]
  | n :: r, k => by
    have ih := idxN_neg id r (k + 1)
    unfold idxN
    by_cases h : n.id = id
    · rw [if_pos h]; simp [hasId, h]
    · rw [if_neg h, ih]; simp [hasId, h]
/-- The fault of finding a node. -/
def fE (N : List Nd) (T : List Te) (id : Int) : Int := if gErr N T = 0 then (if hasId N id = true then 0 else 5) else gErr N T

set_option maxHeartbeats 1000000 in
theorem find1_any (n : Nd) (p : Nat) (id : Int) (w : World) (hp : p < w.heap.size) (hc : w.cell? ⟨p, 0, none⟩ = some (.int .i64 id)) (hv : ∃ a l c, n.rv = .slice a l c) :
    Calls Tryz.prog 44 #[n.one, .pointer (some ⟨p, 0, none⟩)] w fun e w' => e = .returned (.bool (n.id == id)) ∧ Below w.heap.size w w' := by
  obtain ⟨ni, kd, rv, rc⟩ := n
  obtain ⟨a, l, c, h⟩ := hv
  simp only at h ⊢
  subst h
  have hB : Below w.heap.size w (w.alloc (.cells #[.int .i64 ni, .string kd, .slice a l c] 34)) := b_alloc (Below.refl _ _) _
  have hc' := (hB.cell (p := ⟨p, 0, none⟩) hp).trans hc
  have hpn : ¬ p = w.heap.size := by omega
  go_enter Tryz.func44, Tryz.ntmps44
  go_wp2
  go_ret
  exact ⟨rfl, hB⟩

set_option maxHeartbeats 1000000 in
set_option maxRecDepth 100000 in
theorem index_any {ao : Option Addr} {cn : Nat} {N : List Nd} {w : World} (hn : N = [] ∨ ∃ b off, ao = some ⟨b, off, none⟩ ∧ b < w.heap.size ∧ LiesN w b off N) (h60 : N.length ≤ 60) (p : Nat) (id : Int) (hp : p < w.heap.size) (hc : w.cell? ⟨p, 0, none⟩ = some (.int .i64 id)) :
    Calls Tryz.prog 43 #[.slice ao N.length cn, .func (.func 44) #[] #[.pointer (some ⟨p, 0, none⟩)]] w fun e w' => e = .returned (.int .i64 (idxN id N 0)) ∧ Below w.heap.size w w' := by
  go_enter Tryz.func43, Tryz.ntmps43
  go_wp2
  go_loopw [8] (fun i wr => ∃ k : Nat, k ≤ N.length ∧ i = .int .i64 k ∧ idxN id N 0 = idxN id (N.drop k) k ∧ Below w.heap.size w wr) (fun i _ => N.length - (intOf i).toNat)
  case atStart => exact ⟨0, Nat.zero_le _, rfl, rfl, Below.refl _ _⟩
  case round =>
    obtain ⟨k, hk, rfl, hx, hB⟩ := hrel
    have HX : Hid (idxN id N 0 = idxN id (N.drop k) k) := hx
    clear hx
    by_cases hlt : k < N.length
    · obtain ⟨n, hn'⟩ : ∃ n, N[k]? = some n := ⟨N[k], by simp [hlt]⟩
      rcases hn with rfl | ⟨b, off, rfl, hb, hL⟩
      · exact absurd hlt (by simp)
      have HD : Hid (N.drop k = n :: N.drop (k + 1)) := dropN hn'
      obtain ⟨c0, c1, c2, cR⟩ := hL k n hn'
      have d0 := (hB.cell (p := ⟨b, off + k * 3, none⟩) hb).trans c0
      have d1 := (hB.cell (p := ⟨b, off + k * 3 + 1, none⟩) hb).trans c1
      have d2 := (hB.cell (p := ⟨b, off + k * 3 + 2, none⟩) hb).trans c2
      obtain ⟨av, cv, hv, _⟩ := cR
      have cf := find1_any n p id wr (Nat.lt_of_lt_of_le hp hB.size) ((hB.cell hp).trans hc) ⟨av, n.rc.length, cv, hv⟩
      have HL : Hid (LiesN w b off N) := hL
      clear c0 c1 c2 hn' hL hc
      obtain ⟨ni, kd, rv, rc⟩ := n
      simp only at hv d0 d1 d2 cf HD
      subst hv
      by_cases he : ni = id
      · have H : Hid (idxN id N 0 = (k : Int)) := by
          show _ = _
          rw [HX.out, HD.out]; unfold idxN; rw [if_pos he]
        have hb' : (ni == id) = true := by simpa using he
        rw [hb'] at cf
        clear HX HD he hb'
        go_wp2_with (first | (go_at_call 44; refine cf.mono ?_; rintro e W2 ⟨rfl, hB2⟩))
        go_ret
        exact ⟨ret_v (congrArg (Value.int .i64) H.out.symm), on1 hB hB2⟩
      · have H : Hid (idxN id N 0 = idxN id (N.drop (k + 1)) (k + 1)) := by
          show _ = _
          rw [HX.out, HD.out]; conv => lhs; unfold idxN; rw [if_neg he]
        have hb' : (ni == id) = false := by simpa using he
        rw [hb'] at cf
        clear HX HD he hb'
        go_wp2_with (first | (go_at_call 44; refine cf.mono ?_; rintro e W2 ⟨rfl, hB2⟩))
        go_roundw
        case rel => exact ⟨k + 1, by omega, by go_num, H.out, on1 hB hB2⟩
        case measure => simp [intOf]; omega
    · have hd : N.drop k = [] := List.drop_eq_nil_of_le (by omega)
      have H : Hid (idxN id N 0 = -1) := by
        show _ = _
        rw [HX.out, hd]; rfl
      clear HX hd
      go_wp2
      go_ret
      exact ⟨ret_v (congrArg (Value.int .i64) H.out.symm), hB⟩

theorem fE_bad {N : List Nd} {T : List Te} (id : Int) (h : ¬ gErr N T = 0) : fE N T id = gErr N T := by unfold fE; rw [if_neg h]
theorem fE_ok {N : List Nd} {T : List Te} {id : Int} (h : gErr N T = 0) (h2 : hasId N id = true) : fE N T id = 0 := by unfold fE; rw [if_pos h, if_pos h2]
theorem fE_no {N : List Nd} {T : List Te} {id : Int} (h : gErr N T = 0) (h2 : hasId N id = false) : fE N T id = 5 := by unfold fE; rw [if_pos h, h2]; rfl
theorem gErr_len {N : List Nd} {T : List Te} (h : gErr N T = 0) : N.length ≤ 60 ∧ T.length ≤ 120 := by
  unfold gErr at h
  split at h
  · cases h
  · omega

set_option maxHeartbeats 1000000 in
set_option maxRecDepth 100000 in
theorem find_any {vn vt : Value} {N : List Nd} {T : List Te} {w : World} (hN : IsN w vn N) (hT : IsT w vt T) (zN : SzN N) (zT : SzT T) (lN : N.length ≤ maxLen) (lT : T.length ≤ maxLen) (id : Int) :
    Calls Tryz.prog 23 #[.agg #[vn, vt], .int .i64 id] w fun e w' => ∃ x, e = .returned (.tuple #[.int .i64 x, errV (fE N T id)]) ∧ Below w.heap.size w w' := by
  have hN' := hN
  obtain ⟨an, cn, rfl, hcn, hn⟩ := hN
  have hT' := hT
  obtain ⟨am, cm, rfl, hcm, hm⟩ := hT
  have hB : Below w.heap.size w ((w.alloc (.cells #[.slice an N.length cn, .slice am T.length cm] 29)).alloc (.cells #[.int .i64 id] 3)) := b_alloc (b_alloc (Below.refl _ _) _) _
  have cc := gcheck_any (hN'.on hB) (hT'.on hB) zN zT lN lT
  by_cases hg : gErr N T = 0
  · rw [hg, errV_0] at cc
    have g0 : ((w.alloc (.cells #[.slice an N.length cn, .slice am T.length cm] 29)).alloc (.cells #[.int .i64 id] 3)).cell? ⟨w.heap.size, 0, none⟩ = some (.slice an N.length cn) := by simp
    have g2 : ((w.alloc (.cells #[.slice an N.length cn, .slice am T.length cm] 29)).alloc (.cells #[.int .i64 id] 3)).cell? ⟨w.heap.size + 1, 0, none⟩ = some (.int .i64 id) := by simp
    have ci := fun W (hW : Below ((w.alloc (.cells #[.slice an N.length cn, .slice am T.length cm] 29)).alloc (.cells #[.int .i64 id] 3)).heap.size ((w.alloc (.cells #[.slice an N.length cn, .slice am T.length cm] 29)).alloc (.cells #[.int .i64 id] 3)) W) => index_any (ao := an) (cn := cn) (N := N) (w := W) (by
      rcases hn with h | ⟨b, off, h1, h2, h3⟩
      · exact .inl h
      · exact .inr ⟨b, off, h1, Nat.lt_of_lt_of_le h2 (on1 hB hW).size, h3.on h2 (on1 hB hW)⟩) (gErr_len hg).1 (w.heap.size + 1) id (by have := hW.size; simp at this; omega) ((hW.cell (by simp)).trans g2)
    have HG : Hid (∀ W, Below ((w.alloc (.cells #[.slice an N.length cn, .slice am T.length cm] 29)).alloc (.cells #[.int .i64 id] 3)).heap.size ((w.alloc (.cells #[.slice an N.length cn, .slice am T.length cm] 29)).alloc (.cells #[.int .i64 id] 3)) W → W.cell? ⟨w.heap.size, 0, none⟩ = some (.slice an N.length cn)) := fun W hW => (hW.cell (by simp; omega)).trans g0
    obtain ⟨r, hr⟩ : ∃ r, idxN id N 0 = r := ⟨_, rfl⟩
    rw [hr] at ci
    by_cases h0 : r < 0
    · have H : Hid (errV (fE N T id) = .iface 74 (.int .i64 5)) := by
        show _ = _
        rw [fE_no hg ((idxN_neg id N 0).1 (by omega))]; rfl
      clear g0 g2 hg hr hn hm
      go_enter Tryz.func23, Tryz.ntmps23
      go_wp2_with (first | (go_at_call 20; refine cc.mono ?_; rintro e W2 ⟨rfl, hB2⟩; have k0 := HG.out W2 hB2) | (go_at_call 43; refine (ci _ hB2).mono ?_; rintro e W3 ⟨rfl, hB3⟩))
      go_ret2
      exact ⟨0, by rw [H.out]; rfl, on1 (on1 hB hB2) hB3⟩
    · have H : Hid (errV (fE N T id) = .nilIface) := by
        show _ = _
        rw [fE_ok hg (by
          cases hh : hasId N id
          · exact absurd ((idxN_neg id N 0).2 hh) (by omega)
          · rfl)]; rfl
      clear g0 g2 hg hr hn hm
      go_enter Tryz.func23, Tryz.ntmps23
      go_wp2_with (first | (go_at_call 20; refine cc.mono ?_; rintro e W2 ⟨rfl, hB2⟩; have k0 := HG.out W2 hB2) | (go_at_call 43; refine (ci _ hB2).mono ?_; rintro e W3 ⟨rfl, hB3⟩))
      go_ret2
      exact ⟨r, by rw [H.out]; rfl, on1 (on1 hB hB2) hB3⟩
  · have H : Hid (errV (fE N T id) = .iface 74 (.int .i64 (gErr N T))) := by
      show _ = _
      rw [fE_bad id hg, errV_ne hg]
    rw [errV_ne hg] at cc
    clear hg hn hm
    go_enter Tryz.func23, Tryz.ntmps23
    go_wp2_with (first | (go_at_call 20; refine cc.mono ?_; rintro e W2 ⟨rfl, hB2⟩))
    go_ret2
    exact ⟨0, by rw [H.out]; rfl, on1 hB hB2⟩
end Go.Proofs.YtffiddpnkiejkaaGreat
