/-
  Ops that touch other nodes do not meet: done in either order they make the same graph.
-/
import Derived.Test.YtikjmingkadjcaaGreatDoorA33
import Derived.Test.YtikjmingkadjcaaGreatDoorA34
import Derived.Test.YtikjmingkadjcaaGreatDoorA46
import Derived.Laws.ResultCell
namespace Go.Proofs.YtikjmingkadjcaaGreatDoor
set_option linter.unusedVariables false
set_option linter.unusedSimpArgs false

def memN (o : Opx) (P : Nd → Prop) (x : Nd) : Prop :=
  if o.wh = 1 then P x ∨ x = o.nd.c else if o.wh = 2 then P x ∧ x.id ≠ o.nd.id
  else if o.wh = 3 then (P x ∧ x.id ≠ o.nd.id) ∨ ∃ g, P g ∧ g.id = o.nd.id ∧ x = ⟨g.id, g.kd, .nilIface, ins o.pr g.rc⟩
  else if o.wh = 4 then (P x ∧ x.id ≠ o.nd.id) ∨ ∃ g, P g ∧ g.id = o.nd.id ∧ x = ⟨g.id, g.kd, .nilIface, unL o.pr.nm.toList g.rc⟩
  else P x
def memT (o : Opx) (P : Te → Prop) (t : Te) : Prop :=
  if o.wh = 2 then P t ∧ t.end o.nd.id = false else if o.wh = 5 then P t ∨ t = o.te else if o.wh = 6 then P t ∧ t ≠ o.te else P t
theorem put_all {id : Int} {M : List Nd} (f : List Pr → List Pr) (hs : SrtN M) (h : fndN id M = true) (x : Nd) : x ∈ putR id M (f (rcAt id M)) ↔ (x ∈ M ∧ x.id ≠ id) ∨ ∃ g, g ∈ M ∧ g.id = id ∧ x = ⟨g.id, g.kd, .nilIface, f g.rc⟩ := by
  obtain ⟨g, e, hg⟩ := fnd_at h
  have hr : rcAt id M = g.rc := by unfold rcAt; rw [e]
  rw [hr]
  unfold putR
  rw [e]
  show x ∈ M.set (loN id M) _ ↔ _
  rw [mem_set_at e hs.nodup]
  have hm := List.mem_of_getElem? e
  constructor
  · rintro (⟨h1, h2⟩ | rfl)
    · exact .inl ⟨h1, fun e' => h2 (srtN_uniq hs h1 hm (e'.trans hg.symm))⟩
    · exact .inr ⟨g, hm, hg, rfl⟩
  · rintro (⟨h1, h2⟩ | ⟨g', h1, h2, rfl⟩)
    · exact .inl ⟨h1, fun e' => h2 (by rw [e', hg])⟩
    · obtain rfl := srtN_uniq hs h1 hm (h2.trans hg.symm)
      exact .inr rfl
theorem mem_opM {o : Opx} {M : List Nd} {U : List Te} (hs : SrtN M) (e : opE o M U = 0) (x : Nd) : x ∈ opM o M U ↔ memN o (· ∈ M) x := by
  unfold opM memN
  by_cases h1 : o.wh = 1
  · rw [if_pos h1, if_pos h1]; unfold newM; rw [mem_mid]
  rw [if_neg h1, if_neg h1]
  by_cases h2 : o.wh = 2
  · rw [if_pos h2, if_pos h2]
    have hf : fndN o.nd.id M = true := by
      unfold opE at e
      rw [if_neg h1, if_pos h2] at e
      unfold goneE at e
      by_cases hf : fndN o.nd.id M = true
      · exact hf
      · rw [if_neg hf] at e; cases e
    obtain ⟨g, e2, hg⟩ := fnd_at hf
    rw [mem_erase_at e2 hs.nodup]
    exact ⟨fun ⟨a, b⟩ => ⟨a, fun e' => b (srtN_uniq hs a (List.mem_of_getElem? e2) (e'.trans hg.symm))⟩, fun ⟨a, b⟩ => ⟨a, fun e' => b (by rw [e', hg])⟩⟩
  rw [if_neg h2, if_neg h2]
  by_cases h3 : o.wh = 3
  · rw [if_pos h3, if_pos h3]
    have hf : fndN o.nd.id M = true := by
      unfold opE at e
      rw [if_neg h1, if_neg h2, if_pos h3] at e
      by_cases hf : fndN o.nd.id M = true
      · exact hf
      · rw [if_neg hf] at e; cases e
    exact put_all (ins o.pr) hs hf x
  rw [if_neg h3, if_neg h3]
  by_cases h4 : o.wh = 4
  · rw [if_pos h4, if_pos h4]
    have hf : fndN o.nd.id M = true := by
      unfold opE at e
      rw [if_neg h1, if_neg h2, if_neg h3, if_pos h4] at e
      by_cases hf : fndN o.nd.id M = true
      · exact hf
      · rw [if_neg hf] at e; cases e
    exact put_all (unL o.pr.nm.toList) hs hf x
  rw [if_neg h4, if_neg h4]
theorem mem_opT {o : Opx} {M : List Nd} {U : List Te} (hs : SrtT U) (e : opE o M U = 0) (t : Te) : t ∈ opT o M U ↔ memT o (· ∈ U) t := by
  unfold opT memT
  by_cases h2 : o.wh = 2
  · rw [if_pos h2, if_pos h2, List.mem_filter]
    unfold keepT
    simp
  rw [if_neg h2, if_neg h2]
  by_cases h5 : o.wh = 5
  · rw [if_pos h5, if_pos h5]; unfold bindT; rw [mem_mid]
  rw [if_neg h5, if_neg h5]
  by_cases h6 : o.wh = 6
  · rw [if_pos h6, if_pos h6]
    have hf : fndT o.te U = true := by
      unfold opE at e
      rw [if_neg (by omega), if_neg h2, if_neg (by omega), if_neg (by omega), if_neg h5, if_pos h6] at e
      by_cases hf : fndT o.te U = true
      · exact hf
      · rw [if_neg hf] at e; cases e
    rw [mem_erase_at (fndT_at hf) hs.nodup]
  rw [if_neg h6, if_neg h6]

structure Ag (X : List Int) (M : List Nd) (U : List Te) (M' : List Nd) (U' : List Te) : Prop where
  nd : ∀ x : Nd, x.id ∈ X → (x ∈ M ↔ x ∈ M')
  te : ∀ t : Te, (t.fr ∈ X ∨ t.tt ∈ X) → (t ∈ U ↔ t ∈ U')
theorem ag_step {X : List Int} {M M' : List Nd} {U U' : List Te} {o : Opx} (h : Ag X M U M' U') (hg : gErr M U = 0) (hg' : gErr M' U' = 0) (e : opE o M U = 0) (e' : opE o M' U' = 0) (hi : ¬ (o.wh = 5 ∨ o.wh = 6) → o.nd.id ∈ X) : Ag X (opM o M U) (opT o M U) (opM o M' U') (opT o M' U') := by
  obtain ⟨⟨_, hs, _⟩, ⟨_, ht, _⟩⟩ := (gErr_iff M U).1 hg
  obtain ⟨⟨_, hs', _⟩, ⟨_, ht', _⟩⟩ := (gErr_iff M' U').1 hg'
  refine ⟨fun x hx => ?_, fun t hx => ?_⟩
  · rw [mem_opM hs e, mem_opM hs' e']
    have k := h.nd x hx
    unfold memN
    dsimp only
    by_cases h1 : o.wh = 1
    · rw [if_pos h1, if_pos h1, k]
    rw [if_neg h1, if_neg h1]
    by_cases h2 : o.wh = 2
    · rw [if_pos h2, if_pos h2, k]
    rw [if_neg h2, if_neg h2]
    have kg : ∀ f : List Pr → List Pr, o.nd.id ∈ X → ((∃ g, g ∈ M ∧ g.id = o.nd.id ∧ x = ⟨g.id, g.kd, .nilIface, f g.rc⟩) ↔ ∃ g, g ∈ M' ∧ g.id = o.nd.id ∧ x = ⟨g.id, g.kd, .nilIface, f g.rc⟩) := fun f hm =>
      ⟨fun ⟨g, a, b, c⟩ => ⟨g, (h.nd g (by rw [b]; exact hm)).1 a, b, c⟩, fun ⟨g, a, b, c⟩ => ⟨g, (h.nd g (by rw [b]; exact hm)).2 a, b, c⟩⟩
    by_cases h3 : o.wh = 3
    · rw [if_pos h3, if_pos h3, k, kg _ (hi (by omega))]
    rw [if_neg h3, if_neg h3]
    by_cases h4 : o.wh = 4
    · rw [if_pos h4, if_pos h4, k, kg _ (hi (by omega))]
    rw [if_neg h4, if_neg h4, k]
  · rw [mem_opT ht e, mem_opT ht' e']
    have k := h.te t hx
    unfold memT
    dsimp only
    by_cases h2 : o.wh = 2
    · rw [if_pos h2, if_pos h2, k]
    rw [if_neg h2, if_neg h2]
    by_cases h5 : o.wh = 5
    · rw [if_pos h5, if_pos h5, k]
    rw [if_neg h5, if_neg h5]
    by_cases h6 : o.wh = 6
    · rw [if_pos h6, if_pos h6, k]
    rw [if_neg h6, if_neg h6, k]
theorem tou_id {T0 : List Te} {o : Opx} (h : ¬ (o.wh = 5 ∨ o.wh = 6)) : o.nd.id ∈ touB T0 o := by
  unfold touB
  rw [if_neg h]
  split <;> simp
theorem ag_all {X : List Int} : ∀ (O : List Opx) (M M' : List Nd) (U U' : List Te), Ag X M U M' U' → gErr M U = 0 → gErr M' U' = 0 → opS.err O M U = 0 → opS.err O M' U' = 0 → (∀ o ∈ O, ¬ (o.wh = 5 ∨ o.wh = 6) → o.nd.id ∈ X) →
    Ag X (opS.res O M U).1 (opS.res O M U).2 (opS.res O M' U').1 (opS.res O M' U').2
  | [], M, M', U, U', h, _, _, _, _, _ => h
  | o :: O, M, M', U, U', h, hg, hg', he, he', hi => by
    have e : opS.e o M U = 0 := by
      by_cases e : opS.e o M U = 0
      · exact e
      · unfold OpS.err at he; rw [if_neg e] at he; exact absurd he e
    have e' : opS.e o M' U' = 0 := by
      by_cases e : opS.e o M' U' = 0
      · exact e
      · unfold OpS.err at he'; rw [if_neg e] at he'; exact absurd he' e
    unfold OpS.err at he he'
    rw [if_pos e] at he
    rw [if_pos e'] at he'
    rw [OpS.res, if_pos e, OpS.res, if_pos e']
    exact ag_all O _ _ _ _ (ag_step h hg hg' e e' (hi o (List.mem_cons_self ..))) (keeps_all o M U hg e) (keeps_all o M' U' hg' e') he he' (fun q hq => hi q (List.mem_cons_of_mem _ hq))
theorem ag_of_un {T0 U : List Te} {X G Y : List Int} {M0 M : List Nd} (h : Un T0 X G M0 M U) (hd : ∀ x ∈ Y, x ∉ X) : Ag Y M0 T0 M U :=
  ⟨fun x hx => (h.nd x (hd _ hx)).symm, fun t ht => (h.te t (ht.imp (hd _) (hd _))).symm⟩
theorem tou_sub {T0 U : List Te} {Y : List Int} {O : List Opx} (h : ∀ x ∈ touA T0 O, x ∈ Y) (ha : ∀ t : Te, (t.fr ∈ Y ∨ t.tt ∈ Y) → t ∈ U → t ∈ T0) : ∀ x ∈ touA U O, x ∈ Y := by
  intro x hx
  obtain ⟨o, ho, hx⟩ := List.mem_flatMap.1 hx
  have hs : ∀ y ∈ touB T0 o, y ∈ Y := fun y hy => h y (List.mem_flatMap.2 ⟨o, ho, hy⟩)
  unfold touB at hx hs
  by_cases h5 : o.wh = 5 ∨ o.wh = 6
  · rw [if_pos h5] at hx hs; exact hs x hx
  rw [if_neg h5] at hx hs
  by_cases h2 : o.wh = 2
  · rw [if_pos h2] at hx hs
    rcases List.mem_append.1 hx with hx | hx
    · obtain ⟨t, ht, hh⟩ := List.mem_filterMap.1 hx
      have hid : o.nd.id ∈ Y := hs _ (by simp)
      refine hs x (List.mem_append.2 (.inl (List.mem_filterMap.2 ⟨t, ha t ?_ ht, hh⟩)))
      unfold oth at hh
      split at hh
      · rename_i q; left; rw [q]; exact hid
      · split at hh
        · rename_i q; right; rw [q]; exact hid
        · cases hh
    · exact hs x (List.mem_append.2 (.inr hx))
  · rw [if_neg h2] at hx hs; exact hs x hx
theorem tou_ids_in {T0 : List Te} {O : List Opx} : ∀ o ∈ O, ¬ (o.wh = 5 ∨ o.wh = 6) → o.nd.id ∈ touA T0 O := fun o ho h => List.mem_flatMap.2 ⟨o, ho, tou_id h⟩
theorem un_refl (T0 : List Te) (M0 : List Nd) : Un T0 [] [] M0 M0 T0 := ⟨fun _ _ => Iff.rfl, fun _ _ => Iff.rfl, fun x hx _ => ⟨x, hx, rfl, rfl⟩⟩
theorem un_mono {T0 U : List Te} {X X' G : List Int} {M0 M : List Nd} (h : Un T0 X G M0 M U) (hs : ∀ x ∈ X, x ∈ X') : Un T0 X' G M0 M U := ⟨fun x hx => h.nd x fun q => hx (hs _ q), fun t ht => h.te t (ht.imp (fun q p => q (hs _ p)) (fun q p => q (hs _ p))), h.kd⟩
theorem apart_same {N : List Nd} {T : List Te} {l k : List Opx} (hg : gErr N T = 0) (hd : ∀ x ∈ touA T l, x ∉ touA T k) (el : opS.err l N T = 0) (ek : opS.err k N T = 0)
    (elk : opS.err k (opS.res l N T).1 (opS.res l N T).2 = 0) (ekl : opS.err l (opS.res k N T).1 (opS.res k N T).2 = 0) :
    opS.res k (opS.res l N T).1 (opS.res l N T).2 = opS.res l (opS.res k N T).1 (opS.res k N T).2 := by
  obtain ⟨u1, g1⟩ := un_all l [] [] N T hg el (un_refl T N)
  obtain ⟨u2, g2⟩ := un_all k [] [] N T hg ek (un_refl T N)
  simp only [List.nil_append] at u1 u2
  have hd' : ∀ x ∈ touA T k, x ∉ touA T l := fun x hx hx' => hd x hx' hx
  have a1 := ag_of_un u1 hd'
  have a2 := ag_of_un u2 hd
  have b1 := ag_all k _ _ _ _ a1 hg g1 ek elk tou_ids_in
  have b2 := ag_all l _ _ _ _ a2 hg g2 el ekl tou_ids_in
  have s1 := tou_sub (O := k) (U := (opS.res l N T).2) (Y := touA T k) (fun x hx => hx) (fun t ht hm => (a1.te t ht).2 hm)
  have s2 := tou_sub (O := l) (U := (opS.res k N T).2) (Y := touA T l) (fun x hx => hx) (fun t ht hm => (a2.te t ht).2 hm)
  obtain ⟨u3, g3⟩ := un_all k [] [] _ _ g1 elk (un_refl _ _)
  obtain ⟨u4, g4⟩ := un_all l [] [] _ _ g2 ekl (un_refl _ _)
  simp only [List.nil_append] at u3 u4
  replace u3 := un_mono u3 s1
  replace u4 := un_mono u4 s2
  obtain ⟨⟨_, n3, _⟩, ⟨_, t3, _⟩⟩ := (gErr_iff _ _).1 g3
  obtain ⟨⟨_, n4, _⟩, ⟨_, t4, _⟩⟩ := (gErr_iff _ _).1 g4
  refine Prod.ext (srtN_ext n3 n4 fun x => ?_) (srtT_ext t3 t4 fun t => ?_)
  · by_cases hx : x.id ∈ touA T l
    · exact (u3.nd x (hd _ hx)).trans (b2.nd x hx)
    · by_cases hy : x.id ∈ touA T k
      · exact (b1.nd x hy).symm.trans (u4.nd x hx).symm
      · exact (u3.nd x hy).trans ((u1.nd x hx).trans ((u2.nd x hy).symm.trans (u4.nd x hx).symm))
  · by_cases hx : t.fr ∈ touA T l ∨ t.tt ∈ touA T l
    · exact (u3.te t (hx.imp (hd _) (hd _))).trans (b2.te t hx)
    · by_cases hy : t.fr ∈ touA T k ∨ t.tt ∈ touA T k
      · exact (b1.te t hy).symm.trans (u4.te t (.inl fun q => hx (.inl q))).symm
      · exact (u3.te t (.inl fun q => hy (.inl q))).trans ((u1.te t (.inl fun q => hx (.inl q))).trans ((u2.te t (.inl fun q => hy (.inl q))).symm.trans (u4.te t (.inl fun q => hx (.inl q))).symm))
end Go.Proofs.YtikjmingkadjcaaGreatDoor

/-
  The numbers of faults: none is 10.
-/
namespace Go.Proofs.YtikjmingkadjcaaGreatDoor
set_option linter.unusedVariables false
set_option linter.unusedSimpArgs false

theorem n9 (l : List UInt8) : nErr l ≤ 9 := by unfold nErr; split <;> (try split) <;> (try split) <;> decide
theorem v9 (t n : Int) (l : List UInt8) : vErr t n l ≤ 9 := by
  unfold vErr tErr
  split <;> (try split) <;> (try split) <;> (try split) <;> (try split) <;> decide
theorem chk9 : ∀ (L : List Pr) (o : Option Pr), chk o L ≤ 9
  | [], none => by decide
  | [], some q => by unfold chk; decide
  | p :: r, none => by
    unfold chk
    split
    · split
      · exact chk9 r _
      · exact v9 _ _ _
    · exact n9 _
  | p :: r, some q => by
    unfold chk
    split
    · split
      · split
        · decide
        · exact chk9 r _
      · exact v9 _ _ _
    · exact n9 _
theorem r9 (L : List Pr) : rErr L ≤ 9 := by
  unfold rErr
  split
  · decide
  · exact chk9 L _
theorem nd9 (o : Option Nd) (n : Nd) : ndE o n ≤ 9 := by
  unfold ndE
  split
  · split
    · decide
    · split
      · exact r9 _
      · exact n9 _
  · decide
theorem te9 (o : Option Te) (t : Te) : teE o t ≤ 9 := by
  unfold teE
  split
  · split
    · split <;> decide
    · decide
  · exact n9 _
theorem chkN9 : ∀ (N : List Nd) (o : Option Nd), chkN o N ≤ 9
  | [], o => by rw [chkN_end]; decide
  | n :: r, o => by
    unfold chkN
    split
    · exact chkN9 r _
    · exact nd9 _ _
theorem chkT9 : ∀ (T : List Te) (o : Option Te), chkT o T ≤ 9
  | [], o => by rw [chkT_end]; decide
  | n :: r, o => by
    unfold chkT
    split
    · exact chkT9 r _
    · exact te9 _ _
theorem g9 (N : List Nd) (T : List Te) : gErr N T ≤ 9 := by
  unfold gErr
  split
  · decide
  · split
    · exact chkT9 _ _
    · exact chkN9 _ _
theorem fb9 (o : Option Fd) (f : Fd) : fBad o f ≤ 9 := by
  unfold fBad
  have := n9 f.nm
  repeat (first | exact this | decide | split)
theorem fc9 : ∀ (L : List Fd) (o : Option Fd), fChk o L ≤ 9
  | [], o => by cases o <;> simp [fChk]
  | f :: r, o => by
    unfold fChk
    split
    · exact fc9 r _
    · exact fb9 _ _
theorem oc9 (A : List Kd) : ∀ (l s : List Nm), oChk A s l ≤ 9
  | [], s => by unfold oChk; decide
  | n :: r, s => by
    unfold oChk
    split
    · decide
    · split
      · decide
      · exact oc9 A r _
theorem k9 (A : List Kd) (k : Kd) : kErr A k ≤ 9 := by
  unfold kErr
  have h1 := n9 k.nm
  have h2 := oc9 A k.of []
  have h3 := fc9 k.fs none
  have h4 : aErr (fieldsOf (kinOf (A ++ [k]))) ≤ 9 := by
    unfold aErr
    split
    · decide
    · split <;> decide
  repeat (first | exact h1 | exact h2 | exact h3 | exact h4 | decide | split)
theorem kg9 : ∀ (L A : List Kd), (ksGo A L).2 ≤ 9
  | [], A => by unfold ksGo; decide
  | k :: r, A => by
    unfold ksGo
    split
    · exact kg9 r _
    · exact k9 _ _
theorem ks9 (L : List Kd) : (ksErr L).2 ≤ 9 := by
  unfold ksErr
  split
  · decide
  · exact kg9 L []
theorem b9 (L : List Kd) (A : List Bd) (x : Bd) : bErr L A x ≤ 9 := by
  unfold bErr
  have h1 := n9 x.nm
  repeat (first | exact h1 | decide | split)
theorem bg9 (L : List Kd) : ∀ (B A : List Bd), (bsGo L A B).2 ≤ 9
  | [], A => by unfold bsGo; decide
  | k :: r, A => by
    unfold bsGo
    split
    · exact bg9 L r _
    · exact b9 _ _ _
theorem s9 (L : List Kd) (B : List Bd) : (sErr L B).2 ≤ 9 := by
  unfold sErr
  split
  · split
    · decide
    · exact bg9 L B []
  · exact ks9 L
theorem cf9 (L : List Kd) (B : List Bd) (N : List Nd) (T : List Te) : cfE L B N T ≤ 9 := by
  have h : inE L B N T ≤ 9 := by
    unfold inE
    split
    · exact g9 _ _
    · exact s9 _ _
  unfold cfE
  split
  · split <;> decide
  · exact h
theorem op9 (o : Opx) (M : List Nd) (T : List Te) : opE o M T ≤ 9 := by
  have h1 : newE o.nd M ≤ 9 := by
    unfold newE
    have := g9 [o.nd] []
    repeat (first | exact this | decide | split)
  have h2 : goneE o.nd.id M ≤ 9 := by unfold goneE; split <;> decide
  have h3 : rsErr o.pr (rcAt o.nd.id M) ≤ 9 := by
    unfold rsErr
    have a := r9 [o.pr]
    have b := r9 (rcAt o.nd.id M)
    repeat (first | exact a | exact b | decide | split)
  have h4 : unE o.pr.nm.toList (rcAt o.nd.id M) ≤ 9 := by unfold unE; split <;> decide
  have h5 : bindE o.te T ≤ 9 := by
    unfold bindE
    have := g9 [] [o.te]
    repeat (first | exact this | decide | split)
  unfold opE
  repeat (first | exact h1 | exact h2 | exact h3 | exact h4 | exact h5 | decide | split)
theorem all9 : ∀ (O : List Opx) (M : List Nd) (T : List Te), opS.err O M T ≤ 9
  | [], M, T => by unfold OpS.err; decide
  | o :: r, M, T => by
    unfold OpS.err
    split
    · exact all9 r _ _
    · exact op9 o M T
end Go.Proofs.YtikjmingkadjcaaGreatDoor

/-
  What two sessions come to that are open at once.
-/
namespace Go.Proofs.YtikjmingkadjcaaGreatDoor
open Go.RowKit
set_option linter.unusedVariables false
set_option linter.unusedSimpArgs false

theorem err_take : ∀ (O : List Opx) (M : List Nd) (T : List Te) (j : Nat) (o : Opx), opS.err O M T = 0 → O[j]? = some o → opS.err (O.take j) M T = 0 ∧ opE o (opS.res (O.take j) M T).1 (opS.res (O.take j) M T).2 = 0
  | [], M, T, j, o, _, h => by simp at h
  | q :: r, M, T, j, o, he, h => by
    have e : opS.e q M T = 0 := by
      by_cases e : opS.e q M T = 0
      · exact e
      · unfold OpS.err at he; rw [if_neg e] at he; exact absurd he e
    cases j with
    | zero =>
      have : q = o := by simpa using h
      subst this
      exact ⟨rfl, e⟩
    | succ j =>
      unfold OpS.err at he
      rw [if_pos e] at he
      have h' : r[j]? = some o := by simpa using h
      obtain ⟨a, b⟩ := err_take r _ _ j o he h'
      refine ⟨?_, ?_⟩
      · show opS.err (q :: r.take j) M T = 0
        unfold OpS.err
        rw [if_pos e]; exact a
      · show opE o (opS.res (q :: r.take j) M T).1 (opS.res (q :: r.take j) M T).2 = 0
        rw [OpS.res, if_pos e]; exact b
def ssAt (N : List Nd) (T : List Te) (O : List Opx) : Ss := ⟨N, T, cO O, (opS.res O N T).1, (opS.res O N T).2, []⟩
theorem ssAt_do {N : List Nd} {T : List Te} {O : List Opx} {o : Opx} (he : opS.err O N T = 0) (h : opE o (opS.res O N T).1 (opS.res O N T).2 = 0) : ssDo (ssAt N T O) o = ssAt N T (O ++ [o]) := by
  unfold ssDo ssAt
  rw [res_app _ _ _ _ he h]
  simp [cO]
structure TwS (L : List Kd) (B : List Bd) (N : List Nd) (T : List Te) (l k : List Opx) (s : Bs) : Prop where
  ok : BsOk s
  eL : s.L = L
  eB : s.B = B
  eN : s.N = N
  eT : s.T = T
  ag : s.age = 0
  f1 : s.F 1 = some (ssAt N T l)
  f2 : s.F 2 = some (ssAt N T k)
theorem tw_open {L : List Kd} {B : List Bd} {N : List Nd} {T : List Te} (hok : BsOk (nwS L B N T)) : TwS L B (cN N) T [] [] (openS (openS (nwS L B N T))) :=
  ⟨openS_ok (openS_ok hok (by show (0 : Nat) < 1000; omega)) (by show (1 : Nat) < 1000; omega), rfl, rfl, rfl, rfl, rfl, by simp [openS, upd, nwS, ssAt, cO, OpS.res], by simp [openS, upd, nwS, ssAt, cO, OpS.res]⟩
theorem tw_do1 {L : List Kd} {B : List Bd} {N : List Nd} {T : List Te} {l k : List Opx} {s : Bs} {o : Opx} (h : TwS L B N T l k s) (hl : l.length < 40) (zo : OpSz o) (he : opS.err l N T = 0) (e0 : opE o (opS.res l N T).1 (opS.res l N T).2 = 0) : TwS L B N T (l ++ [o]) k (doS s 1 (ssAt N T l) o) :=
  ⟨doS_ok h.ok h.f1 (by simpa [ssAt, cO] using hl) zo e0, h.eL, h.eB, h.eN, h.eT, h.ag, by simp [doS, upd, ssAt_do he e0], by simp [doS, upd, h.f2]⟩
theorem tw_do2 {L : List Kd} {B : List Bd} {N : List Nd} {T : List Te} {l k : List Opx} {s : Bs} {o : Opx} (h : TwS L B N T l k s) (hl : k.length < 40) (zo : OpSz o) (he : opS.err k N T = 0) (e0 : opE o (opS.res k N T).1 (opS.res k N T).2 = 0) : TwS L B N T l (k ++ [o]) (doS s 2 (ssAt N T k) o) :=
  ⟨doS_ok h.ok h.f2 (by simpa [ssAt, cO] using hl) zo e0, h.eL, h.eB, h.eN, h.eT, h.ag, by simp [doS, upd, h.f1], by simp [doS, upd, ssAt_do he e0]⟩
theorem late_at (N : List Nd) (T : List Te) (O : List Opx) : lateB (ssAt N T O) = false := by
  unfold lateB ssAt
  simp
structure TwC (L : List Kd) (B : List Bd) (N : List Nd) (T : List Te) (l k : List Opx) (s : Bs) : Prop where
  ok : BsOk s
  eL : s.L = L
  eB : s.B = B
  eG : (s.N, s.T) = opS.res l N T
  ag : s.age = 1
  f2 : ∃ X, s.F 2 = some ⟨N, T, cO k, (opS.res k N T).1, (opS.res k N T).2, X⟩ ∧ ∀ y ∈ X, y ∈ touA T l
theorem tw_com {L : List Kd} {B : List Bd} {N : List Nd} {T : List Te} {l k : List Opx} {s : Bs} {X : List Int} (h : TwS L B N T l k s) (hc : cmE s (ssAt N T l) = 0) (hX : ∀ y, y ∈ X ↔ y ∈ touA (ssAt N T l).gT (ssAt N T l).O) (h64 : ∀ y ∈ X, in64 y) : TwC L B N T l k (cmS s 1 (ssAt N T l) X) := by
  have hw : wE s (ssAt N T l).O = 0 := by
    unfold cmE at hc
    rw [late_at, if_neg (by decide)] at hc
    exact hc
  refine ⟨cmS_ok h.ok h.f1 (by rw [h.ag]; omega) hw h64, h.eL, h.eB, ?_, by show s.age + 1 = 1; rw [h.ag], X, ?_, fun y hy => ?_⟩
  · show ((opS.res (cO l) s.N s.T).1, (opS.res (cO l) s.N s.T).2) = _
    rw [h.eN, h.eT, res_o]
  · show (dropI s.F 1 2).map (fun x => x.tk X) = _
    unfold dropI
    rw [if_neg (by decide), h.f2]
    rfl
  · have := (hX y).1 hy
    rwa [show touA (ssAt N T l).gT (ssAt N T l).O = touA T l from tou_o T l] at this
theorem cm1_le {L : List Kd} {B : List Bd} {N : List Nd} {T : List Te} {l k : List Opx} {s : Bs} (h : TwS L B N T l k s) : cmE s (ssAt N T l) ≤ 9 := by
  unfold cmE
  rw [late_at, if_neg (by decide)]
  unfold wE
  split
  · split <;> decide
  · exact all9 _ _ _
theorem cm2_le {L : List Kd} {B : List Bd} {N : List Nd} {T : List Te} {l k : List Opx} {s : Bs} {x : Ss} (h : TwC L B N T l k s) (hd : ∀ y ∈ touA T l, y ∉ touA T k) (hx : s.F 2 = some x) : cmE s x ≤ 9 ∧ (cmE s x = 0 → wE s x.O = 0 ∧ opS.err k (opS.res l N T).1 (opS.res l N T).2 = 0 ∧ opS.res x.O s.N s.T = opS.res k (opS.res l N T).1 (opS.res l N T).2) := by
  obtain ⟨X, hX, hsub⟩ := h.f2
  rw [hX] at hx
  have e := Option.some.inj hx
  subst e
  have hG1 : s.N = (opS.res l N T).1 := congrArg Prod.fst h.eG
  have hG2 : s.T = (opS.res l N T).2 := congrArg Prod.snd h.eG
  have hl : lateB ⟨N, T, cO k, (opS.res k N T).1, (opS.res k N T).2, X⟩ = false := by
    unfold lateB
    rw [show touA T (cO k) = touA T k from tou_o T k]
    rw [Bool.eq_false_iff]
    intro hh
    obtain ⟨y, hy, hy2⟩ := List.any_eq_true.1 hh
    exact hd y (hsub y (of_decide_eq_true hy2)) hy
  unfold cmE
  rw [hl, if_neg (by decide)]
  constructor
  · unfold wE
    split
    · split <;> decide
    · exact all9 _ _ _
  · intro hw
    refine ⟨hw, ?_, ?_⟩
    · unfold wE at hw
      rw [← hG1, ← hG2]
      by_cases e : opS.err (cO k) s.N s.T = 0
      · rwa [err_o] at e
      · rw [if_neg e] at hw; exact absurd hw e
    · rw [res_o, hG1, hG2]
end Go.Proofs.YtikjmingkadjcaaGreatDoor

/-
  The walk of two.
-/
namespace Go.Proofs.YtikjmingkadjcaaGreatDoor
open Go.RowKit
set_option linter.unusedVariables false
set_option linter.unusedSimpArgs false

def TwP (w : World) (N : List Nd) (T : List Te) (l k : List Opx) (e : Ending) (w' : World) : Prop :=
  ∃ a n c a' n' c' z, e = .returned (.tuple #[.agg #[.slice a n c, .slice a' n' c'], errV z]) ∧ z ≤ 9 ∧
    (z = 0 → opS.err k (opS.res l (cN N) T).1 (opS.res l (cN N) T).2 = 0 ∧ ∃ M, cN M = (opS.res k (opS.res l (cN N) T).1 (opS.res l (cN N) T).2).1 ∧ OwnNs w' w.heap.size (.slice a n c) M ∧ OwnTs w' w.heap.size (.slice a' n' c') (opS.res k (opS.res l (cN N) T).1 (opS.res l (cN N) T).2).2) ∧ Below w.heap.size w w'
def RcB (l : List Opx) : Prop := ∀ o ∈ l, OpSz o ∧ o.nd.rc.length ≤ 2932031007402
theorem openN1 {W : World} {base p : Nat} {L : List Kd} {B : List Bd} {N : List Nd} {T : List Te} (hok : BsOk (nwS L B N T)) (hb : Be W base p (nwS L B N T)) (hle : base ≤ W.heap.size) : Calls Tryz.prog 6 #[.pointer (some ⟨p, 0, none⟩)] W fun e w' => e = .returned (.tuple #[.int .i64 1, .nilIface]) ∧ Be w' base p (openS (nwS L B N T)) ∧ Fr base W w' :=
  (sopen_any hb hok (by show (0 : Nat) < 4; omega) (by show (0 : Nat) < 1000; omega) hle).mono fun e w' h => ⟨h.1, h.2⟩
theorem openN2 {W : World} {base p : Nat} {L : List Kd} {B : List Bd} {N : List Nd} {T : List Te} (hok : BsOk (nwS L B N T)) (hb : Be W base p (openS (nwS L B N T))) (hle : base ≤ W.heap.size) : Calls Tryz.prog 6 #[.pointer (some ⟨p, 0, none⟩)] W fun e w' => e = .returned (.tuple #[.int .i64 2, .nilIface]) ∧ Be w' base p (openS (openS (nwS L B N T))) ∧ Fr base W w' :=
  (sopen_any hb (openS_ok hok (by show (0 : Nat) < 1000; omega)) (by show (1 : Nat) < 4; omega) (by show (1 : Nat) < 1000; omega) hle).mono fun e w' h => ⟨h.1, h.2⟩
def TwB (w : World) (base p : Nat) (L : List Kd) (B : List Bd) (N : List Nd) (T : List Te) (l k : List Opx) : Prop := ∃ s, Be w base p s ∧ TwS L B N T l k s
theorem twDo1 {W : World} {base p : Nat} {L : List Kd} {B : List Bd} {N : List Nd} {T : List Te} {l k : List Opx} {j : Nat} {o : Opx} (h : TwB W base p L B N T (l.take j) k) (hb : base ≤ W.heap.size) (h40 : l.length ≤ 40) (he : opS.err l N T = 0) (ho : l[j]? = some o) (hz : RcB l) (hR : IsR W o.nd.rv o.nd.rc) :
    Calls Tryz.prog 7 #[.pointer (some ⟨p, 0, none⟩), .int .i64 1, o.one] W fun e w' => e = .returned .nilIface ∧ TwB w' base p L B N T (l.take (j + 1)) k ∧ Fr base W w' := by
  obtain ⟨s, hbe, hs⟩ := h
  obtain ⟨e1, e2⟩ := err_take l N T j o he ho
  obtain ⟨z1, z2⟩ := hz o (List.mem_of_getElem? ho)
  have hj := (List.getElem?_eq_some_iff.1 ho).1
  refine (sdo_yes hbe hs.ok hs.f1 (by simp [ssAt, cO]; omega) hR z1 z2 e2 hb).mono fun e w' hP => ?_
  refine ⟨hP.1, ⟨_, hP.2.1, ?_⟩, hP.2.2⟩
  rw [takeK ho]
  exact tw_do1 hs (by simp; omega) z1 e1 e2
theorem twDo2 {W : World} {base p : Nat} {L : List Kd} {B : List Bd} {N : List Nd} {T : List Te} {l k : List Opx} {j : Nat} {o : Opx} (h : TwB W base p L B N T l (k.take j)) (hb : base ≤ W.heap.size) (h40 : k.length ≤ 40) (he : opS.err k N T = 0) (ho : k[j]? = some o) (hz : RcB k) (hR : IsR W o.nd.rv o.nd.rc) :
    Calls Tryz.prog 7 #[.pointer (some ⟨p, 0, none⟩), .int .i64 2, o.one] W fun e w' => e = .returned .nilIface ∧ TwB w' base p L B N T l (k.take (j + 1)) ∧ Fr base W w' := by
  obtain ⟨s, hbe, hs⟩ := h
  obtain ⟨e1, e2⟩ := err_take k N T j o he ho
  obtain ⟨z1, z2⟩ := hz o (List.mem_of_getElem? ho)
  have hj := (List.getElem?_eq_some_iff.1 ho).1
  refine (sdo_yes hbe hs.ok hs.f2 (by simp [ssAt, cO]; omega) hR z1 z2 e2 hb).mono fun e w' hP => ?_
  refine ⟨hP.1, ⟨_, hP.2.1, ?_⟩, hP.2.2⟩
  rw [takeK ho]
  exact tw_do2 hs (by simp; omega) z1 e1 e2
theorem twC1 {W : World} {base p : Nat} {L : List Kd} {B : List Bd} {N : List Nd} {T : List Te} {l k : List Opx} (h : TwB W base p L B N T l k) (hb : base ≤ W.heap.size) :
    (Calls Tryz.prog 8 #[.pointer (some ⟨p, 0, none⟩), .int .i64 1] W fun e w' => e = .returned .nilIface ∧ (∃ s, Be w' base p s ∧ TwC L B N T l k s) ∧ Fr base W w') ∨
    (Calls Tryz.prog 8 #[.pointer (some ⟨p, 0, none⟩), .int .i64 1] W fun e w' => ∃ z, e = .returned (.iface 79 (.int .i64 z)) ∧ (z ≠ 0 ∧ z ≤ 9) ∧ Fr base W w') := by
  obtain ⟨s, hbe, hs⟩ := h
  have c := scommit_any hbe hs.ok hs.f1 (by rw [hs.ag]; omega) hb
  by_cases hc : cmE s (ssAt N T l) = 0
  · refine .inl (c.mono fun e w' hP => ?_)
    obtain ⟨rfl, hf, _, h0⟩ := hP
    obtain ⟨X, h64, hX, hbe'⟩ := h0 hc
    exact ⟨by rw [hc]; rfl, ⟨_, hbe', tw_com hs hc hX h64⟩, hf⟩
  · refine .inr (c.mono fun e w' hP => ?_)
    obtain ⟨rfl, hf, _, _⟩ := hP
    exact ⟨_, by rw [errV_ne hc], ⟨hc, cm1_le hs⟩, hf⟩
def TwE (base p : Nat) (N : List Nd) (T : List Te) (l k : List Opx) (z : Int) (w : World) : Prop := ∃ s, Be w base p s ∧ BsOk s ∧ (z = 0 → opS.err k (opS.res l N T).1 (opS.res l N T).2 = 0 ∧ (s.N, s.T) = opS.res k (opS.res l N T).1 (opS.res l N T).2)
theorem twC2 {W : World} {base p : Nat} {L : List Kd} {B : List Bd} {N : List Nd} {T : List Te} {l k : List Opx} (h : ∃ s, Be W base p s ∧ TwC L B N T l k s) (hd : ∀ y ∈ touA T l, y ∉ touA T k) (hb : base ≤ W.heap.size) :
    Calls Tryz.prog 8 #[.pointer (some ⟨p, 0, none⟩), .int .i64 2] W fun e w' => ∃ z, e = .returned (errV z) ∧ z ≤ 9 ∧ TwE base p N T l k z w' ∧ Fr base W w' := by
  obtain ⟨s, hbe, hs⟩ := h
  obtain ⟨X, hX, _⟩ := hs.f2
  have c := scommit_any hbe hs.ok hX (by rw [hs.ag]; omega) hb
  obtain ⟨h9, h0⟩ := cm2_le hs hd hX
  refine c.mono fun e w' hP => ?_
  obtain ⟨rfl, hf, hne, heq⟩ := hP
  refine ⟨_, rfl, h9, ?_, hf⟩
  by_cases hc : cmE s ⟨N, T, cO k, (opS.res k N T).1, (opS.res k N T).2, X⟩ = 0
  · obtain ⟨hw, hk, hr⟩ := h0 hc
    obtain ⟨Y, h64, _, hbe'⟩ := heq hc
    refine ⟨_, hbe', cmS_ok hs.ok hX (by rw [hs.ag]; omega) hw h64, fun _ => ⟨hk, ?_⟩⟩
    show ((opS.res (cO k) s.N s.T).1, (opS.res (cO k) s.N s.T).2) = _
    rw [← hr]
  · exact ⟨s, hne hc, hs.ok, fun e => absurd e hc⟩
theorem twG {W : World} {base p : Nat} {N : List Nd} {T : List Te} {l k : List Opx} {z : Int} (h : TwE base p N T l k z W) (hb : base ≤ W.heap.size) :
    Calls Tryz.prog 9 #[.pointer (some ⟨p, 0, none⟩)] W fun e w' => ∃ a n c a' n' c', e = .returned (.agg #[.slice a n c, .slice a' n' c']) ∧ (z = 0 → opS.err k (opS.res l N T).1 (opS.res l N T).2 = 0 ∧ ∃ M, cN M = (opS.res k (opS.res l N T).1 (opS.res l N T).2).1 ∧ OwnNs w' W.heap.size (.slice a n c) M ∧ OwnTs w' W.heap.size (.slice a' n' c') (opS.res k (opS.res l N T).1 (opS.res l N T).2).2) ∧ Below W.heap.size W w' := by
  obtain ⟨s, hbe, hok, h0⟩ := h
  refine (sgraph_any hbe hok hb).mono fun e w' hP => ?_
  obtain ⟨a, n, c, a', n', c', M, rfl, ⟨r1, r2, r3⟩, hB⟩ := hP
  refine ⟨a, n, c, a', n', c', rfl, fun hz => ?_, hB⟩
  obtain ⟨hk, he⟩ := h0 hz
  rw [← he]
  exact ⟨hk, M, r1, r2, r3⟩
end Go.Proofs.YtikjmingkadjcaaGreatDoor
