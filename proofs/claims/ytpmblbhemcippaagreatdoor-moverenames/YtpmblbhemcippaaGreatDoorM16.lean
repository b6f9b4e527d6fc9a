/-
  The walks of record.Join with one property, and of record.Set.
-/
import Derived.Test.YtpmblbhemcippaaGreatDoorM05
import Derived.Lib.Hide
import Derived.Test.YtpmblbhemcippaaGreatDoorM15
namespace Go.Proofs.YtpmblbhemcippaaGreatDoor
open Go.RowKit
set_option linter.unusedVariables false
set_option linter.unusedSimpArgs false



set_option maxHeartbeats 4000000 in
set_option maxRecDepth 100000 in
theorem merged_nil (b2 o2 : Nat) (p : Pr) (w : World) (hb2 : b2 < w.heap.size) (hp : Lies w b2 o2 [p]) :
    Calls Tryz.prog 142 #[.slice none 0 0, .slice (some ⟨b2, o2, none⟩) 1 1] w fun e w' => ∃ v, e = .returned v ∧ w'.ownsRow w.heap.size 62 4 v (ins p []).length (cellsOf (ins p [])) ∧ Below w.heap.size w w' := by
  obtain ⟨i0, hi0, hz0, hz1, hz2⟩ := info_parts info33
  have HP : Hid (Lies w b2 o2 [p]) := hp
  clear hp
  go_enter Tryz.func142, Tryz.ntmps142
  go_wp2
  go_loopw [0, 1, 5] (fun a bb all wr => a = .slice none 0 0 ∧ bb = .slice (some ⟨b2, o2, none⟩) 1 1 ∧ all = .slice none 0 0 ∧ wr = w) (fun _ _ _ _ => 0)
  case atStart => exact ⟨rfl, rfl, rfl, rfl⟩
  case round =>
    obtain ⟨rfl, rfl, rfl, rfl⟩ := hrel
    go_wp2_with (first
      | (at_builtin; refine wpList_append_own _ rfl (.tmp 52) (.tmp 53) 55 rfl wr.heap.size 62 i0 _ 4 48 Tryz.underlying55 hi0 hz0 hz1 hz2 rfl (by decide) (.slice none 0 0) 0 [] rfl (World.ownsRow_nil _ _ _ _) ⟨b2, o2, none⟩ 1 1 (cellsOf [p]) rfl rfl (lies_cells HP.out) (cellsOf_one [p]) (by decide) (by decide) (Nat.le_refl _) ?_; intro v2 w2 hown2 hgrow2 _))
    go_ret
    refine ⟨v2, rfl, ?_, (Below.refl _ _).grown hgrow2 (Nat.le_refl _) (fun k hk => by cases hk)⟩
    simpa [ins] using hown2

theorem merged_any {v : Value} {L : List Pr} {w : World} (h : IsRec w v L) (hn : L.length ≤ 8) (b2 o2 : Nat) (p : Pr) (hb2 : b2 < w.heap.size) (hp : Lies w b2 o2 [p]) :
    Calls Tryz.prog 142 #[v, .slice (some ⟨b2, o2, none⟩) 1 1] w fun e w' => ∃ v, e = .returned v ∧ w'.ownsRow w.heap.size 62 4 v (ins p L).length (cellsOf (ins p L)) ∧ Below w.heap.size w w' := by
  rcases h with ⟨rfl, rfl⟩ | ⟨b, off, cap, rfl, hc, hb, hl⟩
  · exact merged_nil b2 o2 p w hb2 hp
  · exact merged_some b off cap b2 o2 p L w hb hl hn hc hb2 hp

theorem cellsOf_at {M : List Pr} {k : Nat} {p : Pr} (h : M[k]? = some p) : (cellsOf M)[k * 4]? = some (.string p.nm) ∧ (cellsOf M)[k * 4 + 1]? = some (.int .i64 p.t) ∧ (cellsOf M)[k * 4 + 2]? = some (.int .i64 p.n) ∧ (cellsOf M)[k * 4 + 3]? = some (.string p.s) := by
  induction M generalizing k with
  | nil => simp at h
  | cons a r ih =>
    cases k with
    | zero => simp at h; subst h; simp [cellsOf, Pr.cells]
    | succ k =>
      have := ih (k := k) (by simpa using h)
      have e : ∀ j, (cellsOf (a :: r))[(k + 1) * 4 + j]? = (cellsOf r)[k * 4 + j]? := fun j => by
        rw [show (k + 1) * 4 + j = (k * 4 + j) + 4 by omega]; simp [cellsOf, Pr.cells]
      exact ⟨(e 0).trans this.1, (e 1).trans this.2.1, (e 2).trans this.2.2.1, (e 3).trans this.2.2.2⟩
theorem own_isRec {w : World} {base : Nat} {v : Value} {M : List Pr} (h : w.ownsRow base 62 4 v M.length (cellsOf M)) : IsRec w v M := by
  have hc : ∀ g, v.ownBlock = some g → ∀ j u, (cellsOf M)[j]? = some u → w.cell? ((⟨g, 0, none⟩ : Addr).add j) = some u := fun g hg => h.cells hg
  rcases h.2 with ⟨rfl, h0⟩ | ⟨g, cap, cur, rfl, hb, hg, hle, hcm, hcs, ht⟩
  · exact .inl ⟨rfl, List.eq_nil_of_length_eq_zero h0⟩
  · refine .inr ⟨g, 0, cap, rfl, hle, (Array.getElem?_eq_some_iff.1 hg).1, fun k p hp => ?_⟩
    obtain ⟨c0, c1, c2, c3⟩ := cellsOf_at hp
    have hc' := hc g rfl
    have d0 := hc' _ _ c0
    have d1 := hc' _ _ c1
    have d2 := hc' _ _ c2
    have d3 := hc' _ _ c3
    rw [Addr.add_lit] at d0 d1 d2 d3
    exact ⟨d0, by rw [Nat.add_assoc]; exact d1, by rw [Nat.add_assoc]; exact d2, by rw [Nat.add_assoc]; exact d3⟩

def rsErr (p : Pr) (L : List Pr) : Int := if rErr L = 0 then (if rErr [p] = 0 then (if 8 < (ins p L).length then 4 else 0) else rErr [p]) else rErr L

def SetPost (p : Pr) (L : List Pr) (w : World) (e : Ending) (w' : World) : Prop :=
  ∃ v, e = .returned (.tuple #[v, errV (rsErr p L)]) ∧ (rsErr p L = 0 → w'.ownsRow w.heap.size 62 4 v (ins p L).length (cellsOf (ins p L))) ∧ (¬ rsErr p L = 0 → v = .slice none 0 0) ∧ Below w.heap.size w w'

set_option maxHeartbeats 4000000 in
set_option maxRecDepth 100000 in
theorem join_any {v : Value} {L : List Pr} {w : World} (h : IsRec w v L) (hs : Sz L) (hm : L.length ≤ maxLen) (b2 o2 : Nat) (p : Pr) (hb2 : b2 < w.heap.size) (hp : Lies w b2 o2 [p]) (hsp : Sz [p]) :
    Calls Tryz.prog 122 #[v, .slice (some ⟨b2, o2, none⟩) 1 1] w (SetPost p L w) := by
  have c1 := rcheck_any h hs hm
  have h2 : IsRec w (.slice (some ⟨b2, o2, none⟩) 1 1) [p] := .inr ⟨b2, o2, 1, rfl, Nat.le_refl _, hb2, hp⟩
  by_cases e1 : rErr L = 0
  · rw [e1, errV_0] at c1
    by_cases e2 : rErr [p] = 0
    · have hn := rErr_len e1
      by_cases e3 : 8 < (ins p L).length
      · have es : rsErr p L = 4 := by unfold rsErr; rw [if_pos e1, if_pos e2, if_pos e3]
        have HE : Hid (rsErr p L = 4) := es
        have H2 : Hid (IsRec w v L ∧ L.length ≤ 8 ∧ Lies w b2 o2 [p] ∧ IsRec w (.slice (some ⟨b2, o2, none⟩) 1 1) [p] ∧ Sz [p] ∧ rErr [p] = 0) := ⟨h, hn, hp, h2, hsp, e2⟩
        have hM9 : (ins p L).length ≤ 9 := by have := ins_len p L; omega
        have hcast : (8 : Int) < ((ins p L).length : Int) := by omega
        clear es e1 h2 h hp hs hm hsp e2 hn
        go_enter Tryz.func122, Tryz.ntmps122
        go_wp2_with (go_at_call 32; refine c1.mono ?_; rintro e W1 ⟨rfl, hB1⟩; refine Hid.out ?_)
        refine Lib.hid ?_
        have c2 := rcheck_any (H2.out.2.2.2.1.on hB1) H2.out.2.2.2.2.1 (by simp [maxLen])
        rw [H2.out.2.2.2.2.2, errV_0] at c2
        go_wp2_with (go_at_call 32; refine c2.mono ?_; rintro e W2 ⟨rfl, hB2⟩; refine Hid.out ?_)
        refine Lib.hid ?_
        have hB := on1 hB1 hB2
        have c3 := merged_any (H2.out.1.on hB) H2.out.2.1 b2 o2 p (Nat.lt_of_lt_of_le hb2 hB.size) (H2.out.2.2.1.on hb2 hB)
        clear c1 c2
        go_wp2_with (go_at_call 142; refine c3.mono ?_; rintro e W3 ⟨v3, rfl, hO, hB3⟩; obtain ⟨ao, cp, rfl⟩ := own_slice hO)
        go_ret2
        exact ⟨.slice none 0 0, ret_v (by rw [HE.out]; rfl), fun h => absurd h (by rw [HE.out]; decide), fun _ => rfl, on1 hB hB3⟩
      · have es : rsErr p L = 0 := by unfold rsErr; rw [if_pos e1, if_pos e2, if_neg e3]
        have HE : Hid (rsErr p L = 0) := es
        have H2 : Hid (IsRec w v L ∧ L.length ≤ 8 ∧ Lies w b2 o2 [p] ∧ IsRec w (.slice (some ⟨b2, o2, none⟩) 1 1) [p] ∧ Sz [p] ∧ rErr [p] = 0) := ⟨h, hn, hp, h2, hsp, e2⟩
        have hcast : ((ins p L).length : Int) ≤ 8 := by omega
        clear es e1 h2 h hp hs hm hsp e2 hn e3
        go_enter Tryz.func122, Tryz.ntmps122
        go_wp2_with (go_at_call 32; refine c1.mono ?_; rintro e W1 ⟨rfl, hB1⟩; refine Hid.out ?_)
        refine Lib.hid ?_
        have c2 := rcheck_any (H2.out.2.2.2.1.on hB1) H2.out.2.2.2.2.1 (by simp [maxLen])
        rw [H2.out.2.2.2.2.2, errV_0] at c2
        go_wp2_with (go_at_call 32; refine c2.mono ?_; rintro e W2 ⟨rfl, hB2⟩; refine Hid.out ?_)
        refine Lib.hid ?_
        have hB := on1 hB1 hB2
        have c3 := merged_any (H2.out.1.on hB) H2.out.2.1 b2 o2 p (Nat.lt_of_lt_of_le hb2 hB.size) (H2.out.2.2.1.on hb2 hB)
        clear c1 c2
        go_wp2_with (go_at_call 142; refine c3.mono ?_; rintro e W3 ⟨v3, rfl, hO, hB3⟩; obtain ⟨ao, cp, rfl⟩ := own_slice hO)
        go_ret2
        exact ⟨_, ret_v (by rw [HE.out]; rfl), fun _ => own_base hO hB.size, fun h => absurd HE.out h, on1 hB hB3⟩
    · have es : rsErr p L = rErr [p] := by unfold rsErr; rw [if_pos e1, if_neg e2]
      have HE : Hid (rsErr p L = rErr [p] ∧ ¬ rErr [p] = 0) := ⟨es, e2⟩
      have H2 : Hid (IsRec w (.slice (some ⟨b2, o2, none⟩) 1 1) [p] ∧ Sz [p]) := ⟨h2, hsp⟩
      clear es e1 h2 h hp hs hm hsp e2
      go_enter Tryz.func122, Tryz.ntmps122
      go_wp2_with (go_at_call 32; refine c1.mono ?_; rintro e W1 ⟨rfl, hB1⟩; refine Hid.out ?_)
      refine Lib.hid ?_
      have c2 := rcheck_any (H2.out.1.on hB1) H2.out.2 (by simp [maxLen])
      rw [errV_ne HE.out.2] at c2
      clear c1
      go_wp2_with (go_at_call 32; refine c2.mono ?_; rintro e W2 ⟨rfl, hB2⟩)
      go_ret2
      exact ⟨.slice none 0 0, ret_v (by rw [HE.out.1, errV_ne HE.out.2]; rfl), fun h => absurd h (by rw [HE.out.1]; exact HE.out.2), fun _ => rfl, on1 hB1 hB2⟩
  · have es : rsErr p L = rErr L := by unfold rsErr; rw [if_neg e1]
    have HE : Hid (rsErr p L = rErr L ∧ ¬ rErr L = 0) := ⟨es, e1⟩
    rw [errV_ne e1] at c1
    have H : Hid (∀ w, IsRec w v L → True) := fun _ _ => trivial
    clear es e1 h2 h hp hs hm
    go_enter Tryz.func122, Tryz.ntmps122
    go_wp2_with (first | (go_at_call 32; refine c1.mono ?_; rintro e W1 ⟨rfl, hB1⟩))
    go_ret2
    exact ⟨.slice none 0 0, ret_v (by rw [HE.out.1, errV_ne HE.out.2]; rfl), fun h => absurd h (by rw [HE.out.1]; exact HE.out.2), fun _ => rfl, hB1⟩



theorem lies_new (w0 : World) (p : Pr) : Lies (w0.alloc (.cells #[.string p.nm, .int .i64 p.t, .int .i64 p.n, .string p.s] 62)) w0.heap.size 0 [p] := by
  intro k q hq
  match k, hq with
  | 0, hq => simp at hq; subst hq; simp
  | k + 1, hq => simp at hq

set_option maxHeartbeats 4000000 in
set_option maxRecDepth 100000 in
theorem set_any {v : Value} {L : List Pr} {w : World} (h : IsRec w v L) (hs : Sz L) (hm : L.length ≤ maxLen) (p : Pr) (hsp : Sz [p]) :
    Calls Tryz.prog 84 #[v, p.one] w (SetPost p L w) := by
  have hB0 : Below w.heap.size w ((w.alloc (.cells #[.string p.nm, .int .i64 p.t, .int .i64 p.n, .string p.s] 62)).alloc (.cells #[.string p.nm, .int .i64 p.t, .int .i64 p.n, .string p.s] 62)) := b_alloc (b_alloc (Below.refl _ _) _) _
  have c := join_any (h.on hB0) hs hm (w.alloc (.cells #[.string p.nm, .int .i64 p.t, .int .i64 p.n, .string p.s] 62)).heap.size 0 p (by simp) (lies_new _ p) hsp
  have H : Hid (IsRec w v L) := h
  clear h hs hm hsp
  go_enter Tryz.func84, Tryz.ntmps84
  rw [show (w.alloc (.cells #[.string p.nm, .int .i64 p.t, .int .i64 p.n, .string p.s] 62)).heap.size = w.heap.size + 1 from by simp] at c
  go_wp2_with (go_at_call 122; refine c.mono ?_; rintro e W1 ⟨v1, rfl, h1, h2, hB1⟩)
  go_ret2
  exact ⟨v1, rfl, fun e => own_base (h1 e) (by simp; omega), h2, hB0.trans (hB1.mono (by simp; omega))⟩

end Go.Proofs.YtpmblbhemcippaaGreatDoor

/-
  What becomes of a record with a change, in plain functions; move.give, move.rename, and the three functions that turnOf makes.
-/
namespace Go.Proofs.YtpmblbhemcippaaGreatDoor
open Go.RowKit
set_option linter.unusedVariables false
set_option linter.unusedSimpArgs false

section
variable {α : Type}
theorem srt_ext {r : α → α → Prop} (ha : ∀ a b, r a b → ¬ r b a) : ∀ {l m : List α}, l.Pairwise r → m.Pairwise r → (∀ x, x ∈ l ↔ x ∈ m) → l = m
  | [], [], _, _, _ => rfl
  | [], b :: m, _, _, h => by have := (h b).2 (List.mem_cons_self ..); cases this
  | a :: l, [], _, _, h => by have := (h a).1 (List.mem_cons_self ..); cases this
  | a :: l, b :: m, hl, hm, h => by
    obtain ⟨l1, l2⟩ := List.pairwise_cons.1 hl
    obtain ⟨m1, m2⟩ := List.pairwise_cons.1 hm
    have hab : a = b := by
      rcases List.mem_cons.1 ((h a).1 (List.mem_cons_self ..)) with e | e
      · exact e
      · rcases List.mem_cons.1 ((h b).2 (List.mem_cons_self ..)) with e' | e'
        · exact e'.symm
        · exact absurd (m1 a e) (ha _ _ (l1 b e'))
    subst hab
    have hx : ∀ x, r a x → x ≠ a := fun x hr e => by subst e; exact ha _ _ hr hr
    rw [srt_ext ha l2 m2 (fun x => ⟨fun hh => ?_, fun hh => ?_⟩)]
    · rcases List.mem_cons.1 ((h x).1 (List.mem_cons_of_mem _ hh)) with e | e
      · exact absurd e (hx x (l1 x hh))
      · exact e
    · rcases List.mem_cons.1 ((h x).2 (List.mem_cons_of_mem _ hh)) with e | e
      · exact absurd e (hx x (m1 x hh))
      · exact e

end
theorem ins_perm {p : Pr} : ∀ {L : List Pr}, (∀ q ∈ L, (q.nm.toList == p.nm.toList) = false) → (ins p L).Perm (p :: L)
  | [], _ => .refl _
  | a :: r, h => by
    unfold ins
    split
    · exact ((ins_perm fun q hq => h q (List.mem_cons_of_mem _ hq)).cons a).trans (List.Perm.swap _ _ _)
    · rw [if_neg (by rw [h a (List.mem_cons_self ..)]; decide)]
theorem ins_pw {p : Pr} : ∀ {L : List Pr}, (L.Pairwise fun a b => a.lt b = true) → (∀ q ∈ L, (q.nm.toList == p.nm.toList) = false) → (ins p L).Pairwise fun a b => a.lt b = true
  | [], _, _ => by simp [ins]
  | a :: r, hp, h => by
    obtain ⟨h1, h2⟩ := List.pairwise_cons.1 hp
    have ha := h a (List.mem_cons_self ..)
    unfold ins
    split
    · rename_i hlt
      refine List.pairwise_cons.2 ⟨fun q hq => ?_, ins_pw h2 fun q hq => h q (List.mem_cons_of_mem _ hq)⟩
      rcases ins_mem p r q hq with rfl | hq
      · exact hlt
      · exact h1 q hq
    · rename_i hlt
      rw [if_neg (by rw [ha]; decide)]
      have hpa : p.lt a = true := not_lt_eq hlt (by rw [ha]; decide)
      refine List.pairwise_cons.2 ⟨fun q hq => ?_, hp⟩
      rcases List.mem_cons.1 hq with rfl | hq
      · exact hpa
      · exact lt_trans hpa (h1 q hq)
theorem set_perm {α : Type} (p : α) : ∀ (L : List α) (k : Nat), k < L.length → (L.set k p).Perm (p :: L.eraseIdx k)
  | [], k, h => by simp at h
  | a :: r, 0, _ => by simp
  | a :: r, k + 1, h => by
    simp only [List.set_cons_succ, List.eraseIdx_cons_succ]
    exact ((set_perm p r k (by simpa using h)).cons a).trans (List.Perm.swap _ _ _)
theorem resorted {L M : List Pr} {k : Nat} {p' : Pr} (hs : L.Pairwise fun a b => a.lt b = true) (hk : k < L.length) (hn : ∀ q ∈ L, (q.nm.toList == p'.nm.toList) = false) (hp : M.Perm (L.set k p')) (hM : M.Pairwise (fun x y => ¬ cfP y x < 0)) : M = ins p' (L.eraseIdx k) := by
  have hsub : (L.eraseIdx k).Sublist L := List.eraseIdx_sublist L k
  have hne : ∀ q ∈ L.eraseIdx k, (q.nm.toList == p'.nm.toList) = false := fun q hq => hn q (hsub.subset hq)
  have hpw := ins_pw (hs.sublist hsub) hne
  have hpi : (ins p' (L.eraseIdx k)).Perm M := (ins_perm hne).trans ((set_perm p' L k hk).symm.trans hp.symm)
  have hsym : ∀ {x y : Pr}, ¬ x.nm.toList = y.nm.toList → ¬ y.nm.toList = x.nm.toList := fun h e => h e.symm
  have hd1 : (ins p' (L.eraseIdx k)).Pairwise fun x y => ¬ x.nm.toList = y.nm.toList := hpw.imp fun h => lt_ne h
  have hd : M.Pairwise fun x y => ¬ x.nm.toList = y.nm.toList := (hpi.pairwise_iff hsym).1 hd1
  have hMl : M.Pairwise fun a b => a.lt b = true := (List.Pairwise.and hM hd).imp (fun {x y} h => by
    refine not_lt_eq (fun hl => h.1 ?_) (by simpa using hsym h.2)
    have := (lt_iff y x).1 hl
    unfold cfP
    rw [← Lib.toList_data, ← Lib.toList_data]
    exact this)
  exact srt_ext (fun a b hab => lt_asym hab) hMl hpw (fun x => hpi.symm.mem_iff)
def rnR (L : List Pr) (o t : ByteArray) : List Pr :=
  if idxP o.toList L 0 = -1 then L else if idxP t.toList L 0 = -1 then (match L[(idxP o.toList L 0).toNat]? with
    | some p => ins ⟨t, p.t, p.n, p.s⟩ (L.eraseIdx (idxP o.toList L 0).toNat)
    | none => L) else L
def gvE (p : Pr) (L : List Pr) : Int := if p.t = 0 then 0 else if idxP p.nm.toList L 0 = -1 then rsErr p L else 0
def gvR (p : Pr) (L : List Pr) : List Pr := if p.t = 0 then L else if idxP p.nm.toList L 0 = -1 then ins p L else L
theorem set_id {xs : List Value} {j : Nat} {b : Value} (h : xs[j]? = some b) : xs.set j b = xs := by
  apply List.ext_getElem?
  intro i
  rw [List.getElem?_set]
  split
  · rename_i e
    subst e
    split
    · exact h.symm
    · rw [List.getElem?_eq_none (by omega)]
  · rfl
theorem cellsR_name (L : List Pr) (k : Nat) (p : Pr) (t : ByteArray) (hk : L[k]? = some p) : (cellsR L).set (k * 4) (.string t) = cellsR (L.set k ⟨t, p.t, p.n, p.s⟩) := by
  have hkl := (List.getElem?_eq_some_iff.1 hk).1
  rw [← cellsR_set L k hkl]
  have f : ∀ i u, i < 4 → i ≠ 0 → p.cells[i]? = some u → ((cellsR L).set (k * 4) (.string t))[k * 4 + i]? = some u := fun i u hi h0 hu => by
    rw [List.getElem?_set_ne (by omega)]
    exact (flatK pr_len L k p i hk hi).trans hu
  rw [set_id (f 1 _ (by omega) (by omega) rfl), set_id (f 2 _ (by omega) (by omega) rfl), set_id (f 3 _ (by omega) (by omega) rfl)]

set_option maxHeartbeats 4000000 in
set_option maxRecDepth 100000 in
theorem mrename_any {w : World} {base : Nat} {v : Value} {L : List Pr} (h : OwnRc w base v L) (hr : rErr L = 0) (o t : ByteArray) (hbase : base ≤ w.heap.size) :
    Calls Tryz.prog 57 #[v, .string o, .string t] w fun e w' => ∃ v', e = .returned v' ∧ OwnRc w' base v' (rnR L o t) ∧ Below base w w' := by
  obtain ⟨hsrt, h8⟩ := (rErr_srt L).1 hr
  have c1 := mfind_any h.isR h8 o
  have c2 := fun W (hB : Below w.heap.size w W) => mfind_any (h.isR.on hB) h8 t
  have HO := Lib.hid h
  obtain ⟨ao, cp, rfl⟩ := own_slice h
  rcases idxP_spec3 o L 0 with ⟨e1, _⟩ | ⟨k, p, hk, e1, hpk, _⟩
  · have er : rnR L o t = L := by unfold rnR; rw [if_pos e1]
    rw [er]
    rw [e1] at c1
    clear h c2 er e1 hr hsrt h8
    go_enter Tryz.func57, Tryz.ntmps57
    go_wp2_with (go_at_call 83; refine c1.mono ?_; rintro e W1 ⟨rfl, hB1⟩)
    go_ret
    exact ⟨_, rfl, OwnRc.kt HO.out (.of_below hB1), hB1.mono hbase⟩
  · rw [show ((0 + k : Nat) : Int) = (k : Int) by simp] at e1
    have hkl := (List.getElem?_eq_some_iff.1 hk).1
    have hk0 : ¬ (k : Int) < 0 := by omega
    rcases idxP_spec3 t L 0 with ⟨e2, hnt⟩ | ⟨j, q, hj, e2, _, _⟩
    · rw [e1] at c1
      have er : rnR L o t = ins ⟨t, p.t, p.n, p.s⟩ (L.eraseIdx k) := by
        unfold rnR
        rw [if_neg (by rw [e1]; omega), if_pos e2, e1, Int.toNat_natCast, hk]
      rw [er]
      obtain ⟨g, hg, hao⟩ : ∃ g, g < w.heap.size ∧ ao = some ⟨g, 0, none⟩ := by
        rcases h.2 with ⟨_, h0⟩ | ⟨g, cap, cur, e, _, hg, _⟩
        · omega
        · injection e with e; exact ⟨g, (Array.getElem?_eq_some_iff.1 hg).1, e⟩
      subst hao
      have HF : Hid (∀ W1 W2, Below w.heap.size w W1 → Below W1.heap.size W1 W2 → W2.cell? ⟨g, k * 4, none⟩ = some (.string p.nm) ∧ W2.frozen? ⟨g, k * 4, none⟩ = false ∧ OwnRc (W2.setCell ⟨g, k * 4, none⟩ (.string t)) base (.slice (some ⟨g, 0, none⟩) L.length cp) (L.set k ⟨t, p.t, p.n, p.s⟩) ∧ Below base w (W2.setCell ⟨g, k * 4, none⟩ (.string t))) := fun W1 W2 hB1 hB2 => by
        have hB := on1K hB1 hB2 (Nat.le_refl _)
        have o2 := OwnRc.kt HO.out (.of_below hB)
        have hc := World.ownsRow.cells o2 rfl (k * 4) (.string p.nm) ((flatK pr_len L k p 0 hk (by omega)).trans rfl)
        rw [Addr.add_lit, Nat.zero_add] at hc
        obtain ⟨s1, g1⟩ := World.ownsRow.stored o2 (k * 4) (.string t)
        rw [cellsR_name L k p t hk] at s1
        refine ⟨hc, World.ownsRow.frozenAt o2 _, ?_, below_grown (hB.mono hbase) g1 (Nat.le_trans hbase hB.size) (fun b hb => (World.ownsRow.lt o2 b hb).1)⟩
        unfold OwnRc
        rw [List.length_set]
        exact s1
      have HS : Hid (∀ W, OwnRc W base (.slice (some ⟨g, 0, none⟩) L.length cp) (L.set k ⟨t, p.t, p.n, p.s⟩) → Calls Tryz.prog 87 #[.slice (some ⟨g, 0, none⟩) L.length cp, .func (.func 88) #[] #[]] W fun e w' => e = .returned (.tuple #[]) ∧ OwnRc w' base (.slice (some ⟨g, 0, none⟩) L.length cp) (ins ⟨t, p.t, p.n, p.s⟩ (L.eraseIdx k)) ∧ W.grownBy w' (Value.slice (some ⟨g, 0, none⟩) L.length cp).ownBlock) := fun W ho => (sortP_any _ ho (by rw [List.length_set]; omega)).mono fun e w' ⟨he, M, m1, m2, m3, m4⟩ => ⟨he, by
        rw [resorted (p' := ⟨t, p.t, p.n, p.s⟩) hsrt.2 hkl (fun q hq => hnt q hq) m1 m2] at m3
        exact m3, m4⟩
      have hki : (k : Int) < (L.length : Int) := by omega
      rw [e2] at c2
      clear h er e1 e2 hr hsrt h8 hnt hk hpk
      go_enter Tryz.func57, Tryz.ntmps57
      go_wp2_with (go_at_call 83; refine c1.mono ?_; rintro e W1 ⟨rfl, hB1⟩; refine Hid.out ?_)
      refine Lib.hid ?_
      have c2' := c2 W1 hB1
      have HB1 := Lib.hid hB1
      clear c1 c2 hB1
      go_wp2_with (first | (go_at_call 83; refine c2'.mono ?_; rintro e W2 ⟨rfl, hB2⟩; obtain ⟨x1, x2, x3, x4⟩ := HF.out W1 W2 HB1.out hB2; have cS := HS.out _ x3; have HX := Lib.hid (And.intro x3 x4); clear x3 x4 hB2) | (go_at_call 87; refine cS.mono ?_; rintro e W3 ⟨rfl, h3, hg3⟩))
      go_ret
      obtain ⟨x3, x4⟩ := HX.out
      exact ⟨_, rfl, h3, below_grown x4 hg3 (Nat.le_trans hbase x4.size) (fun b hb => (World.ownsRow.lt x3 b hb).1)⟩
    · rw [show ((0 + j : Nat) : Int) = (j : Int) by simp] at e2
      have er : rnR L o t = L := by unfold rnR; rw [if_neg (by rw [e1]; omega), if_neg (by rw [e2]; omega)]
      rw [er]
      rw [e1] at c1
      rw [e2] at c2
      have hj0 : (0 : Int) ≤ (j : Int) := by omega
      have hj1 : decide ((0 : Int) ≤ (j : Int)) = true := by simp
      clear h er e1 e2 hr hsrt h8 hk hpk hj
      go_enter Tryz.func57, Tryz.ntmps57
      go_wp2_with (go_at_call 83; refine c1.mono ?_; rintro e W1 ⟨rfl, hB1⟩; refine Hid.out ?_)
      refine Lib.hid ?_
      have c2' := c2 W1 hB1
      clear c1 c2
      go_wp2_with (first | (go_at_call 83; refine c2'.mono ?_; rintro e W2 ⟨rfl, hB2⟩))
      go_ret
      have hB := on1K hB1 hB2 (Nat.le_refl _)
      exact ⟨_, rfl, OwnRc.kt HO.out (.of_below hB), hB.mono hbase⟩

def TnP (base : Nat) (w : World) (z : Int) (M : List Pr) (e : Ending) (w' : World) : Prop := ∃ a l c, e = .returned (.tuple #[.slice a l c, errV z]) ∧ (z = 0 → OwnRc w' base (.slice a l c) M) ∧ Below base w w'
set_option maxHeartbeats 4000000 in
set_option maxRecDepth 100000 in
theorem mgive_any {w : World} {base : Nat} {v : Value} {L : List Pr} (h : OwnRc w base v L) (hr : rErr L = 0) (p : Pr) (hp : Sz [p]) (hbase : base ≤ w.heap.size) :
    Calls Tryz.prog 53 #[v, p.one] w (TnP base w (gvE p L) (gvR p L)) := by
  obtain ⟨hsrt, h8⟩ := (rErr_srt L).1 hr
  obtain ⟨nm, t, n, s⟩ := p
  obtain ⟨W0, hW0⟩ : ∃ W0, W0 = w.alloc (.cells #[.string nm, .int .i64 t, .int .i64 n, .string s] 62) := ⟨_, rfl⟩
  have hB0 : Below w.heap.size w W0 := by rw [hW0]; exact b_alloc (Below.refl _ _) _
  have n0 : W0.heap[w.heap.size]? = some (.cells #[.string nm, .int .i64 t, .int .i64 n, .string s] 62 (0, 0)) := by rw [hW0]; exact heap_alloc_new w _
  have c1 := mfind_any (h.isR.on hB0) h8 nm
  have HO := Lib.hid h
  have HS : Hid (∀ W, Below W0.heap.size W0 W → (W.cell? ⟨w.heap.size, 0, none⟩ = some (.string nm) ∧ W.cell? ⟨w.heap.size, 1, none⟩ = some (.int .i64 t) ∧ W.cell? ⟨w.heap.size, 2, none⟩ = some (.int .i64 n) ∧ W.cell? ⟨w.heap.size, 3, none⟩ = some (.string s)) ∧ Below w.heap.size w W ∧ Calls Tryz.prog 84 #[v, .agg #[.string nm, .int .i64 t, .int .i64 n, .string s]] W (SetPost ⟨nm, t, n, s⟩ L W)) := fun W hB => by
    have hx := (hB.block _ (Array.getElem?_eq_some_iff.1 n0).1).trans n0
    have hw := on1K hB0 hB (Nat.le_refl _)
    exact ⟨⟨cell_at hx rfl, cell_at hx rfl, cell_at hx rfl, cell_at hx rfl⟩, hw, set_any (own_isRec (OwnRc.kt h (.of_below hw))) (sz_of hr) (by unfold maxLen; omega) ⟨nm, t, n, s⟩ hp⟩
  obtain ⟨ao, cp, rfl⟩ := own_slice h
  have d0 : W0.cell? ⟨w.heap.size, 0, none⟩ = some (.string nm) := cell_at n0 rfl
  have d1 : W0.cell? ⟨w.heap.size, 1, none⟩ = some (.int .i64 t) := cell_at n0 rfl
  by_cases ht : t = 0
  · have e1 : gvE ⟨nm, t, n, s⟩ L = 0 := by unfold gvE; rw [if_pos ht]
    have e2 : gvR ⟨nm, t, n, s⟩ L = L := by unfold gvR; rw [if_pos ht]
    rw [e1, e2]
    have HB := Lib.hid hB0
    have htb : (t == 0) = true := by simpa using ht
    clear h c1 HS hB0 n0 e1 e2 ht hr hsrt h8 d0
    go_enter Tryz.func53, Tryz.ntmps53
    go_upto_region 1 with fail
    rw [← hW0]
    clear hW0
    go_wp2
    go_ret2
    exact ⟨_, _, _, rfl, fun _ => OwnRc.kt HO.out (.of_below HB.out), HB.out.mono hbase⟩
  · have htb : (t == 0) = false := by simpa using ht
    rcases idxP_spec3 nm L 0 with ⟨e1, _⟩ | ⟨k, q, hk, e1, _, _⟩
    · have g1 : gvE ⟨nm, t, n, s⟩ L = rsErr ⟨nm, t, n, s⟩ L := by unfold gvE; rw [if_neg ht, if_pos e1]
      have g2 : gvR ⟨nm, t, n, s⟩ L = ins ⟨nm, t, n, s⟩ L := by unfold gvR; rw [if_neg ht, if_pos e1]
      rw [g1, g2]
      rw [e1] at c1
      unfold SetPost at HS
      generalize rsErr ⟨nm, t, n, s⟩ L = z at *
      generalize ins ⟨nm, t, n, s⟩ L = M at *
      clear h hB0 n0 e1 g1 g2 ht hr hsrt h8
      go_enter Tryz.func53, Tryz.ntmps53
      go_upto_region 1 with fail
      rw [← hW0]
      clear hW0
      go_wp2_with (first | (go_at_call 84; refine cS.mono ?_; rintro e W2 ⟨v2, rfl, h2, h3, hB2⟩; refine Hid.out ?_) | (go_at_call 83; refine c1.mono ?_; rintro e W1 ⟨rfl, hB1⟩; obtain ⟨⟨x0, x1, x2, x3⟩, hBw, cS⟩ := HS.out W1 hB1; have HBw := Lib.hid hBw; clear hBw hB1))
      refine Lib.hid ?_
      obtain ⟨a2, l2, c2, hv⟩ : ∃ a l c, v2 = .slice a l c := by
        by_cases hz : z = 0
        · obtain ⟨a, c, e⟩ := own_slice (h2 hz); exact ⟨a, _, c, e⟩
        · exact ⟨none, 0, 0, h3 hz⟩
      subst hv
      have HR := Lib.hid (And.intro h2 hB2)
      clear h2 h3 hB2 cS
      go_wp2
      go_ret2
      exact ⟨a2, l2, c2, rfl, fun hz => own_base (HR.out.1 hz) (Nat.le_trans hbase HBw.out.size), (on1K HBw.out HR.out.2 (Nat.le_refl _)).mono hbase⟩
    · rw [show ((0 + k : Nat) : Int) = (k : Int) by simp] at e1
      have g1 : gvE ⟨nm, t, n, s⟩ L = 0 := by unfold gvE; rw [if_neg ht, if_neg (by rw [e1]; omega)]
      have g2 : gvR ⟨nm, t, n, s⟩ L = L := by unfold gvR; rw [if_neg ht, if_neg (by rw [e1]; omega)]
      rw [g1, g2]
      rw [e1] at c1
      have hj0 : (0 : Int) ≤ (k : Int) := by omega
      have hj1 : decide ((0 : Int) ≤ (k : Int)) = true := by simp
      have HB := Lib.hid hB0
      clear h hB0 n0 e1 g1 g2 ht hr hsrt h8 HS hk
      go_enter Tryz.func53, Tryz.ntmps53
      go_upto_region 1 with fail
      rw [← hW0]
      clear hW0
      go_wp2_with (first | (go_at_call 83; refine c1.mono ?_; rintro e W1 ⟨rfl, hB1⟩))
      go_ret2
      have hB := on1K HB.out hB1 (Nat.le_refl _)
      exact ⟨_, _, _, rfl, fun _ => OwnRc.kt HO.out (.of_below hB), hB.mono hbase⟩
set_option maxHeartbeats 1000000 in
theorem turn3_any {w : World} {base : Nat} {v : Value} {L : List Pr} (h : OwnRc w base v L) (hr : rErr L = 0) (p : Pr) (hp : Sz [p]) (hbase : base ≤ w.heap.size) (bn bv : Nat) (hn : w.cell? ⟨bn, 0, none⟩ = some (.string p.nm)) (hv0 : w.cell? ⟨bv, 0, none⟩ = some (.int .i64 p.t)) (hv1 : w.cell? ⟨bv, 1, none⟩ = some (.int .i64 p.n)) (hv2 : w.cell? ⟨bv, 2, none⟩ = some (.string p.s)) :
    Calls Tryz.prog 52 #[v, .pointer (some ⟨bn, 0, none⟩), .pointer (some ⟨bv, 0, none⟩)] w (TnP base w (gvE p L) (gvR p L)) := by
  have c := mgive_any h hr p hp hbase
  obtain ⟨ao, cp, rfl⟩ := own_slice h
  obtain ⟨nm, t, n, s⟩ := p
  simp only at hn hv0 hv1 hv2
  clear h hr hp
  generalize gvE ⟨nm, t, n, s⟩ L = z at *
  generalize gvR ⟨nm, t, n, s⟩ L = M at *
  unfold TnP at *
  go_enter Tryz.func52, Tryz.ntmps52
  go_wp2_with (go_at_call 53; refine c.mono ?_; rintro e w1 ⟨a1, l1, c1, rfl, h1, h2⟩)
  go_ret2
  exact ⟨a1, l1, c1, rfl, h1, h2⟩
set_option maxHeartbeats 1000000 in
theorem turn4_any {w : World} {base : Nat} {v : Value} {L : List Pr} (h : OwnRc w base v L) (hr : rErr L = 0) (nm : ByteArray) (hbase : base ≤ w.heap.size) (bn : Nat) (hn : w.cell? ⟨bn, 0, none⟩ = some (.string nm)) :
    Calls Tryz.prog 54 #[v, .pointer (some ⟨bn, 0, none⟩)] w (TnP base w 0 (L.filter (keepP nm))) := by
  have c := mdrop_any h ((rErr_srt L).1 hr).2 nm hbase
  obtain ⟨ao, cp, rfl⟩ := own_slice h
  clear h hr
  go_enter Tryz.func54, Tryz.ntmps54
  go_wp2_with (go_at_call 55; refine c.mono ?_; rintro e w1 ⟨v1, rfl, h1, h2⟩; obtain ⟨a1, c1, rfl⟩ := own_slice h1)
  go_ret2
  exact ⟨a1, _, c1, rfl, fun _ => h1, h2⟩
set_option maxHeartbeats 1000000 in
theorem turn7_any {w : World} {base : Nat} {v : Value} {L : List Pr} (h : OwnRc w base v L) (hr : rErr L = 0) (nm tn : ByteArray) (hbase : base ≤ w.heap.size) (bn bt : Nat) (hn : w.cell? ⟨bn, 0, none⟩ = some (.string nm)) (ht : w.cell? ⟨bt, 0, none⟩ = some (.string tn)) :
    Calls Tryz.prog 56 #[v, .pointer (some ⟨bn, 0, none⟩), .pointer (some ⟨bt, 0, none⟩)] w (TnP base w 0 (rnR L nm tn)) := by
  have c := mrename_any h hr nm tn hbase
  obtain ⟨ao, cp, rfl⟩ := own_slice h
  clear h hr
  generalize rnR L nm tn = M at *
  go_enter Tryz.func56, Tryz.ntmps56
  go_wp2_with (go_at_call 57; refine c.mono ?_; rintro e w1 ⟨v1, rfl, h1, h2⟩; obtain ⟨a1, c1, rfl⟩ := own_slice h1)
  go_ret2
  exact ⟨a1, _, c1, rfl, fun _ => h1, h2⟩
end Go.Proofs.YtpmblbhemcippaaGreatDoor
