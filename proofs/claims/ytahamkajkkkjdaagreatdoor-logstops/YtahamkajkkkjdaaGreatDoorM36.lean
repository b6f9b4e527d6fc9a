import Derived.Test.YtahamkajkkkjdaaGreatDoorM35
import Derived.Test.YtahamkajkkkjdaaGreatDoorM24
import Derived.Test.YtahamkajkkkjdaaGreatDoorM05
import Derived.Test.YtahamkajkkkjdaaGreatDoorM09
import Derived.Test.YtahamkajkkkjdaaGreatDoorM23
namespace Go.Proofs.YtahamkajkkkjdaaGreatDoor
open Go.RowKit
set_option linter.unusedVariables false
set_option linter.unusedSimpArgs false
theorem szK_lg {K L : List Kd} (h : K.map kq3 = L.map kq3) (hz : SzK L) : SzK K := fun k hk => by
  have : kq3 k ∈ L.map kq3 := by rw [← h]; exact List.mem_map.2 ⟨k, hk, rfl⟩
  obtain ⟨k', hk', e⟩ := List.mem_map.1 this
  have e1 : k'.nm = k.nm := congrArg (·.1) e
  have e2 : k'.fs = k.fs := congrArg (·.2.2) e
  rw [← e1, ← e2]
  exact hz k' hk'
theorem sc_isSc {w : World} {base : Nat} {vk vb : Value} {K L : List Kd} {B : List Bd} (h : K.map kq3 = L.map kq3) (h1 : OwnKs w base vk K) (h2 : OwnBs w base vb B) (hz : SzK L) (hzb : SzB B) : IsSc w (.agg #[vk, vb]) K B :=
  ⟨vk, vb, rfl, own_isK h1.1, fun k hk => ⟨own_isS (h1.2 k hk).1, own_isF (h1.2 k hk).2⟩, szK_lg h hz, own_isB h2, hzb⟩
abbrev csP (vl : Value) : Array Value := #[.bool false, vl, .int .i64 0, .string ⟨#[]⟩, .string ⟨#[]⟩, .slice none 0 0, .slice none 0 0, .string ⟨#[]⟩, .string ⟨#[]⟩, .string ⟨#[]⟩, .int .i64 0, .int .i64 0, .string ⟨#[]⟩, .int .i64 0, .bool false, .bool false, .int .i64 0, .int .i64 0, .string ⟨#[]⟩, .string ⟨#[]⟩]
structure OpsOk (O : List Opx) : Prop where
  z : ∀ o ∈ O, OpSz o
  i : ∀ o ∈ O, OpI o
  l : O.length ≤ 40
def putS (s : Lg) (O : List Opx) : Int × Lg := stepS s (putE s.L s.B O s.N s.T) (recL (encE0 O)) s.L s.B (opS.res O s.N s.T).1 (opS.res O s.N s.T).2
theorem encE0_pos (O : List Opx) : 1 ≤ (encE0 O).length := by
  unfold encE0 encB
  rw [List.length_append]
  have := encN_pos (if false = true then 1 else 0)
  omega
theorem recL_two (O : List Opx) : 2 ≤ (recL (encE0 O)).length := by
  have := encE0_pos O
  have := encN_pos ((encE0 O).length : Int)
  unfold recL encT
  rw [List.length_append]
  omega
set_option maxHeartbeats 8000000 in
set_option maxRecDepth 100000 in
theorem lput_at {w : World} {base p : Nat} {s : Lg} {vl : Value} {O : List Opx} (h : LgAt w base p s) (hok : LgOk s) (hO : IsO w vl O) (hk : OpsOk O) (hE : Env w) (hz : s.bs.length + (recL (encE0 O)).length ≤ 1000000000) :
    Calls Tryz.prog 6 #[.pointer (some ⟨p, 0, none⟩), vl] w fun e w' => e = .returned (errV (putS s O).1) ∧ LgAt w' base p (putS s O).2 ∧ FrL base w w' := by
  obtain ⟨vk0, vb0, vk, vb, vn, vt, vy, hp, hbp, h0, h1, h2, hy⟩ := h
  have hlt : p < w.heap.size := (Array.getElem?_eq_some_iff.1 hp).1
  obtain ⟨K, e1, hK, hB⟩ := id h1
  obtain ⟨M, e2, hM, hT, hg⟩ := id h2
  obtain ⟨a, c, rfl, _⟩ := id hO
  have isc := sc_isSc e1 hK hB hok.k1 hok.b1
  have isg := isG_own hM hT hg
  have hen : En0 (csP (.slice a O.length c)) (.slice a O.length c) := ⟨rfl, rfl, rfl⟩
  have hse : (sErr K s.B).2 = 0 := by rw [sErr_kq e1]; exact hok.s1
  have eE : putE K s.B O (cN M) s.T = putE s.L s.B O s.N s.T := by unfold putE; rw [e2, confB_kq e1]
  have cD := lstep_any (ee := putE s.L s.B O s.N s.T) (r := recL (encE0 O)) (L := s.L) (B := s.B) (N := (opS.res O s.N s.T).1) (T := (opS.res O s.N s.T).2) (cs := csP (.slice a O.length c)) hp hbp h0 h1 h2 hy hok rfl
    (fun W hW => (with_any0 hen (isc.on hW) (isg.on hW) (hO.on hW) hk.z hk.l hg hse).mono (by
      rintro e w' ⟨q0, q1, q2⟩
      rw [eE, e2] at q1
      rw [eE] at q2
      refine ⟨q0, ?_⟩
      have hs1 := h1.kt (fun t _ _ _ => (Kt.of_below hW).trans (.of_below q0))
      by_cases hc : putE s.L s.B O s.N s.T = 0
      · obtain ⟨un, ut, M', rfl, q3, q4, q5, q6⟩ := q1 hc
        have gA : GrAt w' base un ut (opS.res O s.N s.T).1 (opS.res O s.N s.T).2 := ⟨M', q3, ownNs_b q4 (by have := hW.size; omega), own_base q5 (by have := hW.size; omega), q6⟩
        exact ⟨vk, vb, un, ut, sc_sl4 hs1 gA, by rw [if_pos hc], fun _ => ⟨hs1, gA⟩⟩
      · exact ⟨_, _, _, _, ⟨_, _, _, _, _, _, _, _, _, _, _, _, rfl, rfl, rfl, rfl⟩, by rw [if_neg hc]; exact q2 hc, fun h => absurd h hc⟩))
    (fun _ W hW => wr_ops hen (hO.on hW) hk.i (by omega) (hE.on (hW.mono hE.sz)))
    (recL_two O) hz
  have hP := Lib.hid cD
  clear cD isc isg hen hse eE hK hB hM hT hg e1 e2 h0 h1 h2 hy hp hok hk hE hz hO
  unfold putS
  generalize stepS s (putE s.L s.B O s.N s.T) (recL (encE0 O)) s.L s.B (opS.res O s.N s.T).1 (opS.res O s.N s.T).2 = R at *
  go_enter Tryz.func6, Tryz.ntmps6
  go_wp2_with (first | (go_at_call 14; refine hP.out.mono ?_; rintro e w1 ⟨rfl, h1⟩) | fail)
  go_ret
  exact ⟨rfl, h1⟩
theorem FrL.refl (base : Nat) (w : World) : FrL base w w := ⟨Below.refl _ _, fun t _ _ => Kt.refl t w⟩
theorem FrL.trans {base : Nat} {a b c : World} (h : FrL base a b) (k : FrL base b c) : FrL base a c := ⟨h.1.trans k.1, fun t h1 h2 => (h.2 t h1 h2).trans (k.2 t h1 h2)⟩
theorem FrL.set {base p : Nat} {w w' : World} {C : Array Value} (h : FrL base w w') (hb : base ≤ p) (hp : w'.heap[p]? = some (.cells C 72 (0, 0))) (i : Nat) (u : Value) : FrL base w (w'.setCell ⟨p, i, none⟩ u) :=
  ⟨h.1.setCell hb _, fun t h1 h2 => (h.2 t h1 h2).ty ⟨_, hp⟩ (Ne.symm h1) _ _⟩
theorem FrL.bx {base p : Nat} {w w' : World} {C : Array Value} (hx : Bx w.heap.size [p] w w') (hb : base ≤ p) (hp : w.heap[p]? = some (.cells C 72 (0, 0))) : FrL base w w' :=
  ⟨hx.below (by have := (Array.getElem?_eq_some_iff.1 hp).1; omega) (fun x hx => by simp only [List.mem_singleton] at hx; omega), fun t h1 h2 => lkt_bx hx hp (Ne.symm h1)⟩
theorem LgAt.of {w w' : World} {base p : Nat} {s s' : Lg} (h : LgAt w base p s) (hk : FrL base w w') (h5 : Kt 5 w w') (e : s'.L0 = s.L0 ∧ s'.B0 = s.B0 ∧ s'.L = s.L ∧ s'.B = s.B ∧ s'.N = s.N ∧ s'.T = s.T ∧ s'.bs = s.bs)
    (hp : ∀ vk0 vb0 vk vb vn vt vy, w.heap[p]? = some (.cells (lgC vk0 vb0 vk vb vn vt vy s.sf s.lf s.st) 72 (0, 0)) → w'.heap[p]? = some (.cells (lgC vk0 vb0 vk vb vn vt vy s'.sf s'.lf s'.st) 72 (0, 0))) : LgAt w' base p s' := by
  obtain ⟨vk0, vb0, vk, vb, vn, vt, vy, h1, h2, h3, h4, h5', h6⟩ := h
  obtain ⟨e1, e2, e3, e4, e5, e6, e7⟩ := e
  have kk : ∀ t, t ≠ 69 → t ≠ 72 → t ≠ 5 → Kt t w w' := fun t _ a b => hk.2 t a b
  exact ⟨vk0, vb0, vk, vb, vn, vt, vy, hp _ _ _ _ _ _ _ h1, h2, by rw [e1, e2]; exact h3.kt kk, by rw [e3, e4]; exact h4.kt kk, by rw [e5, e6]; exact h5'.kt kk, by rw [e7]; exact own_kt h6 h5⟩
set_option maxHeartbeats 8000000 in
set_option maxRecDepth 100000 in
theorem fail_at {w : World} {base p : Nat} {s : Lg} (h : LgAt w base p s) (n : Int) :
    Calls Tryz.prog 5 #[.pointer (some ⟨p, 0, none⟩), .int .i64 n] w fun e w' => e = .returned (.tuple #[]) ∧ LgAt w' base p { s with lf := n } ∧ FrL base w w' := by
  obtain ⟨vk0, vb0, vk, vb, vn, vt, vy, hp, hbp, _⟩ := id h
  have y8 : w.cell? ⟨p, 8, none⟩ = some (.int .i64 s.lf) := cell_at hp rfl
  have f8 : w.frozen? ⟨p, 8, none⟩ = false := frz_at hp
  have hF : FrL base w (w.setCell ⟨p, 8, none⟩ (.int .i64 n)) := (FrL.refl base w).set hbp hp 8 _
  have hL : LgAt (w.setCell ⟨p, 8, none⟩ (.int .i64 n)) base p { s with lf := n } := h.of hF ((Kt.refl _ _).ty ⟨_, hp⟩ (by decide) _ _) ⟨rfl, rfl, rfl, rfl, rfl, rfl, rfl⟩ (fun a b c d e f g hq => by rw [heap_setCell_same w p 8 _ 72 _ hq]; rfl)
  have HR := Lib.hid (And.intro hL hF)
  clear h hp hL hF
  go_enter Tryz.func5, Tryz.ntmps5
  go_wp2
  go_end0
  exact ⟨rfl, HR.out⟩
def syncS (s : Lg) : Int × Lg := if s.st = true then (6, s) else if s.lf = 0 then (6, { s with lf := 0, st := true }) else (0, { s with lf := lfN s.lf, st := false, sf := s.bs.length })
set_option maxHeartbeats 8000000 in
set_option maxRecDepth 100000 in
theorem sync_at {w : World} {base p : Nat} {s : Lg} (h : LgAt w base p s) (hok : LgOk s) (hz : s.bs.length ≤ 1000000000) :
    Calls Tryz.prog 8 #[.pointer (some ⟨p, 0, none⟩)] w fun e w' => e = .returned (errV (syncS s).1) ∧ LgAt w' base p (syncS s).2 ∧ FrL base w w' := by
  obtain ⟨vk0, vb0, vk, vb, vn, vt, vy, hp, hbp, _, _, _, hy⟩ := id h
  have y9 : w.cell? ⟨p, 9, none⟩ = some (.bool s.st) := cell_at hp rfl
  by_cases c1 : s.st = true
  · have e1 : syncS s = (6, s) := by unfold syncS; rw [if_pos c1]
    rw [e1, errV_ne (by show (6 : Int) ≠ 0; decide)]
    rw [c1] at y9
    go_enter Tryz.func8, Tryz.ntmps8
    go_wp2
    go_ret
    exact ⟨rfl, h, FrL.refl _ _⟩
  have c1' : s.st = false := by simpa using c1
  have cS := stops_any hp hok.l0 hok.l1
  obtain ⟨ay, cy, hvy⟩ := own_slice hy
  by_cases c2 : s.lf = 0
  · have e1 : syncS s = (6, { s with lf := 0, st := true }) := by unfold syncS; rw [if_neg c1, if_pos c2]
    have e2 : (s.lf == 0) = true := by simpa using c2
    rw [e1, errV_ne (by show (6 : Int) ≠ 0; decide)]
    rw [c1'] at y9
    rw [e2] at cS
    have HF : Hid (∀ W, Bx w.heap.size [p] w W → W.heap[p]? = some (.cells (lgC vk0 vb0 vk vb vn vt vy s.sf (lfN s.lf) true) 72 (0, 0)) → LgAt W base p { s with lf := 0, st := true } ∧ FrL base w W) := fun W hx hq =>
      have hF := FrL.bx hx hbp hp
      ⟨h.of hF (lkt_bx hx hp (by decide)) ⟨rfl, rfl, rfl, rfl, rfl, rfl, rfl⟩ (fun a b c d e f g hr => by
        rw [hp] at hr
        simp only [Option.some.injEq, Obj.cells.injEq, Array.mk.injEq, List.cons.injEq, and_true] at hr
        obtain ⟨rfl, rfl, rfl, rfl, rfl, rfl, rfl⟩ := hr
        rw [hq, c2]; rfl), hF⟩
    clear hok h hp e1 c2
    go_enter Tryz.func8, Tryz.ntmps8
    go_wp2_with (first | (go_at_call 16; refine cS.mono ?_; rintro e W1 ⟨rfl, hx1, hq1⟩; have H1 := Lib.hid (HF.out W1 hx1 hq1); clear hx1 hq1) | fail)
    go_ret
    exact ⟨rfl, H1.out⟩
  · have e1 : syncS s = (0, { s with lf := lfN s.lf, st := false, sf := s.bs.length }) := by unfold syncS; rw [if_neg c1, if_neg c2]
    have e2 : (s.lf == 0) = false := by simpa using c2
    rw [e1, errV_0]
    rw [c1'] at y9
    rw [e2] at cS
    rw [hvy] at cS hp
    have HF : Hid (∀ W, Bx w.heap.size [p] w W → W.heap[p]? = some (.cells (lgC vk0 vb0 vk vb vn vt (.slice ay s.bs.length cy) s.sf (lfN s.lf) false) 72 (0, 0)) → LgAt (W.setCell ⟨p, 7, none⟩ (.int .i64 s.bs.length)) base p { s with lf := lfN s.lf, st := false, sf := s.bs.length } ∧ FrL base w (W.setCell ⟨p, 7, none⟩ (.int .i64 s.bs.length))) := fun W hx hq =>
      have hF := (FrL.bx hx hbp hp).set hbp hq 7 (.int .i64 s.bs.length)
      ⟨h.of hF ((lkt_bx hx hp (by decide)).ty ⟨_, hq⟩ (by decide) _ _) ⟨rfl, rfl, rfl, rfl, rfl, rfl, rfl⟩ (fun a b c d e f g hr => by
        rw [hp] at hr
        simp only [Option.some.injEq, Obj.cells.injEq, Array.mk.injEq, List.cons.injEq, and_true] at hr
        obtain ⟨rfl, rfl, rfl, rfl, rfl, rfl, rfl⟩ := hr
        rw [heap_setCell_same W p 7 _ 72 _ hq]; rfl), hF⟩
    clear hok h hp e1 c2 hy
    go_enter Tryz.func8, Tryz.ntmps8
    go_wp2_with (first | (go_at_call 16; refine cS.mono ?_; rintro e W1 ⟨rfl, hx1, hq1⟩; have H1 := Lib.hid (HF.out W1 hx1 hq1); have k6 : W1.cell? ⟨p, 6, none⟩ = some (.slice ay s.bs.length cy) := cell_at hq1 rfl; have k7 : W1.cell? ⟨p, 7, none⟩ = some (.int .i64 s.sf) := cell_at hq1 rfl; have k8 : W1.frozen? ⟨p, 7, none⟩ = false := frz_at hq1; clear hx1 hq1) | fail)
    go_ret
    exact ⟨rfl, H1.out⟩
def Apt (L : List Kd) : Prop := L.Pairwise fun a b => ∀ g, a.vf.ownBlock = some g → b.vf.ownBlock ≠ some g
theorem Apt.snoc {L : List Kd} {k : Kd} (h : Apt L) (hk : ∀ x ∈ L, ∀ g, x.vf.ownBlock = some g → k.vf.ownBlock ≠ some g) : Apt (L ++ [k]) := by
  unfold Apt
  rw [List.pairwise_append]
  refine ⟨h, List.pairwise_singleton _ _, fun a ha b hb => ?_⟩
  have e : b = k := by simpa using hb
  rw [e]
  exact hk a ha
def CsI (W0 : World) (p : Nat) (ub : Value) (L : List Kd) (B : List Bd) (k : Nat) (wr : World) : Prop := ∃ (M : List Kd) (uk : Value), M.length = k ∧ M.map kq3 = (L.take k).map kq3 ∧ wr.heap[p]? = some (.cells #[uk, ub] 34 (0, 0)) ∧ OwnKs wr W0.heap.size uk M ∧ OwnBs wr W0.heap.size ub B ∧ Below W0.heap.size W0 wr ∧ Apt M
theorem csI_step {W0 wr W5 w7 : World} {p k : Nat} {uk ub v1 v2 v7 : Value} {L M : List Kd} {B : List Bd} {q : Kd} (hp : W0.heap.size ≤ p) (hq : L[k]? = some q) (hM : M.length = k) (hc : M.map kq3 = (L.take k).map kq3) (hX : wr.heap[p]? = some (.cells #[uk, ub] 34 (0, 0))) (hN : OwnKs wr W0.heap.size uk M) (hT : OwnBs wr W0.heap.size ub B) (hB : Below W0.heap.size W0 wr) (hAp : Apt M)
    (hB5 : Below wr.heap.size wr W5) (h1 : W5.ownsRow W0.heap.size 9 1 v1 q.of.length (cellsS q.of)) (h2 : W5.ownsRow wr.heap.size 56 4 v2 q.fs.length (cellsF q.fs)) (hg : (W5.alloc (.cells #[.string (bs q.nm), v1, v2] 30)).grownBy w7 uk.ownBlock) (ho : w7.ownsRow W0.heap.size 30 3 v7 (k + 1) (cellsK M ++ [.string (bs q.nm), v1, v2])) :
    (w7.cell? ⟨p, 0, none⟩ = some uk ∧ w7.frozen? ⟨p, 0, none⟩ = false) ∧ CsI W0 p ub L B (k + 1) (w7.setCell ⟨p, 0, none⟩ v7) := by
  have hBa : Below wr.heap.size wr (W5.alloc (.cells #[.string (bs q.nm), v1, v2] 30)) := on1K hB5 (b_alloc (Below.refl _ _) _) (Nat.le_refl _)
  have hNa := own_kt hN.1 (Kt.of_below hBa)
  have hXa := (hBa.block p (Array.getElem?_eq_some_iff.1 hX).1).trans hX
  have hX1 := (hg.block p (Array.getElem?_eq_some_iff.1 hXa).1 (fun e => row_apart hNa hXa (by decide) e.symm)).trans hXa
  have kk : ∀ t : TypeId, t ≠ 30 → t ≠ 34 → Kt t wr (w7.setCell ⟨p, 0, none⟩ v7) := fun t n1 n2 => ((Kt.of_below hBa).trans (.of_own hNa (Ne.symm n1) hg)).set hX1 (Ne.symm n2) _ _
  have k5 : ∀ t : TypeId, t ≠ 30 → t ≠ 34 → Kt t W5 (w7.setCell ⟨p, 0, none⟩ v7) := fun t n1 n2 => (((Kt.refl _ _).alloc _).trans (.of_own hNa (Ne.symm n1) hg)).set hX1 (Ne.symm n2) _ _
  refine ⟨⟨cell_at hX1 rfl, frz_at hX1⟩, M ++ [⟨q.nm, q.of, q.fs, v1, v2⟩], v7, by simp [hM], ?_, (heap_setCell_same w7 p 0 _ 34 _ hX1).trans rfl, ⟨?_, fun x hx => ?_⟩, own_kt hT (kk 54 (by decide) (by decide)), ?_, hAp.snoc fun x hx g hg1 hg2 => ?_⟩
  · have e : L.take (k + 1) = L.take k ++ [q] := by rw [List.take_add_one, hq]; rfl
    rw [e, List.map_append, List.map_append, hc]
    rfl
  · rw [List.length_append, hM, cellsK_app, show cellsK [(⟨q.nm, q.of, q.fs, v1, v2⟩ : Kd)] = [.string (bs q.nm), v1, v2] by simp [cellsK, Kd.cells]]
    exact own_set ho (row_apart ho hX1 (by decide)) _ _
  · rcases List.mem_append.1 hx with hx | hx
    · exact ⟨own_kt (hN.2 x hx).1 (kk 9 (by decide) (by decide)), own_kt (hN.2 x hx).2 (kk 56 (by decide) (by decide))⟩
    · obtain rfl : x = ⟨q.nm, q.of, q.fs, v1, v2⟩ := by simpa using hx
      exact ⟨own_kt h1 (k5 9 (by decide) (by decide)), own_base (own_kt h2 (k5 56 (by decide) (by decide))) hB.size⟩
  · exact (below_grown (on1K hB hBa (Nat.le_refl _)) hg (Nat.le_trans hB.size hBa.size) (fun g hg' => (hNa.lt g hg').1)).setCell (p := ⟨p, 0, none⟩) hp _
  · have h3 := ((hN.2 x hx).2.lt g hg1).2
    have h4 := (h2.lt g hg2).1
    omega
set_option maxHeartbeats 4000000 in
set_option maxRecDepth 100000 in
theorem scopyA_any {vk vb : Value} {L : List Kd} {B : List Bd} {w : World} (hK : IsK w vk L) (hP : Parts w L) (hb : IsB w vb B) (hl : L.length ≤ 1000) (hlb : B.length ≤ 1000) (hs : ∀ k ∈ L, k.of.length * 16 ≤ 140737488355328 ∧ k.fs.length * 32 ≤ 140737488355328) :
    Calls Tryz.prog 13 #[.agg #[vk, vb]] w fun e w' => ∃ uk ub M, e = .returned (.agg #[uk, ub]) ∧ M.map kq3 = L.map kq3 ∧ OwnKs w' w.heap.size uk M ∧ OwnBs w' w.heap.size ub B ∧ Below w.heap.size w w' ∧ Apt M := by
  obtain ⟨i0, hi0, hz0, hz1, hz2⟩ := info_parts infoKd
  obtain ⟨W0, hW0⟩ : ∃ W0, W0 = (w.alloc (.cells #[vk, vb] 34)).alloc (.cells #[.slice none 0 0, .slice none 0 0] 34) := ⟨_, rfl⟩
  have hB0 : Below w.heap.size w W0 := by rw [hW0]; exact b_alloc (b_alloc (Below.refl _ _) _) _
  have hs0 : W0.heap.size = w.heap.size + 2 := by rw [hW0]; simp
  have n0 : W0.heap[w.heap.size]? = some (.cells #[vk, vb] 34 (0, 0)) := by rw [hW0]; exact (heap_alloc_old _ _ (by simp)).trans (heap_alloc_new w _)
  have n1 : W0.heap[w.heap.size + 1]? = some (.cells #[.slice none 0 0, .slice none 0 0] 34 (0, 0)) := by
    have := heap_alloc_new (w.alloc (.cells #[vk, vb] 34)) (.cells #[.slice none 0 0, .slice none 0 0] 34)
    rw [World.size_alloc] at this; rw [hW0]; exact this
  have clB := fun (ty : TypeId) => clone_bonds W0 W0.heap.size (Nat.le_refl _) (hb.on hB0) hlb ty
  obtain ⟨ak, ck, evk, hVK⟩ : ∃ ak ck, vk = .slice ak L.length ck ∧ ∀ k q, L[k]? = some q → ∃ b off, ak = some ⟨b, off, none⟩ ∧ b < w.heap.size ∧ w.cell? ⟨b, off + k * 3, none⟩ = some (.string (bs q.nm)) ∧ w.cell? ⟨b, off + k * 3 + 1, none⟩ = some q.vo ∧ w.cell? ⟨b, off + k * 3 + 2, none⟩ = some q.vf := by
    rcases hK with ⟨rfl, rfl⟩ | ⟨b, off, cap, rfl, _, _, hb, hl⟩
    · exact ⟨none, 0, rfl, fun k q h => by cases h⟩
    · exact ⟨_, cap, rfl, fun k q h => ⟨b, off, rfl, hb, hl k q h⟩⟩
  obtain ⟨ab, cb, evb⟩ : ∃ ab cb, vb = .slice ab B.length cb := by
    rcases hb with ⟨rfl, rfl⟩ | ⟨b, off, cap, rfl, _⟩
    · exact ⟨none, 0, rfl⟩
    · exact ⟨_, _, rfl⟩
  subst evk evb
  have HH : Hid (Below w.heap.size w W0 ∧ W0.heap.size = w.heap.size + 2 ∧ W0.heap[w.heap.size]? = some (.cells #[.slice ak L.length ck, .slice ab B.length cb] 34 (0, 0)) ∧ W0.heap[w.heap.size + 1]? = some (.cells #[.slice none 0 0, .slice none 0 0] 34 (0, 0)) ∧ Parts w L) := ⟨hB0, hs0, n0, n1, hP⟩
  have HVK := Lib.hid hVK
  have HSm := Lib.hid hs
  have c1 : W0.cell? ⟨w.heap.size, 1, none⟩ = some (.slice ab B.length cb) := cell_at n0 rfl
  clear hB0 n0 n1 hs0 hK hP hb hVK hs
  go_enter Tryz.func13, Tryz.ntmps13
  go_upto_region 1 with fail
  rw [← hW0]
  clear hW0
  go_wp2_with (first | (at_builtin; refine wpList_append_E rfl _ _ 32 rfl _ _ rfl rfl (clB _) ?_; rintro v1 w1 ⟨hown, hgrow⟩; refine Hid.out ?_))
  refine Lib.hid ?_
  obtain ⟨a2, p2, rfl⟩ := own_slice hown
  have hb1 := grown_below hgrow
  obtain ⟨Wc, hWc⟩ : ∃ Wc, Wc = w1.alloc (.cells #[.slice none 0 0, .slice a2 B.length p2] 34) := ⟨_, rfl⟩
  have nc : Wc.heap[w1.heap.size]? = some (.cells #[.slice none 0 0, .slice a2 B.length p2] 34 (0, 0)) := by rw [hWc]; exact heap_alloc_new w1 _
  have hBc : Below W0.heap.size W0 Wc := by rw [hWc]; exact b_alloc hb1 _
  have HI0 : Hid (CsI W0 w1.heap.size (.slice a2 B.length p2) L B 0 Wc ∧ W0.heap.size ≤ w1.heap.size) := ⟨⟨[], .slice none 0 0, rfl, rfl, nc, ⟨World.ownsRow_nil _ _ _ _, fun n hn => by cases hn⟩, by rw [hWc]; exact World.ownsRow.alloc hown _, hBc, List.Pairwise.nil⟩, hb1.size⟩
  have c0 : Wc.cell? ⟨w.heap.size, 0, none⟩ = some (.slice ak L.length ck) := cell_at ((hBc.block _ (by have := HH.out.2.1; omega)).trans HH.out.2.2.1) rfl
  have HWc := Lib.hid hWc
  clear hown hgrow hb1 nc hBc hWc clB c1
  go_upto_region 2 with fail
  rw [← HWc.out]
  go_wp2
  go_loopw [13] (fun i wr => ∃ k : Nat, k ≤ L.length ∧ i = .int .i64 k ∧ CsI W0 w1.heap.size (.slice a2 B.length p2) L B k wr) (fun i _ => L.length - (intOf i).toNat)
  case atStart => exact ⟨0, Nat.zero_le _, rfl, HI0.out.1⟩
  case round =>
    obtain ⟨k, hk, rfl, hC⟩ := hrel
    obtain ⟨M, vm, hM, hcN, hX, hNs, hTs, hB, hAp⟩ := hC
    have HAp := Lib.hid hAp
    clear hAp
    obtain ⟨a1, p1, e1⟩ := own_slice hNs.1
    rw [hM] at e1
    subst e1
    by_cases hlt : k < L.length
    · obtain ⟨q, hq⟩ : ∃ q, L[k]? = some q := ⟨L[k], by simp [hlt]⟩
      have hbw := on1K HH.out.1 hB (Nat.le_refl _)
      obtain ⟨b, off, rfl, hbl, d0, d1, d2⟩ := HVK.out k q hq
      have d0 := (hbw.cell (p := ⟨b, off + k * 3, none⟩) hbl).trans d0
      have d1 := (hbw.cell (p := ⟨b, off + k * 3 + 1, none⟩) hbl).trans d1
      have d2 := (hbw.cell (p := ⟨b, off + k * 3 + 2, none⟩) hbl).trans d2
      obtain ⟨hSo, hFo⟩ := HH.out.2.2.2.2 q (List.mem_of_getElem? hq)
      obtain ⟨ms, mf⟩ := HSm.out q (List.mem_of_getElem? hq)
      obtain ⟨ao, lo, co, evo⟩ : ∃ a l c, q.vo = .slice a l c := by
        rcases hSo with ⟨a, c, e, _⟩ | ⟨_, _, c, e, _⟩
        · exact ⟨_, _, _, e⟩
        · exact ⟨_, _, _, e⟩
      obtain ⟨af, lf, cf, evf⟩ : ∃ a l c, q.vf = .slice a l c := by
        rcases hFo with ⟨a, c, e, _⟩ | ⟨_, _, c, e, _⟩
        · exact ⟨_, _, _, e⟩
        · exact ⟨_, _, _, e⟩
      have HQ := Lib.hid hq
      obtain ⟨nm, of, fs, vo, vf⟩ := q
      simp only at evo evf d0 d1 d2 hSo hFo ms mf
      subst evo evf
      obtain ⟨W1, hW1⟩ : ∃ W1, W1 = wr.alloc (.cells #[.string (bs nm), .slice ao lo co, .slice af lf cf] 30) := ⟨_, rfl⟩
      have hB1 : Below wr.heap.size wr W1 := by rw [hW1]; exact b_alloc (Below.refl _ _) _
      have nn : W1.heap[wr.heap.size]? = some (.cells #[.string (bs nm), .slice ao lo co, .slice af lf cf] 30 (0, 0)) := by rw [hW1]; exact heap_alloc_new wr _
      have clS := fun (ty : TypeId) => clone_names W1 W0.heap.size (Nat.le_trans hB.size hB1.size) (hSo.on (on1K hbw hB1 (Nat.le_refl _))) ms ty
      have e1 : W1.cell? ⟨wr.heap.size, 1, none⟩ = some (.slice ao lo co) := cell_at nn rfl
      have HA : Hid (M.length = k ∧ M.map kq3 = (L.take k).map kq3 ∧ wr.heap[w1.heap.size]? = some (.cells #[.slice a1 k p1, .slice a2 B.length p2] 34 (0, 0)) ∧ OwnKs wr W0.heap.size (.slice a1 k p1) M ∧ OwnBs wr W0.heap.size (.slice a2 B.length p2) B ∧ Below W0.heap.size W0 wr) := ⟨hM, hcN, hX, hNs, hTs, hB⟩
      have HB1 : Hid (Below wr.heap.size wr W1 ∧ W1.heap[wr.heap.size]? = some (.cells #[.string (bs nm), .slice ao lo co, .slice af lf cf] 30 (0, 0)) ∧ Below w.heap.size w wr ∧ IsF w (.slice af lf cf) fs) := ⟨hB1, nn, hbw, hFo⟩
      have HW1 := Lib.hid hW1
      have hnb : ¬ b = wr.heap.size := by have := hbw.size; omega
      clear hM hcN hX hNs hTs hB hbw hB1 nn hq hW1 hbl hSo hFo
      go_upto_region 5 with fail
      rw [← HW1.out]
      go_wp2_with (first | (at_builtin; refine wpList_append_E rfl _ _ 27 rfl _ _ rfl rfl (clS _) ?_; rintro v1 w2 ⟨ho1, hg1⟩; refine Hid.out ?_))
      refine Lib.hid ?_
      obtain ⟨asn, cs', rfl⟩ := own_slice ho1
      have hb2 := grown_below hg1
      have n2 := (hb2.block _ (Array.getElem?_eq_some_iff.1 HB1.out.2.1).1).trans HB1.out.2.1
      have f1 : w2.cell? ⟨wr.heap.size, 1, none⟩ = some (.slice ao lo co) := cell_at n2 rfl
      have f1' : w2.frozen? ⟨wr.heap.size, 1, none⟩ = false := frz_at n2
      obtain ⟨W3, hW3⟩ : ∃ W3, W3 = w2.setCell ⟨wr.heap.size, 1, none⟩ (.slice asn of.length cs') := ⟨_, rfl⟩
      have n3 : W3.heap[wr.heap.size]? = some (.cells #[.string (bs nm), .slice asn of.length cs', .slice af lf cf] 30 (0, 0)) := by rw [hW3]; exact (heap_setCell_same w2 _ 1 _ 30 _ n2).trans rfl
      have hB3 : Below wr.heap.size wr W3 := by rw [hW3]; exact (on1K HB1.out.1 hb2 (Nat.le_refl _)).setCell (p := ⟨wr.heap.size, 1, none⟩) (Nat.le_refl _) _
      have ho3 : W3.ownsRow W0.heap.size 9 1 (.slice asn of.length cs') of.length (cellsS of) := by rw [hW3]; exact own_set ho1 (row_apart ho1 n2 (by decide)) _ _
      have clF := fun (ty : TypeId) => clone_fields W3 wr.heap.size hB3.size (HB1.out.2.2.2.on (on1K HB1.out.2.2.1 hB3 (Nat.le_refl _))) mf ty
      have e3 : W3.cell? ⟨wr.heap.size, 2, none⟩ = some (.slice af lf cf) := cell_at n3 rfl
      have HW3 := Lib.hid hW3
      have H3 : Hid (W3.heap[wr.heap.size]? = some (.cells #[.string (bs nm), .slice asn of.length cs', .slice af lf cf] 30 (0, 0)) ∧ Below wr.heap.size wr W3 ∧ W3.ownsRow W0.heap.size 9 1 (.slice asn of.length cs') of.length (cellsS of)) := ⟨n3, hB3, ho3⟩
      clear ho1 hg1 hb2 n2 hW3 n3 hB3 ho3 clS
      go_upto_region 6 with fail
      rw [← HW3.out]
      clear f1 f1' e1
      go_wp2_with (first | (at_builtin; refine wpList_append_E rfl _ _ 28 rfl _ _ rfl rfl (clF _) ?_; rintro v2 w4 ⟨ho4, hg4⟩; refine Hid.out ?_))
      refine Lib.hid ?_
      obtain ⟨ag, cg, rfl⟩ := own_slice ho4
      have hb4 := grown_below hg4
      have n4 := (hb4.block _ (Array.getElem?_eq_some_iff.1 H3.out.1).1).trans H3.out.1
      have f1 : w4.cell? ⟨wr.heap.size, 2, none⟩ = some (.slice af lf cf) := cell_at n4 rfl
      have f1' : w4.frozen? ⟨wr.heap.size, 2, none⟩ = false := frz_at n4
      obtain ⟨W5, hW5⟩ : ∃ W5, W5 = w4.setCell ⟨wr.heap.size, 2, none⟩ (.slice ag fs.length cg) := ⟨_, rfl⟩
      have n5 : W5.heap[wr.heap.size]? = some (.cells #[.string (bs nm), .slice asn of.length cs', .slice ag fs.length cg] 30 (0, 0)) := by rw [hW5]; exact (heap_setCell_same w4 _ 2 _ 30 _ n4).trans rfl
      have hB5 : Below wr.heap.size wr W5 := by rw [hW5]; exact (on1K H3.out.2.1 hb4 (Nat.le_refl _)).setCell (p := ⟨wr.heap.size, 2, none⟩) (Nat.le_refl _) _
      have ho5 : W5.ownsRow wr.heap.size 56 4 (.slice ag fs.length cg) fs.length (cellsF fs) := by rw [hW5]; exact own_set ho4 (row_apart ho4 n4 (by decide)) _ _
      have ho5' : W5.ownsRow W0.heap.size 9 1 (.slice asn of.length cs') of.length (cellsS of) := by rw [hW5]; exact own_kt H3.out.2.2 ((Kt.of_below hb4).set n4 (by decide) _ _)
      have x0 : W5.cell? ⟨w1.heap.size, 0, none⟩ = some (.slice a1 k p1) := (hB5.cell (p := ⟨w1.heap.size, 0, none⟩) (Array.getElem?_eq_some_iff.1 HA.out.2.2.1).1).trans (cell_at HA.out.2.2.1 rfl)
      have g0 : W5.cell? ⟨wr.heap.size, 0, none⟩ = some (.string (bs nm)) := cell_at n5 rfl
      have g1 : W5.cell? ⟨wr.heap.size, 1, none⟩ = some (.slice asn of.length cs') := cell_at n5 rfl
      have g2 : W5.cell? ⟨wr.heap.size, 2, none⟩ = some (.slice ag fs.length cg) := cell_at n5 rfl
      have HO : Hid ((W5.alloc (.cells #[.string (bs nm), .slice asn of.length cs', .slice ag fs.length cg] 30)).ownsRow W0.heap.size 30 3 (.slice a1 k p1) k (cellsK M) ∧ W0.heap.size ≤ (W5.alloc (.cells #[.string (bs nm), .slice asn of.length cs', .slice ag fs.length cg] 30)).heap.size) := by
        have hBa := on1K hB5 (b_alloc (Below.refl _ W5) (.cells #[.string (bs nm), .slice asn of.length cs', .slice ag fs.length cg] 30)) (Nat.le_refl _)
        have := own_kt HA.out.2.2.2.1.1 (Kt.of_below (t := 30) hBa)
        rw [HA.out.1] at this
        exact ⟨this, Nat.le_trans HA.out.2.2.2.2.2.size hBa.size⟩
      have HSt : Hid (∀ w7 v7, (W5.alloc (.cells #[.string (bs nm), .slice asn of.length cs', .slice ag fs.length cg] 30)).grownBy w7 (Value.slice a1 k p1).ownBlock → w7.ownsRow W0.heap.size 30 3 v7 (k + 1) (cellsK M ++ [.string (bs nm), .slice asn of.length cs', .slice ag fs.length cg]) → (w7.cell? ⟨w1.heap.size, 0, none⟩ = some (.slice a1 k p1) ∧ w7.frozen? ⟨w1.heap.size, 0, none⟩ = false) ∧ CsI W0 w1.heap.size (.slice a2 B.length p2) L B (k + 1) (w7.setCell ⟨w1.heap.size, 0, none⟩ v7)) := fun w7 v7 q1 q2 => csI_step HI0.out.2 HQ.out HA.out.1 HA.out.2.1 HA.out.2.2.1 HA.out.2.2.2.1 HA.out.2.2.2.2.1 HA.out.2.2.2.2.2 HAp.out hB5 ho5' ho5 q1 q2
      have HM : Hid (k + 1 ≤ maxLen ∧ (k + 1) * 64 ≤ 140737488355328) := by unfold maxLen; exact ⟨by omega, by omega⟩
      have HW5 := Lib.hid hW5
      clear ho4 hg4 hb4 n4 hW5 n5 hB5 ho5 ho5' clF e3
      go_upto_region 7 with fail
      rw [← HW5.out]
      clear f1 f1'
      go_wp2_with (first | (at_builtin; refine wpList_append_own _ rfl (.tmp 26) (.tmp 28) 31 rfl W0.heap.size 30 i0 _ 3 64 Tryz.underlying31 hi0 hz0 hz1 hz2 rfl (by decide) (.slice a1 k p1) k (cellsK M) rfl HO.out.1 ⟨W5.heap.size, 0, none⟩ 1 1 [.string (bs nm), .slice asn of.length cs', .slice ag fs.length cg] rfl rfl (new_at _ _ _) (by simp [Value.oneCell']) HM.out.1 HM.out.2 HO.out.2 ?_; intro v7 w7 hown7 hgrow7 _; obtain ⟨⟨z0, z1⟩, hcs⟩ := HSt.out w7 v7 hgrow7 hown7; obtain ⟨a3, c3, rfl⟩ := own_slice hown7; have HCs := Lib.hid hcs; clear hcs hown7 hgrow7))
      go_roundw
      case rel => exact ⟨k + 1, by omega, by go_num, HCs.out⟩
      case measure => simp [intOf]; omega
    · obtain rfl : k = L.length := by omega
      rw [List.take_length] at hcN
      have hr1 := (hB.block _ (by have := HH.out.2.1; omega)).trans HH.out.2.2.2.1
      have HF : Hid (M.map kq3 = L.map kq3 ∧ OwnKs wr W0.heap.size (.slice a1 L.length p1) M ∧ OwnBs wr W0.heap.size (.slice a2 B.length p2) B ∧ Below w.heap.size w wr ∧ Ty wr (w.heap.size + 1) 34) := ⟨hcN, hNs, hTs, on1K HH.out.1 hB (Nat.le_refl _), _, hr1⟩
      have e0 : wr.cell? ⟨w1.heap.size, 0, none⟩ = some (.slice a1 L.length p1) := cell_at hX rfl
      have e1 : wr.cell? ⟨w1.heap.size, 1, none⟩ = some (.slice a2 B.length p2) := cell_at hX rfl
      have r0 : wr.cell? ⟨w.heap.size + 1, 0, none⟩ = some (.slice none 0 0) := cell_at hr1 rfl
      have r1 : wr.cell? ⟨w.heap.size + 1, 1, none⟩ = some (.slice none 0 0) := cell_at hr1 rfl
      have s0 : wr.frozen? ⟨w.heap.size + 1, 0, none⟩ = false := frz_at hr1
      have s1 : wr.frozen? ⟨w.heap.size + 1, 1, none⟩ = false := frz_at hr1
      have t1 : ((wr.setCell ⟨w.heap.size + 1, 0, none⟩ (.slice a1 L.length p1)).setCell ⟨w.heap.size + 1, 1, none⟩ (.slice a2 B.length p2)).heap[w.heap.size + 1]? = some (.cells #[.slice a1 L.length p1, .slice a2 B.length p2] 34 (0, 0)) := heap_setCell_same _ _ 1 _ 34 _ (heap_setCell_same wr _ 0 _ 34 _ hr1)
      have HT : Hid (((wr.setCell ⟨w.heap.size + 1, 0, none⟩ (.slice a1 L.length p1)).setCell ⟨w.heap.size + 1, 1, none⟩ (.slice a2 B.length p2)).cell? ⟨w.heap.size + 1, 0, none⟩ = some (.slice a1 L.length p1) ∧ ((wr.setCell ⟨w.heap.size + 1, 0, none⟩ (.slice a1 L.length p1)).setCell ⟨w.heap.size + 1, 1, none⟩ (.slice a2 B.length p2)).cell? ⟨w.heap.size + 1, 1, none⟩ = some (.slice a2 B.length p2)) := ⟨cell_at t1 rfl, cell_at t1 rfl⟩
      clear hcN hX hNs hTs hB hr1 t1 hk
      go_wp2
      obtain ⟨f1, f2, f3, f4, f5⟩ := HF.out
      obtain ⟨t0, t1⟩ := HT.out
      have hs0' : w.heap.size ≤ W0.heap.size := HH.out.1.size
      have kk : ∀ t : TypeId, (34 : TypeId) ≠ t → Kt t wr ((wr.setCell ⟨w.heap.size + 1, 0, none⟩ (.slice a1 L.length p1)).setCell ⟨w.heap.size + 1, 1, none⟩ (.slice a2 B.length p2)) := fun t ht => ((Kt.refl _ _).ty f5 ht _ _).ty (f5.set _ _ _) ht _ _
      refine bodyPost_ret (v := .agg #[.slice a1 L.length p1, .slice a2 B.length p2]) ?_ rfl ⟨_, _, M, rfl, f1, ⟨?_, fun q hq => ⟨?_, ?_⟩⟩, ?_, ?_, HAp.out⟩
      · simp [results, Tryz.results13, go_sem, t0, t1]
      · exact own_base (own_kt f2.1 (kk 30 (by decide))) hs0'
      · exact own_base (own_kt (f2.2 q hq).1 (kk 9 (by decide))) hs0'
      · exact own_base (own_kt (f2.2 q hq).2 (kk 56 (by decide))) hs0'
      · exact own_base (own_kt f3 (kk 54 (by decide))) hs0'
      · exact (f4.setCell (by show _ ≤ w.heap.size + 1; omega) _).setCell (by show _ ≤ w.heap.size + 1; omega) _
theorem scopy_any {vk vb : Value} {L : List Kd} {B : List Bd} {w : World} (hK : IsK w vk L) (hP : Parts w L) (hb : IsB w vb B) (hl : L.length ≤ 1000) (hlb : B.length ≤ 1000) (hs : ∀ k ∈ L, k.of.length ≤ 1000 ∧ k.fs.length ≤ 1000) :
    Calls Tryz.prog 13 #[.agg #[vk, vb]] w fun e w' => ∃ uk ub M, e = .returned (.agg #[uk, ub]) ∧ M.map kq3 = L.map kq3 ∧ OwnKs w' w.heap.size uk M ∧ OwnBs w' w.heap.size ub B ∧ Below w.heap.size w w' :=
  (scopyA_any hK hP hb hl hlb fun k hk => by have := hs k hk; omega).mono fun e w' ⟨uk, ub, M, h1, h2, h3, h4, h5, _⟩ => ⟨uk, ub, M, h1, h2, h3, h4, h5⟩
end Go.Proofs.YtahamkajkkkjdaaGreatDoor
