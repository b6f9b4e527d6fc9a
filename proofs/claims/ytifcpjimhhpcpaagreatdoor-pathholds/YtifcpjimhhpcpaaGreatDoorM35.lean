/-
  The walk of the law PathHolds.
-/
import Derived.Test.YtifcpjimhhpcpaaGreatDoorM34
import Derived.Deep.RegionHeld3
import Derived.Deep.RegionLaw
import Derived.Deep.DeepCutAuto
namespace Go.Proofs.YtifcpjimhhpcpaaGreatDoor
open Go.RowKit
set_option linter.unusedVariables false
set_option linter.unusedSimpArgs false

theorem Hnd.onP {w w' : World} (h : Hnd w) (hB : Below w.heap.size w w') : Hnd w' := (hB.cell (p := ⟨0, 0, none⟩) (cell_lt h)).trans h
set_option maxHeartbeats 64000000 in
set_option maxRecDepth 100000 in
theorem pholds_yes {vs vg vl : Value} {L : List Kd} {B : List Bd} {N : List Nd} {T : List Te} {l : List Sp} {w : World} (hs : IsSc w vs L B) (hg : IsG w vg N T) (hl : IsSp w vl l) (hz : ∀ p ∈ l, SpSz p) (hH : Hnd w) (hE : walkE L B N T l = 0) :
    Calls Tryz.prog 3 #[vs, vg, vl] w fun e w' => e = .returned (.bool true) ∧ Below w.heap.size w w' := by
  have HP : Hid (IsSc w vs L B ∧ IsG w vg N T ∧ IsSp w vl l ∧ (∀ p ∈ l, SpSz p)) := ⟨hs, hg, hl, hz⟩
  obtain ⟨vk, vb, rfl, hK, hPt, hzk, hb, hzb⟩ := hs
  obtain ⟨vn, vt, rfl, hN, hT, zN, zT, lN, lT⟩ := hg
  have HS : Hid (IsK w vk L ∧ Parts w L ∧ SzK L ∧ IsN w vn N ∧ IsT w vt T ∧ SzN N ∧ SzT T) := ⟨hK, hPt, hzk, hN, hT, zN, zT⟩
  obtain ⟨ak, ck, rfl, _⟩ := hK.sln
  obtain ⟨ab, cb, rfl, _⟩ := hb.sln
  obtain ⟨an, cn, rfl, _⟩ := hN
  obtain ⟨am, cm, rfl, _⟩ := hT
  have hl' := hl
  obtain ⟨al, cl, rfl, hlc, hcm, hll⟩ := hl'
  have HLL : Hid (l = [] ∨ ∃ b off, al = some ⟨b, off, none⟩ ∧ b < w.heap.size ∧ LiesSp w b off l) := hll
  obtain ⟨W0, hW0⟩ : ∃ W0, W0 = box2 w #[.slice ak L.length ck, .slice ab B.length cb] 25 #[.slice an N.length cn, .slice am T.length cm] 29 := ⟨_, rfl⟩
  have HB0 : Hid (Below w.heap.size w W0) := by rw [hW0]; exact box2_below _ _ _ _ _
  have x0 : W0.cell? ⟨w.heap.size, 0, none⟩ = some (.slice ak L.length ck) := by rw [hW0]; exact box2_a _ _ _ _ _ rfl
  have x1 : W0.cell? ⟨w.heap.size, 1, none⟩ = some (.slice ab B.length cb) := by rw [hW0]; exact box2_a _ _ _ _ _ rfl
  have x2 : W0.cell? ⟨w.heap.size + 1, 0, none⟩ = some (.slice an N.length cn) := by rw [hW0]; exact box2_b _ _ _ _ _ rfl
  have x3 : W0.cell? ⟨w.heap.size + 1, 1, none⟩ = some (.slice am T.length cm) := by rw [hW0]; exact box2_b _ _ _ _ _ rfl
  have hs0 : W0.heap.size = w.heap.size + 2 := by rw [hW0]; exact box2_size _ _ _ _ _
  have HC : Hid (∀ W, Below W0.heap.size W0 W → Below w.heap.size w W ∧ (W.cell? ⟨w.heap.size, 0, none⟩ = some (.slice ak L.length ck) ∧ W.cell? ⟨w.heap.size, 1, none⟩ = some (.slice ab B.length cb)) ∧ (W.cell? ⟨w.heap.size + 1, 0, none⟩ = some (.slice an N.length cn) ∧ W.cell? ⟨w.heap.size + 1, 1, none⟩ = some (.slice am T.length cm)) ∧ w.heap.size + 1 < W.heap.size) := fun W hB =>
    ⟨on1K HB0.out hB (Nat.le_refl _), ⟨(hB.cell (p := ⟨w.heap.size, 0, none⟩) (by show w.heap.size < _; omega)).trans x0, (hB.cell (p := ⟨w.heap.size, 1, none⟩) (by show w.heap.size < _; omega)).trans x1⟩, ⟨(hB.cell (p := ⟨w.heap.size + 1, 0, none⟩) (by show w.heap.size + 1 < _; omega)).trans x2, (hB.cell (p := ⟨w.heap.size + 1, 1, none⟩) (by show w.heap.size + 1 < _; omega)).trans x3⟩, by have := hB.size; omega⟩
  have cF := fcP_any W0
  have HW : Hid (∀ W, Below w.heap.size w W → Calls Tryz.prog 4 #[.agg #[.slice ak L.length ck, .slice ab B.length cb], .agg #[.slice an N.length cn, .slice am T.length cm], .slice al l.length cl] W (WkP L B N T l W)) := fun W hW => walk_any (HP.out.1.on hW) (HP.out.2.1.on hW) (HP.out.2.2.1.on hW) HP.out.2.2.2
  obtain ⟨hpt, hge⟩ := walk_zero hE
  obtain ⟨_, hl0, hl6, hsp⟩ := pt_ok hpt
  have HSp := Lib.hid (sps_ok l none 0 hsp)
  have HG : Hid (gErr N T = 0) := hge
  have HE : Hid (walkE L B N T l = 0) := hE
  obtain ⟨bl, off, hal, hbl, hLs⟩ : ∃ b off, al = some ⟨b, off, none⟩ ∧ b < w.heap.size ∧ LiesSp w b off l := by
    rcases HLL.out with e | h
    · exact absurd e hl0
    · exact h
  subst hal
  have HLs : Hid (LiesSp w bl off l) := hLs
  have HHd : Hid (Hnd w) := hH
  unfold WkP at HW
  rw [hE, errV_0] at HW
  clear hK hPt hzk hb hzb zN zT lN lT hl hz hll hs0 x0 x1 x2 x3 hH hpt hge hsp hLs HLL hE hl0
  go_enter Tryz.func3, Tryz.ntmps3
  go_upto_region 1 with fail
  unfold box2 at hW0
  rw [← hW0]
  clear hW0
  unfold fcP at cF
  go_wp2_with (first
    | (go_at_call 4; have hq := HB1; refine cW.mono ?_; rintro e W2 ⟨v2, rfl, hR, hB2⟩; refine Hid.out ?_)
    | (go_at_call 4; refine cF.mono ?_; rintro e W1 ⟨bf, cf, bf2, cf2, rfl, f0, f1, hB1⟩; obtain ⟨hb1, ⟨y0, y1⟩, ⟨y2, y3⟩, _⟩ := HC.out W1 hB1; have cW := HW.out W1 hb1; have HB1 := Lib.hid hB1; clear hb1 hB1 cF))
  refine Lib.hid ?_
  obtain ⟨R, hwR, hIR, lR, hRl⟩ := hR trivial
  have hRf := walkR_rows l [[]] R hwR
  have HRow : Hid (∀ r ∈ R, Row L N T l r) := fun r hr => by rw [hRf, mem_rows] at hr; exact hr
  have HRf : Hid (R = rowsF L N T l [[]]) := hRf
  have HIR : Hid (IsRw W2 v2 R) := hIR
  have HRl : Hid (∀ r ∈ R, r.length = l.length) := hRl
  obtain ⟨aR, cR, hv2⟩ := hIR.sl
  subst hv2
  have hB02 : Below W0.heap.size W0 W2 := on1K HB1.out hB2 (Nat.le_refl _)
  have HQ : Hid (∀ W, Below W2.heap.size W2 W → Below w.heap.size w W ∧ (W.cell? ⟨w.heap.size, 0, none⟩ = some (.slice ak L.length ck) ∧ W.cell? ⟨w.heap.size, 1, none⟩ = some (.slice ab B.length cb)) ∧ (W.cell? ⟨w.heap.size + 1, 0, none⟩ = some (.slice an N.length cn) ∧ W.cell? ⟨w.heap.size + 1, 1, none⟩ = some (.slice am T.length cm)) ∧ w.heap.size + 1 < W.heap.size) := fun W hW => HC.out W (on1K hB02 hW (Nat.le_refl _))
  have HLp : Hid (∀ W, Below W2.heap.size W2 W → ∀ k p, l[k]? = some p → (W.cell? ⟨bl, off + k * 4, none⟩ = some (.string (bs p.bd)) ∧ W.cell? ⟨bl, off + k * 4 + 1, none⟩ = some (.bool p.back) ∧ W.cell? ⟨bl, off + k * 4 + 2, none⟩ = some (.string (bs p.kd)) ∧ W.cell? ⟨bl, off + k * 4 + 3, none⟩ = some p.vt) ∧ IsTs W p.vt p.ts) := fun W hW k p hp => (HLs.out.on hbl (HQ.out W hW).1) k p hp
  have hl6i : (l.length : Int) ≤ 6 := by omega
  clear cW f0 f1 y0 y1 y2 y3 hR hwR hIR hRf hRl hB2 hB02 HC HB1
  go_wp2
  go_loopw [13] (fun i wr => LwI R.length W2 i wr) (fun i _ => R.length - (intOf i).toNat)
  case atStart => exact ⟨0, Nat.zero_le _, rfl, Below.refl _ _⟩
  case round =>
    obtain ⟨i, hi, rfl, hBi⟩ := hrel
    obtain ⟨WI, hWI⟩ : ∃ W, W = wr := ⟨wr, rfl⟩
    subst hWI
    by_cases hil : i < R.length
    · as_aux_lemma =>
      obtain ⟨r, hr⟩ : ∃ r, R[i]? = some r := ⟨R[i], by simp [hil]⟩
      have hrm := List.mem_of_getElem? hr
      have HRr : Hid (Row L N T l r) := HRow.out r hrm
      have hrl : r.length = l.length := HRl.out r hrm
      obtain ⟨bw, haR, hbw, hcw⟩ : ∃ bw, aR = some ⟨bw, 0, none⟩ ∧ bw < W2.heap.size ∧ ∃ u, W2.cell? ⟨bw, i, none⟩ = some u ∧ IsI W2 u r := by
        rcases HIR.out with ⟨_, e⟩ | ⟨b, c, e, hb, hc⟩
        · rw [e] at hil; exact absurd hil (by simp)
        · injection e with q1 _ _
          exact ⟨b, q1, hb, hc i r hr⟩
      subst haR
      obtain ⟨u, hu, hIu⟩ := hcw
      have hlpos : 0 < l.length := by
        cases l with
        | nil => have := HE.out; exact absurd (walk_zero this).1 (by intro h; exact (pt_ok h).2.1 rfl)
        | cons a b => simp
      obtain ⟨bu, cu, hue, hbu, hcu⟩ : ∃ bu cu, u = .slice (some ⟨bu, 0, none⟩) r.length cu ∧ bu < W2.heap.size ∧ ∀ k x, r[k]? = some x → W2.cell? ⟨bu, k, none⟩ = some (.int .i64 x) := by
        rcases hIu with ⟨_, e⟩ | ⟨b, c, e, _, hb, hc⟩
        · rw [e] at hrl; simp at hrl; omega
        · exact ⟨b, c, e, hb, hc⟩
      subst hue
      rw [hrl] at hu
      have HU : Hid (∀ W, Below W2.heap.size W2 W → W.cell? ⟨bw, i, none⟩ = some (.slice (some ⟨bu, 0, none⟩) l.length cu) ∧ (∀ k x, r[k]? = some x → W.cell? ⟨bu, k, none⟩ = some (.int .i64 x)) ∧ bw < W.heap.size ∧ bu < W.heap.size) := fun W hW => ⟨(hW.cell (p := ⟨bw, i, none⟩) hbw).trans hu, fun k x hx => (hW.cell (p := ⟨bu, k, none⟩) hbu).trans (hcu k x hx), Nat.lt_of_lt_of_le hbw hW.size, Nat.lt_of_lt_of_le hbu hW.size⟩
      have HRlen : Hid (r.length = l.length) := hrl
      obtain ⟨d0, _, _, _⟩ := HU.out WI hBi
      have HBi := Lib.hid hBi
      clear hrm hu hIu hcu hr hrl hBi
      go_wp2
      go_loopw [14] (fun i wr => LwI l.length W2 i wr) (fun i _ => l.length - (intOf i).toNat)
      case atStart => exact ⟨0, Nat.zero_le _, rfl, HBi.out⟩
      case round =>
        obtain ⟨k, hk, rfl, hBk⟩ := hrel
        by_cases hkl : k < l.length
        · obtain ⟨p, hp⟩ : ∃ p, l[k]? = some p := ⟨l[k], by simp [hkl]⟩
          obtain ⟨x, hx⟩ : ∃ x, r[k]? = some x := ⟨r[k]'(by have := HRlen.out; omega), by simp⟩
          have hfit := row_fit l r k p x HRr.out hp hx
          obtain ⟨⟨e0, e1, e2, e3⟩, hTs⟩ := HLp.out wr hBk k p hp
          obtain ⟨d1, d2, hbwk, hbuk⟩ := HU.out wr hBk
          have d2x := d2 k x hx
          obtain ⟨hbwr, ⟨s0, s1⟩, ⟨g0, g1⟩, hsz⟩ := HQ.out wr hBk
          have HFx : Hid (l[k]? = some p ∧ r[k]? = some x ∧ x ∈ fitI L N p) := ⟨hp, hx, hfit⟩
          have HNW : Hid (∀ W, Below W2.heap.size W2 W → Calls Tryz.prog 5 #[.agg #[.slice an N.length cn, .slice am T.length cm], .int .i64 x] W fun e w' => ∃ kd a l c rc, e = .returned (.tuple #[.agg #[.int .i64 x, .string kd, .slice a l c], .nilIface]) ∧ (OwnRc w' 0 (.slice a l c) rc ∧ NdR L N p x kd rc) ∧ Below W.heap.size W w' ∧ Below W2.heap.size W2 w') := fun W hW => (node_row (HS.out.2.2.2.1.on (HQ.out W hW).1) (HS.out.2.2.2.2.1.on (HQ.out W hW).1) HS.out.2.2.2.2.2.1 HS.out.2.2.2.2.2.2 HG.out hfit).mono fun e w' h => by
            obtain ⟨kd, a, l, c, rc, rfl, q1, q2⟩ := h
            exact ⟨kd, a, l, c, rc, rfl, q1, q2, on1K hW q2 (Nat.le_refl _)⟩
          as_aux_lemma =>
          have HBr := Lib.hid hBk
          have nn0 := World.new_ne wr _ g0
          have nn1 := World.new_ne wr _ g1
          have nn2 := World.new_ne wr _ d1
          have nn3 := World.new_ne wr _ d2x
          have HCl : Hid (∀ W, Below W2.heap.size W2 W → W.cell? ⟨w.heap.size + 1, 0, none⟩ = some (.slice an N.length cn) ∧ W.cell? ⟨w.heap.size + 1, 1, none⟩ = some (.slice am T.length cm) ∧ W.cell? ⟨bw, i, none⟩ = some (.slice (some ⟨bu, 0, none⟩) l.length cu) ∧ W.cell? ⟨bu, k, none⟩ = some (.int .i64 x)) := fun W hW => ⟨(HQ.out W hW).2.2.1.1, (HQ.out W hW).2.2.1.2, (HU.out W hW).1, (HU.out W hW).2.1 k x hx⟩
          clear hfit hp hx e0 e1 e2 e3 hTs d2 hbwk hbuk hbwr s0 s1 hBk
          go_upto_region 17 with fail
          go_cut [15, 16] (fun s15 s16 wx => NdC W2 L N p x s15 s16 wx)
          case first =>
            first | (go_region_held3 (fun w' => w'.cell? ⟨w.heap.size + 1, 0, none⟩ = some (.slice an N.length cn) ∧ w'.cell? ⟨w.heap.size + 1, 1, none⟩ = some (.slice am T.length cm) ∧ w'.cell? ⟨bw, i, none⟩ = some (.slice (some ⟨bu, 0, none⟩) l.length cu) ∧ w'.cell? ⟨bu, k, none⟩ = some (.int .i64 x)) (go_keep) (first | (go_at_call 5; refine (HNW.out _ (by first | exact b_drew HBr.out | exact b_alloc (b_drew HBr.out) _)).mono ?_; rintro e W17 ⟨kd, a3, l3, c3, rc, rfl, hO, hB17, hb17⟩; obtain ⟨z0, z1, z2, z3⟩ := HCl.out W17 hb17; have HO := Lib.hid (And.intro hO hb17); (try (have kb : W17.heap[wr.heap.size]? = some (.cells #[.int .i64 0, .string ⟨#[]⟩, .slice none 0 0] 38 (0, 0)) := (hB17.block _ (by simp)).trans (heap_alloc_new wr.drew _); have y5 : W17.cell? ⟨wr.heap.size, 0, none⟩ = some (.int .i64 0) := cell_at kb rfl; have y6 : W17.cell? ⟨wr.heap.size, 1, none⟩ = some (.string ⟨#[]⟩) := cell_at kb rfl; have y7 : W17.cell? ⟨wr.heap.size, 2, none⟩ = some (.slice none 0 0) := cell_at kb rfl; have f5 : W17.frozen? ⟨wr.heap.size, 0, none⟩ = false := frz_at kb; have f6 : W17.frozen? ⟨wr.heap.size, 1, none⟩ = false := frz_at kb; have f7 : W17.frozen? ⟨wr.heap.size, 2, none⟩ = false := frz_at kb; replace kb := Lib.hid kb)); clear hO hB17 hb17))) | fail
            all_goals
              go_wp2
              go_meet
              first
                | with_reducible exact ndC_alloc HO.out.1.1 HO.out.1.2 HO.out.2
                | with_reducible exact ndC_set kb.out HBr.out.size HO.out.1.1 HO.out.1.2 HO.out.2
          case rest =>
          obtain ⟨q, kd, a3, l3, c3, rc, rfl, rfl, nq, hRc, hNd, hBc⟩ := hcut
          obtain ⟨W17, hW17⟩ : ∃ W, W = wc := ⟨wc, rfl⟩
          subst hW17
          have hqz : q < W17.heap.size := (Array.getElem?_eq_some_iff.1 nq).1
          have HN17 : Hid (∀ W, Below W17.heap.size W17 W → Below W2.heap.size W2 W ∧ W.cell? ⟨q, 1, none⟩ = some (.string kd) ∧ W.cell? ⟨q, 2, none⟩ = some (.slice a3 l3 c3) ∧ IsR W (.slice a3 l3 c3) rc) := fun W hW => ⟨on1K hBc hW (Nat.le_refl _), (hW.cell (p := ⟨q, 1, none⟩) hqz).trans (cell_at nq rfl), (hW.cell (p := ⟨q, 2, none⟩) hqz).trans (cell_at nq rfl), hRc.on hW⟩
          have HNd : Hid (NdR L N p x kd rc) := hNd
          have HSk : Hid (nmErr L p.kd = 0 ∧ p.ts.length ≤ 8 ∧ tsE (fields L p.kd) p.ts = 0) := HSp.out p (List.mem_of_getElem? HFx.out.1)
          have HC18 : Hid (∀ W, Below W17.heap.size W17 W → W.cell? ⟨w.heap.size, 0, none⟩ = some (.slice ak L.length ck) ∧ W.cell? ⟨q, 1, none⟩ = some (.string kd) ∧ W.cell? ⟨bl, off + k * 4 + 2, none⟩ = some (.string (bs p.kd))) := fun W hW => ⟨(HQ.out W (HN17.out W hW).1).2.1.1, (HN17.out W hW).2.1, (HLp.out W (HN17.out W hW).1 k p HFx.out.1).1.2.2.1⟩
          have HIs : Hid (∀ W, Below W17.heap.size W17 W → Calls Tryz.prog 6 #[.slice ak L.length ck, .string kd, .string (bs p.kd)] W fun e w' => e = .returned (.tuple #[.bool true, .nilIface]) ∧ Below W.heap.size W w') := fun W hW => is_row (HS.out.1.on (HQ.out W (HN17.out W hW).1).1) (HS.out.2.1.on (HQ.out W (HN17.out W hW).1).1) HS.out.2.2.1 HSk.out.1 HNd.out.1
          obtain ⟨v0, v1, v2⟩ := HC18.out W17 (Below.refl _ _)
          clear g0 g1 d1 d2x nn0 nn1 nn2 nn3 hsz HNW HBr HCl nq hRc hNd hBc hqz
          go_upto_region 18 with fail
          go_cut [17, 18] (fun s17 s18 wx => s17 = .bool true ∧ s18 = .nilIface ∧ Below W17.heap.size W17 wx)
          case first =>
            first | (go_region_held3 (fun w' => w'.cell? ⟨w.heap.size, 0, none⟩ = some (.slice ak L.length ck) ∧ w'.cell? ⟨q, 1, none⟩ = some (.string kd) ∧ w'.cell? ⟨bl, off + k * 4 + 2, none⟩ = some (.string (bs p.kd))) (go_keep) (first | (go_at_call 6; refine (HIs.out _ (Below.refl _ W17).drew).mono ?_; rintro e W18 ⟨rfl, hB18⟩; have hb18 := on1K (Below.refl _ W17).drew hB18 (Nat.le_refl _); obtain ⟨z0, z1, z2⟩ := HC18.out W18 hb18; have HB18 := Lib.hid hb18; clear hB18 hb18))) | fail
            all_goals
              go_wp2
              go_meet
              with_reducible exact ⟨rfl, rfl, HB18.out⟩
          case rest =>
          obtain ⟨rfl, rfl, hBd⟩ := hcut
          obtain ⟨W18, hW18⟩ : ∃ W, W = wc := ⟨wc, rfl⟩
          subst hW18
          have HN18 : Hid (∀ W, Below W18.heap.size W18 W → Below W2.heap.size W2 W ∧ W.cell? ⟨q, 2, none⟩ = some (.slice a3 l3 c3) ∧ IsR W (.slice a3 l3 c3) rc ∧ W.cell? ⟨bl, off + k * 4 + 3, none⟩ = some p.vt ∧ IsTs W p.vt p.ts) := fun W hW => by
            obtain ⟨h1, _, h2, h3⟩ := HN17.out W (on1K hBd hW (Nat.le_refl _))
            obtain ⟨⟨_, _, _, h4⟩, h5⟩ := HLp.out W h1 k p HFx.out.1
            exact ⟨h1, h2, h3, h4, h5⟩
          obtain ⟨ats, cts, hvt⟩ := (HN18.out W18 (Below.refl _ _)).2.2.2.2.sl
          have HVT : Hid (p.vt = .slice ats p.ts.length cts) := hvt
          have h8 : p.ts.length ≤ 8 := HSk.out.2.1
          clear v0 v1 v2 HIs HC18 HN17 hBd hvt
          go_wp2
          go_loopw [19] (fun i wr => LwI p.ts.length W18 i wr) (fun i _ => p.ts.length - (intOf i).toNat)
          case atStart => exact ⟨0, Nat.zero_le _, rfl, Below.refl _ _⟩
          case round =>
            obtain ⟨t, ht, rfl, hBt⟩ := hrel
            obtain ⟨h2k, r2, hRt, r3, hTt⟩ := HN18.out wr hBt
            rw [HVT.out] at r3
            by_cases htl : t < p.ts.length
            · obtain ⟨y, hy⟩ : ∃ y, p.ts[t]? = some y := ⟨p.ts[t], by simp [htl]⟩
              obtain ⟨bt, ot, hat, hcell⟩ : ∃ bt ot, ats = some ⟨bt, ot, none⟩ ∧ ∀ W, Below W18.heap.size W18 W → LiesTs W bt ot p.ts := by
                have h0 := (HN18.out W18 (Below.refl _ _)).2.2.2.2
                rw [HVT.out] at h0
                obtain ⟨ao, c, e, h1⟩ := h0
                injection e with q1 _ _
                rcases h1 with h1 | ⟨b, o, rfl, hb, hl⟩
                · rw [h1] at htl; exact absurd htl (by simp)
                · exact ⟨b, o, q1, fun W hW => hl.on hb hW⟩
              subst hat
              have HCt : Hid (∀ W, Below W18.heap.size W18 W → W.cell? ⟨q, 2, none⟩ = some (.slice a3 l3 c3) ∧ W.cell? ⟨bl, off + k * 4 + 3, none⟩ = some (.slice (some ⟨bt, ot, none⟩) p.ts.length cts) ∧ W.cell? ⟨bt, ot + t * 5, none⟩ = some (.string y.nm) ∧ W.cell? ⟨bt, ot + t * 5 + 1, none⟩ = some (.int .i64 y.hw) ∧ W.cell? ⟨bt, ot + t * 5 + 2, none⟩ = some (.int .i64 y.t) ∧ W.cell? ⟨bt, ot + t * 5 + 3, none⟩ = some (.int .i64 y.n) ∧ W.cell? ⟨bt, ot + t * 5 + 4, none⟩ = some (.string y.s)) := fun W hW => by
                obtain ⟨_, h1, _, h2, _⟩ := HN18.out W hW
                rw [HVT.out] at h2
                exact ⟨h1, h2, hcell W hW t y hy⟩
              have HPs : Hid (∀ W, Below W18.heap.size W18 W → Calls Tryz.prog 7 #[.slice a3 l3 c3, y.one] W fun e w' => e = .returned (.tuple #[.bool true, .nilIface]) ∧ Below W.heap.size W w') := fun W hW => pass_row (HN18.out W hW).2.2.1 HNd.out HSk.out.2.2 (List.mem_of_getElem? hy) ((HP.out.2.2.2 p (List.mem_of_getElem? HFx.out.1)).2 y (List.mem_of_getElem? hy))
              obtain ⟨_, _, m0, m1, m2, m3, m4⟩ := HCt.out wr hBt
              have HBt := Lib.hid hBt
              clear hy hcell h2k hRt hTt hBt
              go_upto_region 24 with fail
              go_cut [20, 21] (fun s20 s21 wx => s20 = .bool true ∧ s21 = .nilIface ∧ Below W18.heap.size W18 wx)
              case first =>
                first | (go_region_held3 (fun w' => w'.cell? ⟨q, 2, none⟩ = some (.slice a3 l3 c3) ∧ w'.cell? ⟨bl, off + k * 4 + 3, none⟩ = some (.slice (some ⟨bt, ot, none⟩) p.ts.length cts) ∧ w'.cell? ⟨bt, ot + t * 5, none⟩ = some (.string y.nm) ∧ w'.cell? ⟨bt, ot + t * 5 + 1, none⟩ = some (.int .i64 y.hw) ∧ w'.cell? ⟨bt, ot + t * 5 + 2, none⟩ = some (.int .i64 y.t) ∧ w'.cell? ⟨bt, ot + t * 5 + 3, none⟩ = some (.int .i64 y.n) ∧ w'.cell? ⟨bt, ot + t * 5 + 4, none⟩ = some (.string y.s)) (go_keep) (first | (go_at_call 7; refine (HPs.out _ (b_drew HBt.out)).mono ?_; rintro e W24 ⟨rfl, hB24⟩; have hb24 := on1K (b_drew HBt.out) hB24 (Nat.le_refl _); obtain ⟨z0, z1, z2, z3, z4, z5, z6⟩ := HCt.out W24 hb24; have HB24 := Lib.hid hb24; clear hB24 hb24))) | fail
                all_goals
                  go_wp2
                  go_meet
                  with_reducible exact ⟨rfl, rfl, HB24.out⟩
              case rest =>
              obtain ⟨rfl, rfl, hBe⟩ := hcut
              have HRR : Hid (LwI p.ts.length W18 (.int .i64 ((t + 1 : Nat) : Int)) wc) := ⟨t + 1, htl, rfl, hBe⟩
              clear r2 r3 m0 m1 m2 m3 m4 HCt HPs hBe
              go_wp2
              refine ⟨?_, ?_⟩
              · first | exact HRR.out | ((repeat apply Exists.intro); refine ⟨?_, rfl⟩; exact HRR.out)
              · simp [intOf]
                try omega
            · as_aux_lemma =>
              have HBt := Lib.hid h2k
              clear hRt hTt r2 h2k hBt
              by_cases hk0 : k = 0
              · have hk0i : ¬ (0 < (k : Int)) := by omega
                have HRR : Hid (LwI l.length W2 (.int .i64 ((k + 1 : Nat) : Int)) wr) := ⟨k + 1, hkl, rfl, HBt.out⟩
                clear hk0
                go_wp2
                refine ⟨?_, ?_⟩
                · first | exact HRR.out | ((repeat apply Exists.intro); refine ⟨?_, rfl⟩; exact HRR.out)
                · simp [intOf]
                  try omega
              · obtain ⟨k', hk'⟩ : ∃ k', k = k' + 1 := ⟨k - 1, by omega⟩
                subst hk'
                have hk0i : 0 < (k' : Int) + 1 := by omega
                have hkl' : k' < l.length := by omega
                have hb1 : (0 : Int) ≤ (k' : Int) := by omega
                have hb2 : (k' : Int) < (l.length : Int) := by omega
                have hb3 : (k' : Int) + 1 < (l.length : Int) := by omega
                have hb4 : (0 : Int) ≤ (k' : Int) + 1 := by omega
                have hk6 : k' < 6 := by omega
                have hw1 : IntKind.i64.wrap ((k' : Int) + 1 - 1) = (k' : Int) := by rw [IntKind.wrap_i64]; omega
                have hw2 : IntKind.i64.wrap (k' : Int) = (k' : Int) := by rw [IntKind.wrap_i64]; omega
                have hw3 : IntKind.i64.wrap (((k' + 1 : Nat) : Int) - 1) = (k' : Int) := by rw [IntKind.wrap_i64]; omega
                obtain ⟨p', hp'⟩ : ∃ p', l[k']? = some p' := ⟨l[k'], by simp [hkl']⟩
                obtain ⟨x', hx'⟩ : ∃ x', r[k']? = some x' := ⟨r[k']'(by have := HRlen.out; omega), by simp⟩
                have hfit' := row_fit l r k' p' x' HRr.out hp' hx'
                have HTi : Hid (tiedB T p x' x = true) := row_tied l r k' p x' x HRr.out HFx.out.1 hx' HFx.out.2.1
                have HCo : Hid (∀ W, Below W2.heap.size W2 W → W.cell? ⟨w.heap.size + 1, 0, none⟩ = some (.slice an N.length cn) ∧ W.cell? ⟨w.heap.size + 1, 1, none⟩ = some (.slice am T.length cm) ∧ W.cell? ⟨bw, i, none⟩ = some (.slice (some ⟨bu, 0, none⟩) l.length cu) ∧ W.cell? ⟨bu, k', none⟩ = some (.int .i64 x') ∧ W.cell? ⟨bl, off + (k' + 1) * 4, none⟩ = some (.string (bs p.bd))) := fun W hW => ⟨(HQ.out W hW).2.2.1.1, (HQ.out W hW).2.2.1.2, (HU.out W hW).1, (HU.out W hW).2.1 k' x' hx', (HLp.out W hW (k' + 1) p HFx.out.1).1.1⟩
                have HOt : Hid (∀ W, Below W2.heap.size W2 W → Calls Tryz.prog 8 #[.agg #[.slice an N.length cn, .slice am T.length cm], .int .i64 x', .string (bs p.bd)] W fun e w' => ∃ v, e = .returned (.tuple #[v, .nilIface]) ∧ IsI w' v (outs T (bs p.bd) x') ∧ Below W.heap.size W w') := fun W hW => out_row (HS.out.2.2.2.1.on (HQ.out W hW).1) (HS.out.2.2.2.2.1.on (HQ.out W hW).1) HS.out.2.2.2.2.2.1 HS.out.2.2.2.2.2.2 HG.out hfit' (bs p.bd)
                have HIn : Hid (∀ W, Below W2.heap.size W2 W → Calls Tryz.prog 9 #[.agg #[.slice an N.length cn, .slice am T.length cm], .int .i64 x', .string (bs p.bd)] W fun e w' => ∃ v, e = .returned (.tuple #[v, .nilIface]) ∧ IsI w' v (inns T (bs p.bd) x') ∧ Below W.heap.size W w') := fun W hW => in_row (HS.out.2.2.2.1.on (HQ.out W hW).1) (HS.out.2.2.2.2.1.on (HQ.out W hW).1) HS.out.2.2.2.2.2.1 HS.out.2.2.2.2.2.2 HG.out hfit' (bs p.bd)
                have l120 : Hid (T.length ≤ 120) := (gErr_len HG.out).2
                obtain ⟨z0, z1, z2, z3, z4⟩ := HCo.out wr HBt.out
                clear hk0 hp' hx' hfit'
                go_upto_region 28 with fail
                go_cut [22, 23] (fun s22 s23 wx => s23 = .nilIface ∧ IsI wx s22 (outs T (bs p.bd) x') ∧ Below W2.heap.size W2 wx)
                case first =>
                  first | (go_region_held3 (fun w' => w'.cell? ⟨w.heap.size + 1, 0, none⟩ = some (.slice an N.length cn) ∧ w'.cell? ⟨w.heap.size + 1, 1, none⟩ = some (.slice am T.length cm) ∧ w'.cell? ⟨bw, i, none⟩ = some (.slice (some ⟨bu, 0, none⟩) l.length cu) ∧ w'.cell? ⟨bu, k', none⟩ = some (.int .i64 x') ∧ w'.cell? ⟨bl, off + (k' + 1) * 4, none⟩ = some (.string (bs p.bd))) (go_keep) (first | (go_at_call 8; refine (HOt.out _ (b_drew HBt.out)).mono ?_; rintro e W28 ⟨v28, rfl, hI28, hB28⟩; have hb28 := on1K (b_drew HBt.out) hB28 (Nat.le_refl _); obtain ⟨z0, z1, z2, z3, z4⟩ := HCo.out W28 hb28; have HB28 := Lib.hid (And.intro hI28 hb28); clear hB28 hb28 hI28))) | fail
                  all_goals
                    go_wp2
                    go_meet
                    with_reducible exact ⟨rfl, HB28.out.1, HB28.out.2⟩
                case rest =>
                obtain ⟨rfl, hIo, hBo⟩ := hcut
                obtain ⟨W28, hW28⟩ : ∃ W, W = wc := ⟨wc, rfl⟩
                subst hW28
                have bb := (HLp.out W28 hBo (k' + 1) p HFx.out.1).1.2.1
                clear z0 z1 z2 z3 z4
                cases hbk : p.back
                · have HBk : Hid (p.back = false) := hbk
                  rw [hbk] at bb
                  clear hbk
                  obtain ⟨d1, d2, _, _⟩ := HU.out W28 hBo
                  have d2x := d2 (k' + 1) x HFx.out.2.1
                  have cR := rin_any hIo (Nat.le_trans (outs_le _ _ _) (Nat.le_trans l120.out (by decide))) x
                  rw [tied_out HBk.out HTi.out] at cR
                  have HRR : Hid (LwI l.length W2 (.int .i64 ((k' + 1 + 1 : Nat) : Int)) W28) := ⟨k' + 1 + 1, hkl, rfl, hBo⟩
                  clear hIo hBo d2
                  go_wp2_with (first | (go_at_call 10; refine cR.mono ?_; rintro e Wx ⟨rfl, hWx⟩; subst hWx))
                  refine ⟨?_, ?_⟩
                  · first | exact HRR.out | ((repeat apply Exists.intro); refine ⟨?_, rfl⟩; exact HRR.out)
                  · simp [intOf]
                    try omega
                · have HBk : Hid (p.back = true) := hbk
                  rw [hbk] at bb
                  obtain ⟨z0, z1, z2, z3, z4⟩ := HCo.out W28 hBo
                  have HBt := Lib.hid hBo
                  clear hbk hIo hBo
                  go_upto_region 30 with fail
                  go_cut [22, 23] (fun s22 s23 wx => s23 = .nilIface ∧ IsI wx s22 (inns T (bs p.bd) x') ∧ Below W2.heap.size W2 wx)
                  case first =>
                    first | (go_region_held3 (fun w' => w'.cell? ⟨w.heap.size + 1, 0, none⟩ = some (.slice an N.length cn) ∧ w'.cell? ⟨w.heap.size + 1, 1, none⟩ = some (.slice am T.length cm) ∧ w'.cell? ⟨bw, i, none⟩ = some (.slice (some ⟨bu, 0, none⟩) l.length cu) ∧ w'.cell? ⟨bu, k', none⟩ = some (.int .i64 x') ∧ w'.cell? ⟨bl, off + (k' + 1) * 4, none⟩ = some (.string (bs p.bd))) (go_keep) (first | (go_at_call 9; refine (HIn.out _ (b_drew HBt.out)).mono ?_; rintro e W28 ⟨v28, rfl, hI28, hB28⟩; have hb28 := on1K (b_drew HBt.out) hB28 (Nat.le_refl _); obtain ⟨z0, z1, z2, z3, z4⟩ := HCo.out W28 hb28; have HB28 := Lib.hid (And.intro hI28 hb28); clear hB28 hb28 hI28))) | fail
                    all_goals
                      go_wp2
                      go_meet
                      with_reducible exact ⟨rfl, HB28.out.1, HB28.out.2⟩
                  case rest =>
                  obtain ⟨rfl, hIo, hBo⟩ := hcut
                  obtain ⟨W30, hW30⟩ : ∃ W, W = wc := ⟨wc, rfl⟩
                  subst hW30
                  clear z0 z1 z2 z3 z4
                  obtain ⟨d1, d2, _, _⟩ := HU.out W30 hBo
                  have d2x := d2 (k' + 1) x HFx.out.2.1
                  have cR := rin_any hIo (Nat.le_trans (inns_le _ _ _) (Nat.le_trans l120.out (by decide))) x
                  rw [tied_in HBk.out HTi.out] at cR
                  have HRR : Hid (LwI l.length W2 (.int .i64 ((k' + 1 + 1 : Nat) : Int)) W30) := ⟨k' + 1 + 1, hkl, rfl, hBo⟩
                  clear hIo hBo d2
                  go_wp2_with (first | (go_at_call 10; refine cR.mono ?_; rintro e Wx ⟨rfl, hWx⟩; subst hWx))
                  refine ⟨?_, ?_⟩
                  · first | exact HRR.out | ((repeat apply Exists.intro); refine ⟨?_, rfl⟩; exact HRR.out)
                  · simp [intOf]
                    try omega
        · have HRR : Hid (LwI R.length W2 (.int .i64 ((i + 1 : Nat) : Int)) wr) := ⟨i + 1, hil, rfl, hBk⟩
          clear hBk
          go_wp2
          refine ⟨?_, ?_⟩
          · first | exact HRR.out | ((repeat apply Exists.intro); refine ⟨?_, rfl⟩; exact HRR.out)
          · simp [intOf]
            try omega
    · as_aux_lemma =>
      have HBi := Lib.hid hBi
      obtain ⟨i0, hi0, hz0, hz1, hz2⟩ := info_parts infoSp
      obtain ⟨j0, hj0, hy0, hy1, hy2⟩ := info_parts infoI
      have HWr : Hid (∀ W v, Below W2.heap.size W2 W → IsSp W v (revP l) → Calls Tryz.prog 4 #[.agg #[.slice ak L.length ck, .slice ab B.length cb], .agg #[.slice an N.length cn, .slice am T.length cm], v] W (WkP L B N T (revP l) W)) := fun W v hW hv => walk_any (HP.out.1.on (HQ.out W hW).1) (HP.out.2.1.on (HQ.out W hW).1) hv (fun p hp => by
        obtain ⟨q, hq, _, e2⟩ := revP_mem l p hp
        have := HP.out.2.2.2 q hq
        unfold SpSz at this ⊢
        rw [e2]; exact this)
      have hlpos : 0 < l.length := by
        cases l with
        | nil => have := HE.out; exact absurd (walk_zero this).1 (by intro h; exact (pt_ok h).2.1 rfl)
        | cons a b => simp
      clear hBi
      go_wp2
      go_loopw [25, 26] (fun v i wr => BkR l W2 v i wr) (fun _ i _ => (intOf i + 1).toNat)
      case atStart => exact ⟨l.length, Nat.le_refl _, rfl, by rw [Nat.sub_self]; exact World.ownsRow_nil _ _ _ _, HBi.out⟩
      case round =>
        obtain ⟨m, hm, rfl, ho, hB⟩ := hrel
        cases m with
        | succ k =>
          have hkk : ((k + 1 : Nat) : Int) - 1 = (k : Int) := by omega
          rw [hkk]
          have hkl : k < l.length := hm
          obtain ⟨p, hp⟩ : ∃ p, l[k]? = some p := ⟨l[k], by simp [hkl]⟩
          obtain ⟨⟨_, _, e2, e3⟩, hTs⟩ := HLp.out wr hB k p hp
          obtain ⟨at', ct, hvt⟩ := hTs.sl
          rw [hvt] at e3
          have hblz : bl < wr.heap.size := Nat.lt_of_lt_of_le hbl (HQ.out wr hB).1.size
          have nn2 := World.new_ne wr _ e2
          have nn3 := World.new_ne wr _ e3
          have HX : Hid (l[k]? = some p ∧ p.vt = .slice at' p.ts.length ct) := ⟨hp, hvt⟩
          have HOw : Hid (wr.ownsRow W2.heap.size 46 4 u25 ((revP l).take (l.length - (k + 1))).length (cellsSp ((revP l).take (l.length - (k + 1)))) ∧ Below W2.heap.size W2 wr) := ⟨ho, hB⟩
          clear hkk hp hTs hvt ho hB
          go_upto_region 38 with fail
          first | (go_region_held3 (fun w' => w'.cell? ⟨bl, off + k * 4 + 2, none⟩ = some (.string (bs p.kd)) ∧ w'.cell? ⟨bl, off + k * 4 + 3, none⟩ = some (.slice at' p.ts.length ct)) (go_keep) (fail)) | fail
          obtain ⟨WA, hWA⟩ : ∃ WA, WA = (wr.alloc (.cells #[.string ⟨#[]⟩, .bool false, .string (bs p.kd), .slice at' p.ts.length ct] 46)).drew := ⟨_, rfl⟩
          have hBA : Below wr.heap.size wr WA := by rw [hWA]; exact b_drew (b_alloc (Below.refl _ _) _)
          have nA : WA.heap[wr.heap.size]? = some (.cells #[.string ⟨#[]⟩, .bool false, .string (bs p.kd), .slice at' p.ts.length ct] 46 (0, 0)) := by rw [hWA]; exact heap_alloc_new wr _
          have hsA : wr.heap.size < WA.heap.size := (Array.getElem?_eq_some_iff.1 nA).1
          have hB2A : Below W2.heap.size W2 WA := on1K HOw.out.2 hBA (Nat.le_refl _)
          have hown : u25.ownBlock ≠ some wr.heap.size := fun e => by have := (HOw.out.1.lt _ e).2; omega
          rw [← hWA]
          clear hWA e2 e3 nn2 nn3
          by_cases hlast : k + 1 < l.length
          · as_aux_lemma =>
            obtain ⟨p2, hp2⟩ : ∃ p2, l[k + 1]? = some p2 := ⟨l[k + 1], by simp [hlast]⟩
            obtain ⟨⟨c0, c1, _, _⟩, _⟩ := HLp.out WA hB2A (k + 1) p2 hp2
            have HQv : Hid ((revQ l[k + 1]? p).cells = [.string (bs p2.bd), .bool (!p2.back), .string (bs p.kd), .slice at' p.ts.length ct]) := by show _ = _; rw [hp2]; show [_, _, _, p.vt] = _; rw [HX.out.2]; rfl
            have hli : (k : Int) < (l.length : Int) - 1 := by omega
            have y0 : WA.cell? ⟨wr.heap.size, 0, none⟩ = some (.string ⟨#[]⟩) := cell_at nA rfl
            have z0 : WA.frozen? ⟨wr.heap.size, 0, none⟩ = false := frz_at nA
            have nB := heap_setCell_same WA wr.heap.size 0 _ 46 (.string (bs p2.bd)) nA
            have y1 : (WA.setCell ⟨wr.heap.size, 0, none⟩ (.string (bs p2.bd))).cell? ⟨wr.heap.size, 1, none⟩ = some (.bool false) := cell_at nB rfl
            have z1 : (WA.setCell ⟨wr.heap.size, 0, none⟩ (.string (bs p2.bd))).frozen? ⟨wr.heap.size, 1, none⟩ = false := frz_at nB
            have c1' : (WA.setCell ⟨wr.heap.size, 0, none⟩ (.string (bs p2.bd))).cell? ⟨bl, off + (k + 1) * 4 + 1, none⟩ = some (.bool p2.back) := (World.cell?_setCell_far _ _ _ _ (by show wr.heap.size ≠ bl; omega)).trans c1
            have nC := heap_setCell_same _ wr.heap.size 1 _ 46 (.bool (!p2.back)) nB
            obtain ⟨WB, hWB⟩ : ∃ WB, WB = (WA.setCell ⟨wr.heap.size, 0, none⟩ (.string (bs p2.bd))).setCell ⟨wr.heap.size, 1, none⟩ (.bool (!p2.back)) := ⟨_, rfl⟩
            rw [← hWB] at nC
            have HX2 : Hid (WB.ownsRow W2.heap.size 46 4 u25 ((revP l).take (l.length - (k + 1))).length (cellsSp ((revP l).take (l.length - (k + 1)))) ∧ Below W2.heap.size W2 WB) := by
              rw [hWB]
              exact ⟨own_set (own_set (own_kt HOw.out.1 (.of_below hBA)) hown _ _) hown _ _, (hB2A.setCell (p := ⟨wr.heap.size, 0, none⟩) HOw.out.2.size _).setCell (p := ⟨wr.heap.size, 1, none⟩) HOw.out.2.size _⟩
            have f0 : WB.cell? ⟨wr.heap.size, 0, none⟩ = some (.string (bs p2.bd)) := cell_at nC rfl
            have f1 : WB.cell? ⟨wr.heap.size, 1, none⟩ = some (.bool (!p2.back)) := cell_at nC rfl
            have f2 : WB.cell? ⟨wr.heap.size, 2, none⟩ = some (.string (bs p.kd)) := cell_at nC rfl
            have f3 : WB.cell? ⟨wr.heap.size, 3, none⟩ = some (.slice at' p.ts.length ct) := cell_at nC rfl
            clear hp2 nA nB nC hBA hB2A
            go_upto_region 42 with fail
            rw [← hWB]
            clear hWB y0 y1 z0 z1 c0 c1 c1'
            have HH : Hid ((WB.alloc (.cells #[.string (bs p2.bd), .bool (!p2.back), .string (bs p.kd), .slice at' p.ts.length ct] 46)).ownsRow W2.heap.size 46 4 u25 ((revP l).take (l.length - (k + 1))).length (cellsSp ((revP l).take (l.length - (k + 1)))) ∧ Below W2.heap.size W2 (WB.alloc (.cells #[.string (bs p2.bd), .bool (!p2.back), .string (bs p.kd), .slice at' p.ts.length ct] 46))) := ⟨HX2.out.1.alloc _, b_alloc HX2.out.2 _⟩
            have HL2 : Hid (((revP l).take (l.length - (k + 1))).length + 1 ≤ maxLen ∧ (((revP l).take (l.length - (k + 1))).length + 1) * 64 ≤ 140737488355328) := by
              rw [List.length_take, revP_len]; unfold maxLen; exact ⟨by omega, by omega⟩
            go_wp2_with (at_builtin; refine wpList_append_own _ rfl (.tmp 262) (.tmp 264) 30 rfl W2.heap.size 46 i0 _ 4 64 Tryz.underlying30 hi0 hz0 hz1 hz2 rfl (by decide) u25 ((revP l).take (l.length - (k + 1))).length (cellsSp ((revP l).take (l.length - (k + 1)))) rfl HH.out.1 ⟨WB.heap.size, 0, none⟩ 1 1 [.string (bs p2.bd), .bool (!p2.back), .string (bs p.kd), .slice at' p.ts.length ct] rfl rfl (new_at _ _ _) (by simp [Value.oneCell']) HL2.out.1 HL2.out.2 HH.out.2.size ?_; intro v1 w1 hown1 hgrow1 _; refine Hid.out ?_)
            refine Lib.hid ?_
            have HRR : Hid (BkR l W2 v1 (.int .i64 ((k : Int) - 1)) w1) := by
              refine ⟨k, Nat.le_of_lt hkl, rfl, ?_, HH.out.2.grown hgrow1 HH.out.2.size (fun k hk => (HH.out.1.lt k hk).1)⟩
              rw [revP_take HX.out.1, List.length_append, cellsSp_snoc, HQv.out]
              exact hown1
            clear hown1 hgrow1
            go_wp2
            refine ⟨?_, ?_⟩
            · first | exact HRR.out | ((repeat apply Exists.intro); refine ⟨?_, rfl⟩; exact HRR.out)
            · simp [intOf]
              try omega
          · have hp2 : l[k + 1]? = none := List.getElem?_eq_none (by omega)
            have HQv : Hid ((revQ l[k + 1]? p).cells = [.string ⟨#[]⟩, .bool false, .string (bs p.kd), .slice at' p.ts.length ct]) := by show _ = _; rw [hp2]; show [_, _, _, p.vt] = _; rw [HX.out.2]; rfl
            have hli : ¬ ((k : Int) < (l.length : Int) - 1) := by omega
            have HX2 : Hid (WA.ownsRow W2.heap.size 46 4 u25 ((revP l).take (l.length - (k + 1))).length (cellsSp ((revP l).take (l.length - (k + 1)))) ∧ Below W2.heap.size W2 WA) := ⟨own_kt HOw.out.1 (.of_below hBA), hB2A⟩
            have f0 : WA.cell? ⟨wr.heap.size, 0, none⟩ = some (.string ⟨#[]⟩) := cell_at nA rfl
            have f1 : WA.cell? ⟨wr.heap.size, 1, none⟩ = some (.bool false) := cell_at nA rfl
            have f2 : WA.cell? ⟨wr.heap.size, 2, none⟩ = some (.string (bs p.kd)) := cell_at nA rfl
            have f3 : WA.cell? ⟨wr.heap.size, 3, none⟩ = some (.slice at' p.ts.length ct) := cell_at nA rfl
            clear hp2 nA hBA hB2A
            have HH : Hid ((WA.alloc (.cells #[.string ⟨#[]⟩, .bool false, .string (bs p.kd), .slice at' p.ts.length ct] 46)).ownsRow W2.heap.size 46 4 u25 ((revP l).take (l.length - (k + 1))).length (cellsSp ((revP l).take (l.length - (k + 1)))) ∧ Below W2.heap.size W2 (WA.alloc (.cells #[.string ⟨#[]⟩, .bool false, .string (bs p.kd), .slice at' p.ts.length ct] 46))) := ⟨HX2.out.1.alloc _, b_alloc HX2.out.2 _⟩
            have HL2 : Hid (((revP l).take (l.length - (k + 1))).length + 1 ≤ maxLen ∧ (((revP l).take (l.length - (k + 1))).length + 1) * 64 ≤ 140737488355328) := by
              rw [List.length_take, revP_len]; unfold maxLen; exact ⟨by omega, by omega⟩
            go_wp2_with (at_builtin; refine wpList_append_own _ rfl (.tmp 262) (.tmp 264) 30 rfl W2.heap.size 46 i0 _ 4 64 Tryz.underlying30 hi0 hz0 hz1 hz2 rfl (by decide) u25 ((revP l).take (l.length - (k + 1))).length (cellsSp ((revP l).take (l.length - (k + 1)))) rfl HH.out.1 ⟨WA.heap.size, 0, none⟩ 1 1 [.string ⟨#[]⟩, .bool false, .string (bs p.kd), .slice at' p.ts.length ct] rfl rfl (new_at _ _ _) (by simp [Value.oneCell']) HL2.out.1 HL2.out.2 HH.out.2.size ?_; intro v1 w1 hown1 hgrow1 _; refine Hid.out ?_)
            refine Lib.hid ?_
            have HRR : Hid (BkR l W2 v1 (.int .i64 ((k : Int) - 1)) w1) := by
              refine ⟨k, Nat.le_of_lt hkl, rfl, ?_, HH.out.2.grown hgrow1 HH.out.2.size (fun k hk => (HH.out.1.lt k hk).1)⟩
              rw [revP_take HX.out.1, List.length_append, cellsSp_snoc, HQv.out]
              exact hown1
            clear hown1 hgrow1
            go_wp2
            refine ⟨?_, ?_⟩
            · first | exact HRR.out | ((repeat apply Exists.intro); refine ⟨?_, rfl⟩; exact HRR.out)
            · simp [intOf]
              try omega
        | zero =>
          have hm1 : ((0 : Nat) : Int) - 1 = -1 := rfl
          rw [hm1]
          rw [Nat.sub_zero, ← revP_len l, List.take_length] at ho
          have hIsp : IsSp wr u25 (revP l) := own_isSp ho (fun p hp => by
            obtain ⟨q, hq, e1, e2⟩ := revP_mem l p hp
            obtain ⟨k, hk⟩ := List.getElem?_of_mem hq
            rw [e1, e2]
            exact (HLp.out wr hB k q hk).2)
          have cW2 := HWr.out wr u25 hB hIsp
          unfold WkP at cW2
          obtain ⟨hbw, ⟨s0, s1⟩, ⟨g0, g1⟩, _⟩ := HQ.out wr hB
          have HBz := Lib.hid (And.intro hB hbw)
          clear ho hIsp hB hbw
          rcases walk_rev HE.out with e0 | e4
          · as_aux_lemma =>
            rw [e0, errV_0] at cW2
            clear e0
            go_wp2_with (first
              | (go_at_call 4; refine cW2.mono ?_; rintro e W5 ⟨v5, rfl, hR5, hB5⟩; refine Hid.out ?_))
            refine Lib.hid ?_
            obtain ⟨R5, hw5, hI5, _, hl5⟩ := hR5 trivial
            have hRf5 := walkR_rows (revP l) [[]] R5 hw5
            have hrr := rows_rev (L := L) (N := N) (T := T) (gErr_srt HG.out) l
            rw [← hRf5, ← HRf.out] at hrr
            have HRv : Hid (∀ r ∈ R5, r.reverse ∈ R) := hrr.2
            have hlen : R5.length = R.length := hrr.1
            have hleni : ((R5.length : Int) != (R.length : Int)) = false := by simp [hlen]
            have hlend : ¬ ¬ (R5.length : Int) = (R.length : Int) := by simp [hlen]
            have HI5 : Hid (IsRw W5 v5 R5) := hI5
            have HL5 : Hid (∀ r ∈ R5, r.length = l.length) := fun r hr => by rw [hl5 r hr, revP_len]
            obtain ⟨a5, c5, hv5⟩ := hI5.sl
            subst hv5
            have HB5 : Hid (Below W2.heap.size W2 W5 ∧ Below w.heap.size w W5) := ⟨on1K HBz.out.1 hB5 (Nat.le_refl _), on1K HBz.out.2 hB5 (Nat.le_refl _)⟩
            have l5 : R5.length ≤ 200 := by omega
            clear hR5 hw5 hI5 hl5 hRf5 hrr hB5 cW2 s0 s1 g0 g1 hlen
            go_wp2
            go_loopw [30] (fun i wr => LwI R5.length W5 i wr) (fun i _ => R5.length - (intOf i).toNat)
            case atStart => exact ⟨0, Nat.zero_le _, rfl, Below.refl _ _⟩
            case round =>
              obtain ⟨i5, hi5, rfl, hB⟩ := hrel
              by_cases hil5 : i5 < R5.length
              · as_aux_lemma =>
                obtain ⟨r, hr⟩ : ∃ r, R5[i5]? = some r := ⟨R5[i5], by simp [hil5]⟩
                have hrm := List.mem_of_getElem? hr
                have hrl : r.length = l.length := HL5.out r hrm
                have HRm : Hid (r.reverse ∈ R) := HRv.out r hrm
                obtain ⟨bw, ha5, hbw, hcw⟩ : ∃ bw, a5 = some ⟨bw, 0, none⟩ ∧ bw < W5.heap.size ∧ ∃ u, W5.cell? ⟨bw, i5, none⟩ = some u ∧ IsI W5 u r := by
                  rcases HI5.out with ⟨_, e⟩ | ⟨b, c, e, hb, hc⟩
                  · rw [e] at hil5; exact absurd hil5 (by simp)
                  · injection e with q1 _ _
                    exact ⟨b, q1, hb, hc i5 r hr⟩
                subst ha5
                obtain ⟨u, hu, hIu⟩ := hcw
                obtain ⟨bu, cu, hue, hbu, hcu⟩ : ∃ bu cu, u = .slice (some ⟨bu, 0, none⟩) r.length cu ∧ bu < W5.heap.size ∧ ∀ k x, r[k]? = some x → W5.cell? ⟨bu, k, none⟩ = some (.int .i64 x) := by
                  rcases hIu with ⟨_, e⟩ | ⟨b, c, e, _, hb, hc⟩
                  · rw [e] at hrl; simp at hrl; omega
                  · exact ⟨b, c, e, hb, hc⟩
                subst hue
                have HU5 : Hid (∀ W, Below W5.heap.size W5 W → W.cell? ⟨bw, i5, none⟩ = some (.slice (some ⟨bu, 0, none⟩) r.length cu) ∧ (∀ k x, r[k]? = some x → W.cell? ⟨bu, k, none⟩ = some (.int .i64 x))) := fun W hW => ⟨(hW.cell (p := ⟨bw, i5, none⟩) hbw).trans hu, fun k x hx => (hW.cell (p := ⟨bu, k, none⟩) hbu).trans (hcu k x hx)⟩
                obtain ⟨d0, _⟩ := HU5.out wr hB
                have HB := Lib.hid hB
                have hr6 : r.length ≤ 6 := by omega
                clear hrm hu hIu hcu hr hB hrl
                go_wp2
                go_loopw [31, 32] (fun v i wr => RvR r W5 v i wr) (fun _ i _ => (intOf i + 1).toNat)
                case atStart => exact ⟨r.length, Nat.le_refl _, rfl, by rw [Nat.sub_self]; exact World.ownsRow_nil _ _ _ _, HB.out⟩
                case round =>
                  obtain ⟨m, hm, rfl, ho, hB⟩ := hrel
                  cases m with
                  | succ k =>
                    have hkk : ((k + 1 : Nat) : Int) - 1 = (k : Int) := by omega
                    rw [hkk]
                    have hkl : k < r.length := hm
                    obtain ⟨x, hx⟩ : ∃ x, r[k]? = some x := ⟨r[k], by simp [hkl]⟩
                    obtain ⟨d1, d2⟩ := HU5.out wr hB
                    have d2x := d2 k x hx
                    have HX : Hid (r[k]? = some x) := hx
                    have HH : Hid ((wr.alloc (.cells #[.int .i64 x] 3)).ownsRow W5.heap.size 3 1 u31 (r.reverse.take (r.length - (k + 1))).length (cellsI (r.reverse.take (r.length - (k + 1)))) ∧ Below W5.heap.size W5 (wr.alloc (.cells #[.int .i64 x] 3))) := ⟨ho.alloc _, b_alloc hB _⟩
                    have HL2 : Hid ((r.reverse.take (r.length - (k + 1))).length + 1 ≤ maxLen ∧ ((r.reverse.take (r.length - (k + 1))).length + 1) * 8 ≤ 140737488355328) := by
                      rw [List.length_take, List.length_reverse]; unfold maxLen; exact ⟨by omega, by omega⟩
                    clear hkk hx d2 ho hB
                    go_wp2_with (at_builtin; refine wpList_append_own _ rfl (.tmp 298) (.tmp 306) 47 rfl W5.heap.size 3 j0 _ 1 8 Tryz.underlying47 hj0 hy0 hy1 hy2 rfl (by decide) u31 (r.reverse.take (r.length - (k + 1))).length (cellsI (r.reverse.take (r.length - (k + 1)))) rfl HH.out.1 ⟨wr.heap.size, 0, none⟩ 1 1 [.int .i64 x] rfl rfl (new_at _ _ _) (by simp [Value.oneCell']) HL2.out.1 HL2.out.2 HH.out.2.size ?_; intro v1 w1 hown1 hgrow1 _; refine Hid.out ?_)
                    refine Lib.hid ?_
                    have HRR : Hid (RvR r W5 v1 (.int .i64 ((k : Int) - 1)) w1) := by
                      refine ⟨k, Nat.le_of_lt hkl, rfl, ?_, HH.out.2.grown hgrow1 HH.out.2.size (fun k hk => (HH.out.1.lt k hk).1)⟩
                      rw [rev_take HX.out, List.length_append, cellsI_app]
                      exact hown1
                    clear hown1 hgrow1
                    go_wp2
                    refine ⟨?_, ?_⟩
                    · first | exact HRR.out | ((repeat apply Exists.intro); refine ⟨?_, rfl⟩; exact HRR.out)
                    · simp [intOf]
                      try omega
                  | zero =>
                    have hm1 : ((0 : Nat) : Int) - 1 = -1 := rfl
                    rw [hm1]
                    rw [Nat.sub_zero, List.take_of_length_le (by simp)] at ho
                    obtain ⟨W6, hW6⟩ : ∃ W, W = wr := ⟨wr, rfl⟩
                    subst hW6
                    have HI6 : Hid (∀ W, Below W6.heap.size W6 W → IsI W u31 r.reverse) := fun W hW => (own_isI ho).on hW
                    have HB6 := Lib.hid hB
                    have lR2 : R.length ≤ 200 := lR
                    have HR6 : Hid (r.reverse.length ≤ 1000) := by show _ ≤ _; rw [List.length_reverse]; omega
                    clear ho hB
                    go_wp2
                    go_loopw [33, 34] (fun v i wr => HsR R r.reverse W6 v i wr) (fun _ i _ => R.length - (intOf i).toNat)
                    case atStart => exact ⟨0, Nat.zero_le _, rfl, rfl, Below.refl _ _⟩
                    case round =>
                      obtain ⟨c, hc, rfl, rfl, hB⟩ := hrel
                      by_cases hcl : c < R.length
                      · as_aux_lemma =>
                        obtain ⟨x, hx⟩ : ∃ x, R[c]? = some x := ⟨R[c], by simp [hcl]⟩
                        have hB2 : Below W2.heap.size W2 wr := on1K HB5.out.1 (on1K HB6.out hB (Nat.le_refl _)) (Nat.le_refl _)
                        obtain ⟨bR, haR, uR, huR, hIR⟩ : ∃ bR, aR = some ⟨bR, 0, none⟩ ∧ ∃ u, wr.cell? ⟨bR, c, none⟩ = some u ∧ IsI wr u x := by
                          rcases HIR.out.on hB2 with ⟨_, e⟩ | ⟨b, c', e, hb, hc'⟩
                          · rw [e] at hcl; exact absurd hcl (by simp)
                          · injection e with q1 _ _
                            exact ⟨b, q1, hc' c x hx⟩
                        subst haR
                        have hx6 : x.length ≤ 1000 := by rw [HRl.out x (List.mem_of_getElem? hx)]; omega
                        have cS := sints_any hIR (HI6.out wr hB) hx6 HR6.out
                        obtain ⟨aU, cU, huS⟩ := hIR.sl
                        subst huS
                        have HN7 : Hid (hasRow R r.reverse (c + 1) = (hasRow R r.reverse c || decide (x = r.reverse))) := hasRow_next hx
                        generalize decide (x = r.reverse) = dx at cS HN7
                        generalize hasRow R r.reverse c = hc0 at HN7 ⊢
                        have HB7 := Lib.hid hB
                        clear hx hB hB2 hIR hx6
                        cases hc0
                        · go_wp2_with (first | (go_at_call 12; refine cS.mono ?_; rintro e W7 ⟨rfl, hB7⟩; have HBx := Lib.hid (on1K HB7.out hB7 (Nat.le_refl _)); clear hB7))
                          have HRR : Hid (HsR R r.reverse W6 (.bool dx) (.int .i64 ((c + 1 : Nat) : Int)) W7) := ⟨c + 1, hcl, rfl, by rw [HN7.out]; rfl, HBx.out⟩
                          refine ⟨?_, ?_⟩
                          · first | exact HRR.out | ((repeat apply Exists.intro); refine ⟨?_, rfl⟩; exact HRR.out)
                          · simp [intOf]
                            try omega
                        · go_wp2_with (first | (go_at_call 12; refine cS.mono ?_; rintro e W7 ⟨rfl, hB7⟩; have HBx := Lib.hid (on1K HB7.out hB7 (Nat.le_refl _)); clear hB7))
                          have HRR : Hid (HsR R r.reverse W6 (.bool true) (.int .i64 ((c + 1 : Nat) : Int)) W7) := ⟨c + 1, hcl, rfl, by rw [HN7.out]; rfl, HBx.out⟩
                          refine ⟨?_, ?_⟩
                          · first | exact HRR.out | ((repeat apply Exists.intro); refine ⟨?_, rfl⟩; exact HRR.out)
                          · simp [intOf]
                            try omega
                      · rw [hasRow_all HRm.out (by omega)]
                        have HRR : Hid (LwI R5.length W5 (.int .i64 ((i5 + 1 : Nat) : Int)) wr) := ⟨i5 + 1, hil5, rfl, on1K HB6.out hB (Nat.le_refl _)⟩
                        clear hB
                        go_wp2
                        refine ⟨?_, ?_⟩
                        · first | exact HRR.out | ((repeat apply Exists.intro); refine ⟨?_, rfl⟩; exact HRR.out)
                        · simp [intOf]
                          try omega
              · have HEnd : Hid (Below w.heap.size w wr) := on1K HB5.out.2 hB (Nat.le_refl _)
                clear hB
                go_wp2
                go_ret
                exact ⟨rfl, HEnd.out⟩
          · rw [e4, errV_4] at cW2
            clear e4
            go_wp2_with (first
              | (go_at_call 4; refine cW2.mono ?_; rintro e W5 ⟨v5, rfl, _, hB5⟩; have cE := error_any 4 W5 (Hnd.onP HHd.out (on1K HBz.out.2 hB5 (Nat.le_refl _))); rw [errV_4] at cE; have HB5 := Lib.hid (on1K HBz.out.2 hB5 (Nat.le_refl _)); clear hB5)
              | (go_at_call 11; refine cE.mono ?_; rintro e W6 ⟨rfl, hB6⟩))
            go_ret
            exact ⟨rfl, on1K HB5.out hB6 (Nat.le_refl _)⟩

end Go.Proofs.YtifcpjimhhpcpaaGreatDoor
