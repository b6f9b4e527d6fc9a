/-
  New of anything; move.Graph.
-/
import Derived.Test.YtpmblbhemcippaaGreatM46
namespace Go.Proofs.YtpmblbhemcippaaGreat
open Go.RowKit
set_option linter.unusedVariables false
set_option linter.unusedSimpArgs false

set_option maxHeartbeats 4000000 in
set_option maxRecDepth 100000 in
theorem new_bad {w : World} {vk vb : Value} {L : List Kd} {B : List Bd} (c : Ch) (hK : IsK w vk L) (hP : Parts w L) (hz : SzK L) (hb : IsB w vb B) (hzb : SzB B) (hc : ChIs w c) (hcz : ChSz c) {gn gt : Value} {N : List Nd} {T : List Te} (hN : IsN w gn N) (hT : IsT w gt T) (zN : SzN N) (zT : SzT T) (lN : N.length ≤ maxLen) (lT : T.length ≤ maxLen) (h0 : ¬ doE L B c = 0) :
    Calls Tryz.prog 5 #[.agg #[vk, vb], c.one, .agg #[gn, gt]] w (NwP w L B c N T) := by
  have hnw : nwE L B c N T = doE L B c := by unfold nwE; rw [if_neg h0]
  have h1_w : ∀ W, Below w.heap.size w W → Calls Tryz.prog 14 #[.agg #[vk, vb], c.one] W fun e w' => e = .returned (.tuple #[.agg #[.slice none 0 0, .slice none 0 0, .slice none 0 0, .nilFunc, .string ⟨#[]⟩], .iface 74 (.int .i64 (doE L B c))]) ∧ Below W.heap.size W w' := fun W h => wayOf_no c (hK.on h) (hP.on h) hz (hb.on h) hzb (hc.on h) hcz h0
  obtain ⟨wh, nm, ⟨kn, ko, kf, vo, vf⟩, ⟨bn, bf, bt, mn, mx⟩, ⟨fnm, ft, fm, fk⟩, wt, wn, ws, tn⟩ := c
  obtain ⟨a1, c1, rfl, _⟩ := hK.sln
  obtain ⟨a2, c2, rfl, _⟩ := hb.sln
  obtain ⟨a3, c3, rfl, _⟩ := id hN
  obtain ⟨a4, c4, rfl, _⟩ := id hT
  obtain ⟨ao, lo1, co, q1⟩ := hc.1.sl
  obtain ⟨af, lf1, cf, q2⟩ := hc.2.sl
  simp only at q1 q2
  subst q1 q2
  obtain ⟨c0, hc0⟩ : ∃ c0 : Ch, c0 = ⟨wh, nm, ⟨kn, ko, kf, .slice ao lo1 co, .slice af lf1 cf⟩, ⟨bn, bf, bt, mn, mx⟩, ⟨fnm, ft, fm, fk⟩, wt, wn, ws, tn⟩ := ⟨_, rfl⟩
  have h18 : c0.one = .agg #[.int .i64 wh, .string (bs nm), .string (bs kn), .slice ao lo1 co, .slice af lf1 cf, .string (bs bn), .string (bs bf), .string (bs bt), .int .i64 mn, .int .i64 mx, .string (bs fnm), .int .i64 ft, .bool fm, .bool fk, .int .i64 wt, .int .i64 wn, .string (bs ws), .string (bs tn)] := by rw [hc0]
  rw [← hc0] at h0 hnw h1_w ⊢
  rw [h18] at h1_w ⊢
  generalize doE L B c0 = z at *
  clear hK hP hz hb hzb hc hcz hN hT zN zT lN lT hc0 h18
  obtain ⟨W0, hW0⟩ : ∃ W0, W0 = ((w.alloc (.cells #[.slice a1 L.length c1, .slice a2 B.length c2] 25)).alloc (.cells #[.int .i64 wh, .string (bs nm), .string (bs kn), .slice ao lo1 co, .slice af lf1 cf, .string (bs bn), .string (bs bf), .string (bs bt), .int .i64 mn, .int .i64 mx, .string (bs fnm), .int .i64 ft, .bool fm, .bool fk, .int .i64 wt, .int .i64 wn, .string (bs ws), .string (bs tn)] 37)).alloc (.cells #[.slice a3 N.length c3, .slice a4 T.length c4] 41) := ⟨_, rfl⟩
  have bx0 : Bx3 w (.slice a1 L.length c1) (.slice a2 B.length c2) (.slice a3 N.length c3) (.slice a4 T.length c4) #[.int .i64 wh, .string (bs nm), .string (bs kn), .slice ao lo1 co, .slice af lf1 cf, .string (bs bn), .string (bs bf), .string (bs bt), .int .i64 mn, .int .i64 mx, .string (bs fnm), .int .i64 ft, .bool fm, .bool fk, .int .i64 wt, .int .i64 wn, .string (bs ws), .string (bs tn)] W0 := by rw [hW0]; exact Bx3.mk3 _ _ _ _ _ _
  have s0 : W0.cell? ⟨w.heap.size, 0, none⟩ = some (.slice a1 L.length c1) := cell_at bx0.2.1 rfl
  have s1 : W0.cell? ⟨w.heap.size, 1, none⟩ = some (.slice a2 B.length c2) := cell_at bx0.2.1 rfl
  have HN := Lib.hid bx0.2.2.1
  have cW := h1_w W0 bx0.1
  have HB0 := Lib.hid bx0.1
  clear h1_w bx0
  have hst := fun (a : Addr) (W : World) => run_store Tryz.prog W a .nilFunc .plain rfl
  go_enter Tryz.func5, Tryz.ntmps5
  go_upto_region 1 with fail
  rw [← hW0]
  clear hW0
  go_upto_region 2 with (first | (refine wpList_load_row rfl 37 (.tmp 4) rfl (w.heap.size + 1) rfl 37 _ (0, 0) _ HN.out Tryz.underlying37 rfl info37 ?_) | (go_at_call 14; refine cW.mono ?_; rintro e W1 ⟨rfl, hB1⟩) | (refine wpList_store_new rfl 71 (.tmp 8) (.tmp 16) rfl _ _ rfl rfl info71 rfl rfl ?_))
  have hB2 : Below W0.heap.size W0 (W1.alloc (.cells #[.slice none 0 0, .slice none 0 0, .slice none 0 0, .nilFunc, .string ⟨#[]⟩] 71)) := on1K hB1 (b_alloc (Below.refl _ _) _) (Nat.le_refl _)
  generalize (W1.alloc (.cells #[.slice none 0 0, .slice none 0 0, .slice none 0 0, .nilFunc, .string ⟨#[]⟩] 71)) = W2 at *
  clear cW hB1 s0 s1 HN
  go_wp2
  go_ret2
  exact nwP_bad hnw h0 (on1K HB0.out hB2 (Nat.le_refl _))
theorem new_any {w : World} {vk vb : Value} {L : List Kd} {B : List Bd} (c : Ch) (hK : IsK w vk L) (hP : Parts w L) (hz : SzK L) (hb : IsB w vb B) (hzb : SzB B) (hc : ChIs w c) (hcz : ChSz c) {gn gt : Value} {N : List Nd} {T : List Te} (hN : IsN w gn N) (hT : IsT w gt T) (zN : SzN N) (zT : SzT T) (lN : N.length ≤ maxLen) (lT : T.length ≤ maxLen) :
    Calls Tryz.prog 5 #[.agg #[vk, vb], c.one, .agg #[gn, gt]] w (NwP w L B c N T) := by
  by_cases h0 : doE L B c = 0
  · by_cases hw : c.wh = 3 ∨ c.wh = 4 ∨ c.wh = 7
    · exact new_fun c hK hP hz hb hzb hc hcz hN hT zN zT lN lT h0 hw
    · exact new_nil c hK hP hz hb hzb hc hcz hN hT zN zT lN lT h0 hw
  · exact new_bad c hK hP hz hb hzb hc hcz hN hT zN zT lN lT h0
theorem nwE_parts {L : List Kd} {B : List Bd} {c : Ch} {N : List Nd} {T : List Te} (h : nwE L B c N T = 0) : doE L B c = 0 ∧ confB L B N T = true := by
  unfold nwE at h
  split at h
  · rename_i h0
    split at h
    · split at h
      · rename_i h2; exact ⟨h0, h2⟩
      · exact absurd h (by decide)
    · rename_i h1; exact absurd h h1
  · rename_i h0; exact absurd h h0
theorem cN_mem {X N : List Nd} (h : cN X = cN N) : ∀ x ∈ X, ∃ n ∈ N, n.kd = x.kd ∧ n.rc = x.rc := fun x hx => by
  obtain ⟨i, hi⟩ := List.getElem?_of_mem hx
  have h9 : (cN X)[i]? = some x.c := by unfold cN; rw [List.getElem?_map, hi]; rfl
  rw [h] at h9
  unfold cN at h9
  rw [List.getElem?_map] at h9
  obtain ⟨y, hy, e9⟩ := Option.map_eq_some_iff.1 h9
  exact ⟨y, List.mem_of_getElem? hy, show y.c.kd = x.c.kd by rw [e9], show y.c.rc = x.c.rc by rw [e9]⟩
theorem mvok_of {L : List Kd} {B : List Bd} {c : Ch} {N X : List Nd} {T : List Te} {Lm : List Kd} (h : nwE L B c N T = 0) (hcz : ChSz c) (hX : cN X = cN N) (hM : Lm.map kq3 = (cK L c).map kq3) (zN : SzN N) (zT : SzT T) : MvOk c (kdsA L c) Lm (cB B c) X T := by
  obtain ⟨h0, hcf⟩ := nwE_parts h
  obtain ⟨_, hs, hg⟩ := conf_parts hcf
  have hl := gErr_parts hg
  have hlx : X.length = N.length := by have := congrArg List.length hX; simpa [cN] using this
  have hk := kdsA_le L c
  have hg12 := good_of hs
  refine ⟨by omega, hl.2.1, fun x hx => ?_, by omega, fit_kds L c, (ch_sz hcz).1, (ch_sz hcz).2, szN_c hX zN, zT, ?_⟩
  · obtain ⟨n, hn, _, e⟩ := cN_mem hX x hx
    rw [← e]; exact gErr_recs hg n hn
  · rw [sErr_kq hM]; exact (doE_yes h0).2
theorem aoE_of {L : List Kd} {B : List Bd} {c : Ch} {K : List Nm} {N X : List Nd} {T : List Te} {Lm : List Kd} (hX : cN X = cN N) (hM : Lm.map kq3 = L.map kq3) : aoE c K Lm B X T = aoE c K L B N T := by
  unfold aoE
  rw [allX_cc hX, map_ndT_cc hX, confB_kq hM]
def grE (L : List Kd) (B : List Bd) (c : Ch) (N : List Nd) (T : List Te) : Int := if nwE L B c N T = 0 then aoE c (kdsA L c) (cK L c) (cB B c) N T else nwE L B c N T
def GrP (w : World) (L : List Kd) (B : List Bd) (c : Ch) (N : List Nd) (T : List Te) (e : Ending) (w' : World) : Prop :=
  ∃ a1 l1 c1 a2 l2 c2 X, e = .returned (.tuple #[.agg #[.slice a1 l1 c1, .slice a2 l2 c2], errV (grE L B c N T)]) ∧ (grE L B c N T = 0 → cN X = N.map (ndT c (kdsA L c)) ∧ OwnNs w' w.heap.size (.slice a1 l1 c1) X ∧ OwnTs w' w.heap.size (.slice a2 l2 c2) (T.filter (keepB (drp c)))) ∧ Below w.heap.size w w'
set_option maxHeartbeats 4000000 in
set_option maxRecDepth 100000 in
theorem graph_any {w : World} {vk vb : Value} {L : List Kd} {B : List Bd} (c : Ch) (hK : IsK w vk L) (hP : Parts w L) (hz : SzK L) (hb : IsB w vb B) (hzb : SzB B) (hc : ChIs w c) (hcz : ChSz c) {gn gt : Value} {N : List Nd} {T : List Te} (hN : IsN w gn N) (hT : IsT w gt T) (zN : SzN N) (zT : SzT T) (lN : N.length ≤ maxLen) (lT : T.length ≤ maxLen) :
    Calls Tryz.prog 4 #[.agg #[vk, vb], c.one, .agg #[gn, gt]] w (GrP w L B c N T) := by
  have h1_w : ∀ W, Below w.heap.size w W → Calls Tryz.prog 5 #[.agg #[vk, vb], c.one, .agg #[gn, gt]] W (NwP W L B c N T) := fun W h => new_any c (hK.on h) (hP.on h) hz (hb.on h) hzb (hc.on h) hcz (hN.on h) (hT.on h) zN zT lN lT
  have hgo : nwE L B c N T = 0 → ∀ (W W1 w1 : World) p Lm X uk ub ks fn vn vt vm, Lm.map kq3 = (cK L c).map kq3 → cN X = cN N → Mv w1 W1 p c (kdsA L c) Lm (cB B c) X T X 0 uk ub ks fn vn vt vm → Calls Tryz.prog 13 #[.pointer (some ⟨p, 0, none⟩)] W1 fun e w' => ∃ a1 l1 c1 a2 l2 c2 X, e = .returned (.tuple #[.agg #[.slice a1 l1 c1, .slice a2 l2 c2], errV (grE L B c N T)]) ∧ (grE L B c N T = 0 → cN X = N.map (ndT c (kdsA L c)) ∧ OwnNs w' w1.heap.size (.slice a1 l1 c1) X ∧ OwnTs w' w1.heap.size (.slice a2 l2 c2) (T.filter (keepB (drp c)))) ∧ Below w1.heap.size W1 w' := fun h0 W W1 w1 p Lm X uk ub ks fn vn vt vm hM hX hm => by
    have ho := mvok_of h0 hcz hX hM zN zT
    have e : aoE c (kdsA L c) Lm (cB B c) X T = grE L B c N T := by unfold grE; rw [if_pos h0]; exact aoE_of hX hM
    refine (atOnce_any hm ho ho.len).mono ?_
    rintro e' w' ⟨a1, l1, c1, a2, l2, c2, X2, he, h2, h3⟩
    rw [e] at he h2
    refine ⟨a1, l1, c1, a2, l2, c2, X2, he, fun hz => ?_, h3⟩
    obtain ⟨q1, q2, q3⟩ := h2 hz
    exact ⟨by rw [q1, map_ndT_cc hX], q2, q3⟩
  obtain ⟨wh, nm, ⟨kn, ko, kf, vo, vf⟩, ⟨bn, bf, bt, mn, mx⟩, ⟨fnm, ft, fm, fk⟩, wt, wn, ws, tn⟩ := c
  obtain ⟨a1, c1, rfl, _⟩ := hK.sln
  obtain ⟨a2, c2, rfl, _⟩ := hb.sln
  obtain ⟨a3, c3, rfl, _⟩ := id hN
  obtain ⟨a4, c4, rfl, _⟩ := id hT
  obtain ⟨ao, lo1, co, q1⟩ := hc.1.sl
  obtain ⟨af, lf1, cf, q2⟩ := hc.2.sl
  simp only at q1 q2
  subst q1 q2
  obtain ⟨c0, hc0⟩ : ∃ c0 : Ch, c0 = ⟨wh, nm, ⟨kn, ko, kf, .slice ao lo1 co, .slice af lf1 cf⟩, ⟨bn, bf, bt, mn, mx⟩, ⟨fnm, ft, fm, fk⟩, wt, wn, ws, tn⟩ := ⟨_, rfl⟩
  have h18 : c0.one = .agg #[.int .i64 wh, .string (bs nm), .string (bs kn), .slice ao lo1 co, .slice af lf1 cf, .string (bs bn), .string (bs bf), .string (bs bt), .int .i64 mn, .int .i64 mx, .string (bs fnm), .int .i64 ft, .bool fm, .bool fk, .int .i64 wt, .int .i64 wn, .string (bs ws), .string (bs tn)] := by rw [hc0]
  rw [← hc0] at hgo h1_w ⊢
  rw [h18] at h1_w ⊢
  have HG : Hid (¬ nwE L B c0 N T = 0 → grE L B c0 N T = nwE L B c0 N T) := fun h => by unfold grE; rw [if_neg h]
  clear hK hP hz hb hzb hc hcz hN hT zN zT lN lT hc0 h18
  obtain ⟨W0, hW0⟩ : ∃ W0, W0 = (((w.alloc (.cells #[.slice a1 L.length c1, .slice a2 B.length c2] 25)).alloc (.cells #[.int .i64 wh, .string (bs nm), .string (bs kn), .slice ao lo1 co, .slice af lf1 cf, .string (bs bn), .string (bs bf), .string (bs bt), .int .i64 mn, .int .i64 mx, .string (bs fnm), .int .i64 ft, .bool fm, .bool fk, .int .i64 wt, .int .i64 wn, .string (bs ws), .string (bs tn)] 37)).alloc (.cells #[.slice a3 N.length c3, .slice a4 T.length c4] 41)).alloc (.cells #[.slice none 0 0, .slice none 0 0] 41) := ⟨_, rfl⟩
  have hB00 : Below (((w.alloc (.cells #[.slice a1 L.length c1, .slice a2 B.length c2] 25)).alloc (.cells #[.int .i64 wh, .string (bs nm), .string (bs kn), .slice ao lo1 co, .slice af lf1 cf, .string (bs bn), .string (bs bf), .string (bs bt), .int .i64 mn, .int .i64 mx, .string (bs fnm), .int .i64 ft, .bool fm, .bool fk, .int .i64 wt, .int .i64 wn, .string (bs ws), .string (bs tn)] 37)).alloc (.cells #[.slice a3 N.length c3, .slice a4 T.length c4] 41)).heap.size (((w.alloc (.cells #[.slice a1 L.length c1, .slice a2 B.length c2] 25)).alloc (.cells #[.int .i64 wh, .string (bs nm), .string (bs kn), .slice ao lo1 co, .slice af lf1 cf, .string (bs bn), .string (bs bf), .string (bs bt), .int .i64 mn, .int .i64 mx, .string (bs fnm), .int .i64 ft, .bool fm, .bool fk, .int .i64 wt, .int .i64 wn, .string (bs ws), .string (bs tn)] 37)).alloc (.cells #[.slice a3 N.length c3, .slice a4 T.length c4] 41)) W0 := by rw [hW0]; exact b_alloc (Below.refl _ _) _
  have bx0 : Bx3 w (.slice a1 L.length c1) (.slice a2 B.length c2) (.slice a3 N.length c3) (.slice a4 T.length c4) #[.int .i64 wh, .string (bs nm), .string (bs kn), .slice ao lo1 co, .slice af lf1 cf, .string (bs bn), .string (bs bf), .string (bs bt), .int .i64 mn, .int .i64 mx, .string (bs fnm), .int .i64 ft, .bool fm, .bool fk, .int .i64 wt, .int .i64 wn, .string (bs ws), .string (bs tn)] W0 := (Bx3.mk3 w _ _ _ _ _).on hB00
  have n3 : W0.heap[w.heap.size + 3]? = some (.cells #[.slice none 0 0, .slice none 0 0] 41 (0, 0)) := by
    have := heap_alloc_new (((w.alloc (.cells #[.slice a1 L.length c1, .slice a2 B.length c2] 25)).alloc (.cells #[.int .i64 wh, .string (bs nm), .string (bs kn), .slice ao lo1 co, .slice af lf1 cf, .string (bs bn), .string (bs bf), .string (bs bt), .int .i64 mn, .int .i64 mx, .string (bs fnm), .int .i64 ft, .bool fm, .bool fk, .int .i64 wt, .int .i64 wn, .string (bs ws), .string (bs tn)] 37)).alloc (.cells #[.slice a3 N.length c3, .slice a4 T.length c4] 41)) (.cells #[.slice none 0 0, .slice none 0 0] 41)
    rw [World.size_alloc, World.size_alloc, World.size_alloc] at this; rw [hW0]; exact this
  have s0 : W0.cell? ⟨w.heap.size, 0, none⟩ = some (.slice a1 L.length c1) := cell_at bx0.2.1 rfl
  have s1 : W0.cell? ⟨w.heap.size, 1, none⟩ = some (.slice a2 B.length c2) := cell_at bx0.2.1 rfl
  have g0 : W0.cell? ⟨w.heap.size + 2, 0, none⟩ = some (.slice a3 N.length c3) := cell_at bx0.2.2.2 rfl
  have g1 : W0.cell? ⟨w.heap.size + 2, 1, none⟩ = some (.slice a4 T.length c4) := cell_at bx0.2.2.2 rfl
  have HN := Lib.hid bx0.2.2.1
  have cW := h1_w W0 bx0.1
  have HB0 := Lib.hid (And.intro bx0.1 n3)
  have HGo := Lib.hid hgo
  clear h1_w bx0 hgo n3 hB00
  by_cases h0 : nwE L B c0 N T = 0
  · have cW2 : Calls Tryz.prog 5 #[.agg #[.slice a1 L.length c1, .slice a2 B.length c2], .agg #[.int .i64 wh, .string (bs nm), .string (bs kn), .slice ao lo1 co, .slice af lf1 cf, .string (bs bn), .string (bs bf), .string (bs bt), .int .i64 mn, .int .i64 mx, .string (bs fnm), .int .i64 ft, .bool fm, .bool fk, .int .i64 wt, .int .i64 wn, .string (bs ws), .string (bs tn)], .agg #[.slice a3 N.length c3, .slice a4 T.length c4]] W0 fun e w' => ∃ p, e = .returned (.tuple #[.pointer (some ⟨p, 0, none⟩), .nilIface]) ∧ ∃ w1 Lm X uk ub ks fn vn vt vm, Lm.map kq3 = (cK L c0).map kq3 ∧ cN X = cN N ∧ Below W0.heap.size W0 w1 ∧ Mv w1 w' p c0 (kdsA L c0) Lm (cB B c0) X T X 0 uk ub ks fn vn vt vm := cW.mono (by
      rintro e w' ⟨hy, _, _⟩
      obtain ⟨w1, p, Lm, X, uk, ub, ks, fn, vn, vt, vm, he, h1, h2, h3, h4⟩ := hy h0
      exact ⟨p, he, w1, Lm, X, uk, ub, ks, fn, vn, vt, vm, h1, h2, h3, h4⟩)
    have HGo2 := Lib.hid (HGo.out h0)
    clear cW HGo HG h0
    go_enter Tryz.func4, Tryz.ntmps4
    go_upto_region 1 with fail
    rw [← hW0]
    clear hW0
    go_upto_region 4 with (first | (refine wpList_load_row rfl 37 (.tmp 4) rfl (w.heap.size + 1) rfl 37 _ (0, 0) _ HN.out Tryz.underlying37 rfl info37 ?_) | (go_at_call 5; refine cW2.mono ?_; rintro e W1 ⟨p, rfl, hm⟩; have HM := Lib.hid hm; clear hm))
    obtain ⟨w1, Lm, X, uk, ub, ks, fn, vn, vt, vm, h1, h2, h3, h4⟩ := HM.out
    have cO := HGo2.out W1 W1 w1 p Lm X uk ub ks fn vn vt vm h1 h2 h4
    have hB1 : Below W0.heap.size W0 W1 := on1K h3 h4.hB (Nat.le_refl _)
    have HQ : Hid (∀ W2, Below w1.heap.size W1 W2 → (W2.heap[w.heap.size + 3]? = some (.cells #[.slice none 0 0, .slice none 0 0] 41 (0, 0)) ∧ Below w.heap.size w W2) ∧ w.heap.size ≤ w1.heap.size) := fun W2 hB2 => by
      have hl := (Array.getElem?_eq_some_iff.1 HB0.out.2).1
      have h03 : Below W0.heap.size W0 W2 := hB1.trans (hB2.mono h3.size)
      exact ⟨⟨(h03.block _ hl).trans HB0.out.2, on1K HB0.out.1 h03 (Nat.le_refl _)⟩, Nat.le_trans HB0.out.1.size h3.size⟩
    clear cW2 HGo2 HM h1 h2 h3 h4 hB1 s0 s1 g0 g1 HN
    obtain ⟨z, hzz⟩ : ∃ z, z = grE L B c0 N T := ⟨_, rfl⟩
    rw [← hzz] at cO
    go_wp2_with (go_at_call 13; refine cO.mono ?_; rintro e W2 ⟨x1, x2, x3, x4, x5, x6, Y, rfl, hY, hB2⟩; obtain ⟨⟨k3, hBw⟩, hww⟩ := HQ.out W2 hB2; have y0 : W2.cell? ⟨w.heap.size + 3, 0, none⟩ = some (.slice none 0 0) := cell_at k3 rfl; have y1 : W2.cell? ⟨w.heap.size + 3, 1, none⟩ = some (.slice none 0 0) := cell_at k3 rfl; have f0 : W2.frozen? ⟨w.heap.size + 3, 0, none⟩ = false := frz_at k3; have f1 : W2.frozen? ⟨w.heap.size + 3, 1, none⟩ = false := frz_at k3; have HY := Lib.hid (And.intro hY (And.intro k3 (And.intro hBw hww))); clear hY hB2 k3 hBw hww cO HQ)
    obtain ⟨hY, k3, hBw, hww⟩ := HY.out
    have t1 : ((W2.setCell ⟨w.heap.size + 3, 0, none⟩ (.slice x1 x2 x3)).setCell ⟨w.heap.size + 3, 1, none⟩ (.slice x4 x5 x6)).heap[w.heap.size + 3]? = some (.cells #[.slice x1 x2 x3, .slice x4 x5 x6] 41 (0, 0)) := heap_setCell_same _ _ 1 _ 41 _ (heap_setCell_same W2 _ 0 _ 41 _ k3)
    have t2 := cell_at (i := 0) t1 rfl
    have t3 := cell_at (i := 1) t1 rfl
    have kk : ∀ t : TypeId, (41 : TypeId) ≠ t → Kt t W2 ((W2.setCell ⟨w.heap.size + 3, 0, none⟩ (.slice x1 x2 x3)).setCell ⟨w.heap.size + 3, 1, none⟩ (.slice x4 x5 x6)) := fun t hne => ((Kt.refl _ _).ty ⟨_, k3⟩ hne _ _).ty (Ty.set ⟨_, k3⟩ _ _ _) hne _ _
    refine bodyPost_ret (v := .tuple #[.agg #[.slice x1 x2 x3, .slice x4 x5 x6], errV z]) ?_ rfl ⟨x1, x2, x3, x4, x5, x6, Y, by rw [hzz], fun hz => ?_, ?_⟩
    · simp [results, Tryz.results4, go_sem, t2, t3, hzz]
    · obtain ⟨q1, q2, q3⟩ := hY (hzz.trans hz)
      have q4 := q2.kt (kk _ (by decide)) (kk _ (by decide))
      exact ⟨q1, ⟨own_base q4.1 hww, fun x hx => own_base (q4.2 x hx) hww⟩, own_base (q3.kt (kk _ (by decide))) hww⟩
    · exact (hBw.setCell (by show _ ≤ w.heap.size + 3; omega) _).setCell (by show _ ≤ w.heap.size + 3; omega) _
  · have hg := HG.out h0
    have cW2 : Calls Tryz.prog 5 #[.agg #[.slice a1 L.length c1, .slice a2 B.length c2], .agg #[.int .i64 wh, .string (bs nm), .string (bs kn), .slice ao lo1 co, .slice af lf1 cf, .string (bs bn), .string (bs bf), .string (bs bt), .int .i64 mn, .int .i64 mx, .string (bs fnm), .int .i64 ft, .bool fm, .bool fk, .int .i64 wt, .int .i64 wn, .string (bs ws), .string (bs tn)], .agg #[.slice a3 N.length c3, .slice a4 T.length c4]] W0 fun e w' => e = .returned (.tuple #[.pointer none, .iface 74 (.int .i64 (nwE L B c0 N T))]) ∧ Below W0.heap.size W0 w' := cW.mono (by
      rintro e w' ⟨_, hy, hB⟩
      rw [← errV_ne h0]
      exact ⟨hy h0, hB⟩)
    clear cW HGo HG
    have HG2 : Hid (∀ W, Below w.heap.size w W → GrP w L B c0 N T (.returned (.tuple #[.agg #[.slice none 0 0, .slice none 0 0], .iface 74 (.int .i64 (nwE L B c0 N T))])) W) := fun W hB => ⟨none, 0, 0, none, 0, 0, [], by rw [hg, errV_ne h0], fun h => absurd (hg.symm.trans h) h0, hB⟩
    clear hg
    generalize nwE L B c0 N T = z at *
    go_enter Tryz.func4, Tryz.ntmps4
    go_upto_region 1 with fail
    rw [← hW0]
    clear hW0
    go_upto_region 3 with (first | (refine wpList_load_row rfl 37 (.tmp 4) rfl (w.heap.size + 1) rfl 37 _ (0, 0) _ HN.out Tryz.underlying37 rfl info37 ?_) | (go_at_call 5; refine cW2.mono ?_; rintro e W1 ⟨rfl, hB1⟩))
    have k3 := (hB1.block _ (Array.getElem?_eq_some_iff.1 HB0.out.2).1).trans HB0.out.2
    have y0 : W1.cell? ⟨w.heap.size + 3, 0, none⟩ = some (.slice none 0 0) := cell_at k3 rfl
    have y1 : W1.cell? ⟨w.heap.size + 3, 1, none⟩ = some (.slice none 0 0) := cell_at k3 rfl
    have f0 : W1.frozen? ⟨w.heap.size + 3, 0, none⟩ = false := frz_at k3
    have f1 : W1.frozen? ⟨w.heap.size + 3, 1, none⟩ = false := frz_at k3
    have HY := Lib.hid (And.intro k3 hB1)
    clear k3 hB1 cW2 s0 s1 g0 g1 HN
    go_wp2
    have t1 : ((W1.setCell ⟨w.heap.size + 3, 0, none⟩ (.slice none 0 0)).setCell ⟨w.heap.size + 3, 1, none⟩ (.slice none 0 0)).heap[w.heap.size + 3]? = some (.cells #[.slice none 0 0, .slice none 0 0] 41 (0, 0)) := heap_setCell_same _ _ 1 _ 41 _ (heap_setCell_same W1 _ 0 _ 41 _ HY.out.1)
    have t2 := cell_at (i := 0) t1 rfl
    have t3 := cell_at (i := 1) t1 rfl
    refine bodyPost_ret (v := .tuple #[.agg #[.slice none 0 0, .slice none 0 0], .iface 74 (.int .i64 z)]) ?_ rfl (HG2.out _ ?_)
    · simp [results, Tryz.results4, go_sem, t2, t3]
    · exact ((on1K HB0.out.1 HY.out.2 (Nat.le_refl _)).setCell (by show _ ≤ w.heap.size + 3; omega) _).setCell (by show _ ≤ w.heap.size + 3; omega) _
end Go.Proofs.YtpmblbhemcippaaGreat

/-
  The fact that the law MoveSame asks first.
-/
namespace Go.Proofs.YtpmblbhemcippaaGreat
open Go.RowKit
set_option linter.unusedVariables false
set_option linter.unusedSimpArgs false

def kdF : Kd := ⟨[97], [], [], .slice none 0 0, .slice none 0 0⟩
def ndF : Nd := ⟨3, ⟨#[97]⟩, .slice none 0 0, []⟩
def chF : Ch := ⟨3, [97], ⟨[], [], [], .slice none 0 0, .slice none 0 0⟩, ⟨[], [], [], 0, 0⟩, ⟨[120], 1, true, false⟩, 1, 4, [], []⟩
def prF : Pr := ⟨bs [120], 1, 4, bs []⟩
def ndG : Nd := ⟨3, ⟨#[97]⟩, .nilIface, [prF]⟩
theorem tl97 : (⟨#[97]⟩ : ByteArray).toList = [97] := by rw [Lib.toList_data]
theorem tl120 : (bs [120]).toList = [120] := bs_toList _
theorem sF_err : (sErr [kdF] []).2 = 0 := by decide +kernel
theorem gF_err : gErr [ndF] [] = 0 := by decide +kernel
theorem inF : inE [kdF] [] [ndF] [] = 0 := by unfold inE; rw [if_pos sF_err]; exact gF_err
theorem confF : confB [kdF] [] [ndF] [] = true := by
  unfold confB
  rw [inF]
  decide +kernel
theorem doF : doE [kdF] [] chF = 0 := by decide +kernel
theorem nwF : nwE [kdF] [] chF [ndF] [] = 0 := by unfold nwE; rw [if_pos doF, if_pos inF, if_pos confF]
theorem kdsF : kdsA [kdF] chF = [[97]] := by decide +kernel
theorem goF : goes [[97]] ndF = true := by
  unfold goes
  rw [show ndF.kd = ⟨#[97]⟩ from rfl, tl97]
  decide
theorem prF_ok : rErr [prF] = 0 := by decide +kernel
theorem tnEF : tnE chF [] = 0 := by
  unfold tnE gvE
  rw [if_pos (show chF.wh = 3 from rfl), if_neg (show ¬ chF.pr.t = 0 by decide), if_pos (show idxP chF.pr.nm.toList [] 0 = -1 from rfl)]
  show rsErr prF [] = 0
  unfold rsErr
  rw [if_pos (show rErr [] = 0 from rfl), if_pos prF_ok]
  rfl
theorem allXF : allX chF [[97]] [ndF] = 0 := by
  show (if ndX chF [[97]] ndF = 0 then 0 else _) = 0
  have : ndX chF [[97]] ndF = 0 := by unfold ndX; rw [if_pos goF]; exact tnEF
  rw [if_pos this]
theorem ndTF : ndT chF [[97]] ndF = ndG := by
  unfold ndT ndY
  rw [if_pos goF]
  unfold tnR gvR
  rw [if_pos (show chF.wh = 3 from rfl), if_neg (show ¬ chF.pr.t = 0 by decide), if_pos (show idxP chF.pr.nm.toList ndF.rc 0 = -1 from rfl)]
  rfl
theorem gG_err : gErr [ndG] [] = 0 := by decide +kernel
theorem sG_err : (sErr (cK [kdF] chF) (cB [] chF)).2 = 0 := by decide +kernel
theorem inG : inE (cK [kdF] chF) (cB [] chF) [ndG] [] = 0 := by unfold inE; rw [if_pos sG_err]; exact gG_err
theorem shG : shO (cK [kdF] chF) (cB [] chF) (cK [kdF] chF) ⟨#[97]⟩ = some ⟨[[97]], [⟨[120], 1, true, false⟩], []⟩ := by rfl
theorem allG : allF (cK [kdF] chF) (cB [] chF) [ndG] [] = [] := by
  unfold allF nodeF
  simp only [List.foldl_cons, List.foldl_nil, nodeS]
  rw [show ndG.kd = ⟨#[97]⟩ from rfl, shG]
  have f1 : fits [⟨[120], 1, true, false⟩] prF = true := by
    unfold fits fit1
    rw [show prF.nm = bs [120] from rfl, tl120]
    decide
  have f2 : getP [120] [prF] = some prF := by
    unfold getP idxP
    rw [show prF.nm = bs [120] from rfl, tl120]
    rfl
  have f3 : noF [prF] ⟨[120], 1, true, false⟩ = false := by unfold noF; rw [f2]; rfl
  have f4 : ∀ T, sameF [prF] T ⟨[120], 1, true, false⟩ = false := fun T => rfl
  have g1 : propF [⟨[120], 1, true, false⟩] 3 [prF] = [] := by
    show propS _ _ _ _ = _
    unfold propS
    rw [if_pos f1]
  have g2 : ∀ T, fieldF [⟨[120], 1, true, false⟩] 3 [prF] T = ([], T) := fun T => by
    show fieldS _ _ _ _ = _
    unfold fieldS
    rw [if_neg (by rw [f3]; decide), if_neg (by rw [f4]; decide), if_neg (by decide)]
  unfold ownF
  rw [show ndG.id = 3 from rfl, show ndG.rc = [prF] from rfl]
  simp only [g1, g2]
  rfl
theorem confG : confB (cK [kdF] chF) (cB [] chF) [ndG] [] = true := by
  unfold confB
  rw [inG, allG]
  rfl
theorem grF : grE [kdF] [] chF [ndF] [] = 0 := by
  unfold grE
  rw [if_pos nwF, kdsF]
  unfold aoE
  rw [if_pos allXF]
  show (if confB (cK [kdF] chF) (cB [] chF) [ndT chF [[97]] ndF] [] = true then (0 : Int) else 9) = 0
  rw [ndTF, if_pos confG]
theorem mapF : [ndF].map (ndT chF (kdsA [kdF] chF)) = [ndG] := by rw [kdsF]; show [ndT chF [[97]] ndF] = _; rw [ndTF]
abbrev chFc : Array Value := #[.int .i64 3, .string ⟨#[97]⟩, .string ⟨#[]⟩, .slice none 0 0, .slice none 0 0, .string ⟨#[]⟩, .string ⟨#[]⟩, .string ⟨#[]⟩, .int .i64 0, .int .i64 0, .string ⟨#[120]⟩, .int .i64 1, .bool true, .bool false, .int .i64 1, .int .i64 4, .string ⟨#[]⟩, .string ⟨#[]⟩]
theorem chF_one : chF.one = .agg chFc := rfl
abbrev fcM (W : World) : World := ((((W.alloc (.cells #[.string ⟨#[97]⟩, .slice none 0 0, .slice none 0 0] 29)).alloc (.cells #[.slice (some ⟨W.heap.size, 0, none⟩) 1 1, .slice none 0 0] 25)).alloc (.cells #[.int .i64 3, .string ⟨#[97]⟩, .slice none 0 0] 46)).alloc (.cells #[.slice (some ⟨W.heap.size + 1 + 1, 0, none⟩) 1 1, .slice none 0 0] 41)).alloc (.cells chFc 37)
theorem fcM_at (W : World) : (fcM W).heap[W.heap.size]? = some (.cells #[.string ⟨#[97]⟩, .slice none 0 0, .slice none 0 0] 29 (0, 0)) ∧ (fcM W).heap[W.heap.size + 1 + 1]? = some (.cells #[.int .i64 3, .string ⟨#[97]⟩, .slice none 0 0] 46 (0, 0)) := by
  refine ⟨?_, ?_⟩
  · refine (heap_alloc_old _ _ (by simp; omega)).trans ((heap_alloc_old _ _ (by simp; omega)).trans ((heap_alloc_old _ _ (by simp; omega)).trans ((heap_alloc_old _ _ (by simp)).trans (heap_alloc_new W _))))
  · have h := heap_alloc_new ((W.alloc (.cells #[.string ⟨#[97]⟩, .slice none 0 0, .slice none 0 0] 29)).alloc (.cells #[.slice (some ⟨W.heap.size, 0, none⟩) 1 1, .slice none 0 0] 25)) (.cells #[.int .i64 3, .string ⟨#[97]⟩, .slice none 0 0] 46)
    rw [World.size_alloc, World.size_alloc] at h
    exact (heap_alloc_old _ _ (by simp)).trans ((heap_alloc_old _ _ (by simp)).trans h)
theorem fcM_size (W : World) : (fcM W).heap.size = W.heap.size + 1 + 1 + 1 + 1 + 1 := by simp [fcM]
theorem one_ofF {α : Type} {x y : α} {k : Nat} (h : [x][k]? = some y) : k = 0 ∧ x = y := by
  have := (List.getElem?_eq_some_iff.1 h).1
  have hk : k = 0 := by simp at this; exact this
  subst hk
  exact ⟨rfl, by simpa using h⟩
theorem fcM_any (W : World) : Calls Tryz.prog 4 #[.agg #[.slice (some ⟨W.heap.size, 0, none⟩) 1 1, .slice none 0 0], .agg chFc, .agg #[.slice (some ⟨W.heap.size + 1 + 1, 0, none⟩) 1 1, .slice none 0 0]] (fcM W) fun e w' => ∃ b c x1 x2 x3 b2 c2, e = .returned (.tuple #[.agg #[.slice (some ⟨b, 0, none⟩) 1 c, .slice x1 x2 x3], .nilIface]) ∧ w'.cell? ⟨b, 2, none⟩ = some (.slice (some ⟨b2, 0, none⟩) 1 c2) ∧ w'.cell? ⟨b2, 2, none⟩ = some (.int .i64 4) ∧ Below W.heap.size W w' := by
  obtain ⟨n1, n2⟩ := fcM_at W
  have hz := fcM_size W
  have hB : Below W.heap.size W (fcM W) := b_alloc (b_alloc (b_alloc (b_alloc (b_alloc (Below.refl _ _) _) _) _) _) _
  have hm1 : (1 : Nat) ≤ maxLen := by unfold maxLen; omega
  have h0 : (0 : Nat) ≤ maxLen := Nat.zero_le _
  have hS : IsS (fcM W) (.slice none 0 0) [] := .inl ⟨none, 0, rfl, rfl, by decide, fun _ => rfl⟩
  have hF : IsF (fcM W) (.slice none 0 0) [] := .inl ⟨none, 0, rfl, rfl, by decide, fun _ => rfl⟩
  have hK : IsK (fcM W) (.slice (some ⟨W.heap.size, 0, none⟩) 1 1) [kdF] := .inr ⟨W.heap.size, 0, 1, rfl, Nat.le_refl _, hm1, by rw [hz]; omega, fun i k hk => by
    obtain ⟨rfl, rfl⟩ := one_ofF hk
    exact ⟨cell_at n1 rfl, cell_at n1 rfl, cell_at n1 rfl⟩⟩
  have hPt : Parts (fcM W) [kdF] := fun k hk => by rw [List.mem_singleton.1 hk]; exact ⟨hS, hF⟩
  have hzk : SzK [kdF] := fun k hk => by
    rw [List.mem_singleton.1 hk]
    exact ⟨hm1, fun f hf => by cases hf⟩
  have hN : IsN (fcM W) (.slice (some ⟨W.heap.size + 1 + 1, 0, none⟩) 1 1) [ndF] := by
    refine ⟨_, 1, rfl, Nat.le_refl _, .inr ⟨W.heap.size + 1 + 1, 0, rfl, by rw [hz]; omega, fun k x hx => ?_⟩⟩
    obtain ⟨rfl, rfl⟩ := one_ofF hx
    exact ⟨cell_at n2 rfl, cell_at n2 rfl, cell_at n2 rfl, ⟨none, 0, rfl, .inl rfl⟩⟩
  have hT : IsT (fcM W) (.slice none 0 0) [] := ⟨none, 0, rfl, Nat.le_refl _, .inl rfl⟩
  have hcz : ChSz chF := ⟨⟨h0, fun f hf => (by cases hf)⟩, ⟨by decide, by decide⟩, h0, hm1, h0, h0⟩
  have c := graph_any (w := fcM W) chF hK hPt hzk (.inl ⟨rfl, rfl⟩) (fun x hx => by cases hx) ⟨hS, hF⟩ hcz hN hT (fun n hn => by
    rw [List.mem_singleton.1 hn]
    exact ⟨hm1, fun q hq => (by cases hq), h0⟩) (fun t ht => by cases ht) hm1 h0
  rw [chF_one] at c
  refine c.mono ?_
  rintro e w' ⟨a1, l1, c1, a2, l2, c2, X, he, hy, hB'⟩
  rw [grF, errV_0] at he
  obtain ⟨hX, hO, _⟩ := hy grF
  rw [mapF] at hX
  have hl : X.length = 1 := by have := congrArg List.length hX; simpa [cN] using this
  obtain ⟨x, rfl⟩ := List.length_eq_one_iff.1 hl
  have hx : x.c = ndG := by injection hX
  have hrc : x.rc = [prF] := congrArg Nd.rc hx
  have hOx := hO.2 x (List.mem_singleton.2 rfl)
  have hOr : w'.ownsRow (fcM W).heap.size 52 4 x.rv 1 (cellsR [prF]) := by
    have h := hOx
    unfold OwnRc at h
    rw [hrc] at h
    exact h
  obtain ⟨g, cap, e1⟩ : ∃ g cap, Value.slice a1 l1 c1 = .slice (some ⟨g, 0, none⟩) 1 cap := by
    rcases hO.1.2 with ⟨_, h0⟩ | ⟨g, cap, _, e, _⟩
    · simp at h0
    · exact ⟨g, cap, e⟩
  injection e1 with e1 e2 e3
  subst e1 e2 e3
  obtain ⟨g2, cap2, e4⟩ : ∃ g cap, x.rv = .slice (some ⟨g, 0, none⟩) 1 cap := by
    rcases hOr.2 with ⟨_, h0⟩ | ⟨g, cap, _, e, _⟩
    · simp at h0
    · exact ⟨g, cap, e⟩
  have q1 := World.ownsRow.cells hO.1 rfl 2 x.rv rfl
  rw [e4] at hOr q1
  have q2 := World.ownsRow.cells hOr rfl 2 (.int .i64 4) rfl
  rw [Addr.add_lit, Nat.zero_add] at q1 q2
  exact ⟨g, _, a2, l2, c2, g2, cap2, he, q1, q2, on1K hB hB' (Nat.le_refl _)⟩
end Go.Proofs.YtpmblbhemcippaaGreat
