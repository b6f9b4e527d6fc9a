import Derived.Test.YtahamkajkkkjdaaGreatDoorM48
namespace Go.Proofs.YtahamkajkkkjdaaGreatDoor
open Go.RowKit
set_option linter.unusedVariables false
set_option linter.unusedSimpArgs false
set_option maxHeartbeats 4000000 in
set_option maxRecDepth 100000 in
theorem new_bad {w : World} {vk vb : Value} {L : List Kd} {B : List Bd} (c : Ch) (hK : IsK w vk L) (hP : Parts w L) (hz : SzK L) (hb : IsB w vb B) (hzb : SzB B) (hc : ChIs w c) (hcz : ChSz c) {gn gt : Value} {N : List Nd} {T : List Te} (hN : IsN w gn N) (hT : IsT w gt T) (zN : SzN N) (zT : SzT T) (lN : N.length ≤ maxLen) (lT : T.length ≤ maxLen) (h0 : ¬ doE L B c = 0) :
    Calls Tryz.prog 72 #[.agg #[vk, vb], c.one, .agg #[gn, gt]] w (NwP w L B c N T) := by
  have hnw : nwE L B c N T = doE L B c := by unfold nwE; rw [if_neg h0]
  have h1_w : ∀ W, Below w.heap.size w W → Calls Tryz.prog 101 #[.agg #[vk, vb], c.one] W fun e w' => e = .returned (.tuple #[.agg #[.slice none 0 0, .slice none 0 0, .slice none 0 0, .nilFunc, .string ⟨#[]⟩], .iface 76 (.int .i64 (doE L B c))]) ∧ Below W.heap.size W w' := fun W h => wayOf_no c (hK.on h) (hP.on h) hz (hb.on h) hzb (hc.on h) hcz h0
  obtain ⟨wh, nm, ⟨kn, ko, kf, vo, vf⟩, ⟨bn, bf, bt, mn, mx⟩, ⟨fnm, ft, fm, fk⟩, wt, wn, ws, tn⟩ := c
  obtain ⟨a1, c1, rfl, _⟩ := hK.sln
  obtain ⟨a2, c2, rfl, _⟩ := hb.sln
  obtain ⟨a3, c3, rfl, _⟩ := id hN
  obtain ⟨a4, c4, rfl, _⟩ := id hT
  obtain ⟨ao, lo1, co, q1⟩ := hc.1.sl
  obtain ⟨af, lf1, cf, q2⟩ := hc.2.sl
  simp only at q1 q2
  subst q1 q2
  obtain ⟨c0, hc0⟩ : ∃ c0 : Ch, c0 = ⟨wh, nm, ⟨kn, ko, kf, .slice ao lo1 co, .slice af lf1 cf⟩, ⟨bn, bf, bt, mn, mx⟩, ⟨fnm, ft, fm, fk⟩, wt, wn, ws, tn⟩ := ⟨_, rfl⟩
  have h18 : c0.one = .agg #[.int .i64 wh, .string (bs nm), .string (bs kn), .slice ao lo1 co, .slice af lf1 cf, .string (bs bn), .string (bs bf), .string (bs bt), .int .i64 mn, .int .i64 mx, .string (bs fnm), .int .i64 ft, .bool fm, .bool fk, .int .i64 wt, .int .i64 wn, .string (bs ws), .string (bs tn)] := by rw [hc0]
  rw [← hc0] at h0 hnw h1_w ⊢
  rw [h18] at h1_w ⊢
  generalize doE L B c0 = z at *
  clear hK hP hz hb hzb hc hcz hN hT zN zT lN lT hc0 h18
  obtain ⟨W0, hW0⟩ : ∃ W0, W0 = ((w.alloc (.cells #[.slice a1 L.length c1, .slice a2 B.length c2] 34)).alloc (.cells #[.int .i64 wh, .string (bs nm), .string (bs kn), .slice ao lo1 co, .slice af lf1 cf, .string (bs bn), .string (bs bf), .string (bs bt), .int .i64 mn, .int .i64 mx, .string (bs fnm), .int .i64 ft, .bool fm, .bool fk, .int .i64 wt, .int .i64 wn, .string (bs ws), .string (bs tn)] 58)).alloc (.cells #[.slice a3 N.length c3, .slice a4 T.length c4] 67) := ⟨_, rfl⟩
  have bx0 : Bx3 w (.slice a1 L.length c1) (.slice a2 B.length c2) (.slice a3 N.length c3) (.slice a4 T.length c4) #[.int .i64 wh, .string (bs nm), .string (bs kn), .slice ao lo1 co, .slice af lf1 cf, .string (bs bn), .string (bs bf), .string (bs bt), .int .i64 mn, .int .i64 mx, .string (bs fnm), .int .i64 ft, .bool fm, .bool fk, .int .i64 wt, .int .i64 wn, .string (bs ws), .string (bs tn)] W0 := by rw [hW0]; exact Bx3.mk3 _ _ _ _ _ _
  have s0 : W0.cell? ⟨w.heap.size, 0, none⟩ = some (.slice a1 L.length c1) := cell_at bx0.2.1 rfl
  have s1 : W0.cell? ⟨w.heap.size, 1, none⟩ = some (.slice a2 B.length c2) := cell_at bx0.2.1 rfl
  have HN := Lib.hid bx0.2.2.1
  have cW := h1_w W0 bx0.1
  have HB0 := Lib.hid bx0.1
  clear h1_w bx0
  have hst := fun (a : Addr) (W : World) => run_store Tryz.prog W a .nilFunc .plain rfl
  go_enter Tryz.func72, Tryz.ntmps72
  go_upto_region 1 with fail
  rw [← hW0]
  clear hW0
  go_upto_region 2 with (first | (refine wpList_load_row rfl 58 (.tmp 4) rfl (w.heap.size + 1) rfl 58 _ (0, 0) _ HN.out Tryz.underlying58 rfl info37 ?_) | (go_at_call 101; refine cW.mono ?_; rintro e W1 ⟨rfl, hB1⟩) | (refine wpList_store_new rfl 222 (.tmp 8) (.tmp 16) rfl _ _ rfl rfl info71 rfl rfl ?_))
  have hB2 : Below W0.heap.size W0 (W1.alloc (.cells #[.slice none 0 0, .slice none 0 0, .slice none 0 0, .nilFunc, .string ⟨#[]⟩] 222)) := on1K hB1 (b_alloc (Below.refl _ _) _) (Nat.le_refl _)
  generalize (W1.alloc (.cells #[.slice none 0 0, .slice none 0 0, .slice none 0 0, .nilFunc, .string ⟨#[]⟩] 222)) = W2 at *
  clear cW hB1 s0 s1 HN
  go_wp2
  go_ret2
  exact nwP_bad hnw h0 (on1K HB0.out hB2 (Nat.le_refl _))
theorem new_any {w : World} {vk vb : Value} {L : List Kd} {B : List Bd} (c : Ch) (hK : IsK w vk L) (hP : Parts w L) (hz : SzK L) (hb : IsB w vb B) (hzb : SzB B) (hc : ChIs w c) (hcz : ChSz c) {gn gt : Value} {N : List Nd} {T : List Te} (hN : IsN w gn N) (hT : IsT w gt T) (zN : SzN N) (zT : SzT T) (lN : N.length ≤ maxLen) (lT : T.length ≤ maxLen) :
    Calls Tryz.prog 72 #[.agg #[vk, vb], c.one, .agg #[gn, gt]] w (NwP w L B c N T) := by
  by_cases h0 : doE L B c = 0
  · exact new_nil c hK hP hz hb hzb hc hcz hN hT zN zT lN lT h0 (by have := hcz.wh1; omega)
  · exact new_bad c hK hP hz hb hzb hc hcz hN hT zN zT lN lT h0
theorem nwE_parts {L : List Kd} {B : List Bd} {c : Ch} {N : List Nd} {T : List Te} (h : nwE L B c N T = 0) : doE L B c = 0 ∧ confB L B N T = true := by
  unfold nwE at h
  split at h
  · rename_i h0
    split at h
    · split at h
      · rename_i h2; exact ⟨h0, h2⟩
      · exact absurd h (by decide)
    · rename_i h1; exact absurd h h1
  · rename_i h0; exact absurd h h0
theorem cN_mem {X N : List Nd} (h : cN X = cN N) : ∀ x ∈ X, ∃ n ∈ N, n.kd = x.kd ∧ n.rc = x.rc := fun x hx => by
  obtain ⟨i, hi⟩ := List.getElem?_of_mem hx
  have h9 : (cN X)[i]? = some x.c := by unfold cN; rw [List.getElem?_map, hi]; rfl
  rw [h] at h9
  unfold cN at h9
  rw [List.getElem?_map] at h9
  obtain ⟨y, hy, e9⟩ := Option.map_eq_some_iff.1 h9
  exact ⟨y, List.mem_of_getElem? hy, show y.c.kd = x.c.kd by rw [e9], show y.c.rc = x.c.rc by rw [e9]⟩
theorem mvok_of {L : List Kd} {B : List Bd} {c : Ch} {N X : List Nd} {T : List Te} {Lm : List Kd} (h : nwE L B c N T = 0) (hcz : ChSz c) (hX : cN X = cN N) (hM : Lm.map kq3 = (cK L c).map kq3) (zN : SzN N) (zT : SzT T) : MvOk c (kdsA L c) Lm (cB B c) X T := by
  obtain ⟨h0, hcf⟩ := nwE_parts h
  obtain ⟨_, hs, hg⟩ := conf_parts hcf
  have hl := gErr_parts hg
  have hlx : X.length = N.length := by have := congrArg List.length hX; simpa [cN] using this
  have hk := kdsA_le L c
  have hg12 := good_of hs
  refine ⟨by omega, hl.2.1, fun x hx => ?_, by omega, fit_kds L c hcz, (ch_sz hcz).1, (ch_sz hcz).2, szN_c hX zN, zT, ?_⟩
  · obtain ⟨n, hn, _, e⟩ := cN_mem hX x hx
    rw [← e]; exact gErr_recs hg n hn
  · rw [sErr_kq hM]; exact (doE_yes h0).2
theorem aoE_of {L : List Kd} {B : List Bd} {c : Ch} {K : List Nm} {N X : List Nd} {T : List Te} {Lm : List Kd} (hX : cN X = cN N) (hM : Lm.map kq3 = L.map kq3) : aoE c K Lm B X T = aoE c K L B N T := by
  unfold aoE
  rw [allX_cc hX, map_ndT_cc hX, confB_kq hM]
def grE (L : List Kd) (B : List Bd) (c : Ch) (N : List Nd) (T : List Te) : Int := if nwE L B c N T = 0 then aoE c (kdsA L c) (cK L c) (cB B c) N T else nwE L B c N T
def GrP (w : World) (L : List Kd) (B : List Bd) (c : Ch) (N : List Nd) (T : List Te) (e : Ending) (w' : World) : Prop :=
  ∃ a1 l1 c1 a2 l2 c2 X, e = .returned (.tuple #[.agg #[.slice a1 l1 c1, .slice a2 l2 c2], errV (grE L B c N T)]) ∧ (grE L B c N T = 0 → cN X = N.map (ndT c (kdsA L c)) ∧ OwnNs w' w.heap.size (.slice a1 l1 c1) X ∧ OwnTs w' w.heap.size (.slice a2 l2 c2) (T.filter (keepB (drp c)))) ∧ Below w.heap.size w w'
set_option maxHeartbeats 4000000 in
set_option maxRecDepth 100000 in
theorem graph_any {w : World} {vk vb : Value} {L : List Kd} {B : List Bd} (c : Ch) (hK : IsK w vk L) (hP : Parts w L) (hz : SzK L) (hb : IsB w vb B) (hzb : SzB B) (hc : ChIs w c) (hcz : ChSz c) {gn gt : Value} {N : List Nd} {T : List Te} (hN : IsN w gn N) (hT : IsT w gt T) (zN : SzN N) (zT : SzT T) (lN : N.length ≤ maxLen) (lT : T.length ≤ maxLen) :
    Calls Tryz.prog 50 #[.agg #[vk, vb], c.one, .agg #[gn, gt]] w (GrP w L B c N T) := by
  have h1_w : ∀ W, Below w.heap.size w W → Calls Tryz.prog 72 #[.agg #[vk, vb], c.one, .agg #[gn, gt]] W (NwP W L B c N T) := fun W h => new_any c (hK.on h) (hP.on h) hz (hb.on h) hzb (hc.on h) hcz (hN.on h) (hT.on h) zN zT lN lT
  have hgo : nwE L B c N T = 0 → ∀ (W W1 w1 : World) p Lm X uk ub ks fn vn vt vm, Lm.map kq3 = (cK L c).map kq3 → cN X = cN N → Mv w1 W1 p c (kdsA L c) Lm (cB B c) X T X 0 uk ub ks fn vn vt vm → Calls Tryz.prog 73 #[.pointer (some ⟨p, 0, none⟩)] W1 fun e w' => ∃ a1 l1 c1 a2 l2 c2 X, e = .returned (.tuple #[.agg #[.slice a1 l1 c1, .slice a2 l2 c2], errV (grE L B c N T)]) ∧ (grE L B c N T = 0 → cN X = N.map (ndT c (kdsA L c)) ∧ OwnNs w' w1.heap.size (.slice a1 l1 c1) X ∧ OwnTs w' w1.heap.size (.slice a2 l2 c2) (T.filter (keepB (drp c)))) ∧ Below w1.heap.size W1 w' := fun h0 W W1 w1 p Lm X uk ub ks fn vn vt vm hM hX hm => by
    have ho := mvok_of h0 hcz hX hM zN zT
    have e : aoE c (kdsA L c) Lm (cB B c) X T = grE L B c N T := by unfold grE; rw [if_pos h0]; exact aoE_of hX hM
    refine (atOnce_any hm ho ho.len).mono ?_
    rintro e' w' ⟨a1, l1, c1, a2, l2, c2, X2, he, h2, h3⟩
    rw [e] at he h2
    refine ⟨a1, l1, c1, a2, l2, c2, X2, he, fun hz => ?_, h3⟩
    obtain ⟨q1, q2, q3⟩ := h2 hz
    exact ⟨by rw [q1, map_ndT_cc hX], q2, q3⟩
  obtain ⟨wh, nm, ⟨kn, ko, kf, vo, vf⟩, ⟨bn, bf, bt, mn, mx⟩, ⟨fnm, ft, fm, fk⟩, wt, wn, ws, tn⟩ := c
  obtain ⟨a1, c1, rfl, _⟩ := hK.sln
  obtain ⟨a2, c2, rfl, _⟩ := hb.sln
  obtain ⟨a3, c3, rfl, _⟩ := id hN
  obtain ⟨a4, c4, rfl, _⟩ := id hT
  obtain ⟨ao, lo1, co, q1⟩ := hc.1.sl
  obtain ⟨af, lf1, cf, q2⟩ := hc.2.sl
  simp only at q1 q2
  subst q1 q2
  obtain ⟨c0, hc0⟩ : ∃ c0 : Ch, c0 = ⟨wh, nm, ⟨kn, ko, kf, .slice ao lo1 co, .slice af lf1 cf⟩, ⟨bn, bf, bt, mn, mx⟩, ⟨fnm, ft, fm, fk⟩, wt, wn, ws, tn⟩ := ⟨_, rfl⟩
  have h18 : c0.one = .agg #[.int .i64 wh, .string (bs nm), .string (bs kn), .slice ao lo1 co, .slice af lf1 cf, .string (bs bn), .string (bs bf), .string (bs bt), .int .i64 mn, .int .i64 mx, .string (bs fnm), .int .i64 ft, .bool fm, .bool fk, .int .i64 wt, .int .i64 wn, .string (bs ws), .string (bs tn)] := by rw [hc0]
  rw [← hc0] at hgo h1_w ⊢
  rw [h18] at h1_w ⊢
  have HG : Hid (¬ nwE L B c0 N T = 0 → grE L B c0 N T = nwE L B c0 N T) := fun h => by unfold grE; rw [if_neg h]
  clear hK hP hz hb hzb hc hcz hN hT zN zT lN lT hc0 h18
  obtain ⟨W0, hW0⟩ : ∃ W0, W0 = (((w.alloc (.cells #[.slice a1 L.length c1, .slice a2 B.length c2] 34)).alloc (.cells #[.int .i64 wh, .string (bs nm), .string (bs kn), .slice ao lo1 co, .slice af lf1 cf, .string (bs bn), .string (bs bf), .string (bs bt), .int .i64 mn, .int .i64 mx, .string (bs fnm), .int .i64 ft, .bool fm, .bool fk, .int .i64 wt, .int .i64 wn, .string (bs ws), .string (bs tn)] 58)).alloc (.cells #[.slice a3 N.length c3, .slice a4 T.length c4] 67)).alloc (.cells #[.slice none 0 0, .slice none 0 0] 67) := ⟨_, rfl⟩
  have hB00 : Below (((w.alloc (.cells #[.slice a1 L.length c1, .slice a2 B.length c2] 34)).alloc (.cells #[.int .i64 wh, .string (bs nm), .string (bs kn), .slice ao lo1 co, .slice af lf1 cf, .string (bs bn), .string (bs bf), .string (bs bt), .int .i64 mn, .int .i64 mx, .string (bs fnm), .int .i64 ft, .bool fm, .bool fk, .int .i64 wt, .int .i64 wn, .string (bs ws), .string (bs tn)] 58)).alloc (.cells #[.slice a3 N.length c3, .slice a4 T.length c4] 67)).heap.size (((w.alloc (.cells #[.slice a1 L.length c1, .slice a2 B.length c2] 34)).alloc (.cells #[.int .i64 wh, .string (bs nm), .string (bs kn), .slice ao lo1 co, .slice af lf1 cf, .string (bs bn), .string (bs bf), .string (bs bt), .int .i64 mn, .int .i64 mx, .string (bs fnm), .int .i64 ft, .bool fm, .bool fk, .int .i64 wt, .int .i64 wn, .string (bs ws), .string (bs tn)] 58)).alloc (.cells #[.slice a3 N.length c3, .slice a4 T.length c4] 67)) W0 := by rw [hW0]; exact b_alloc (Below.refl _ _) _
  have bx0 : Bx3 w (.slice a1 L.length c1) (.slice a2 B.length c2) (.slice a3 N.length c3) (.slice a4 T.length c4) #[.int .i64 wh, .string (bs nm), .string (bs kn), .slice ao lo1 co, .slice af lf1 cf, .string (bs bn), .string (bs bf), .string (bs bt), .int .i64 mn, .int .i64 mx, .string (bs fnm), .int .i64 ft, .bool fm, .bool fk, .int .i64 wt, .int .i64 wn, .string (bs ws), .string (bs tn)] W0 := (Bx3.mk3 w _ _ _ _ _).on hB00
  have n3 : W0.heap[w.heap.size + 3]? = some (.cells #[.slice none 0 0, .slice none 0 0] 67 (0, 0)) := by
    have := heap_alloc_new (((w.alloc (.cells #[.slice a1 L.length c1, .slice a2 B.length c2] 34)).alloc (.cells #[.int .i64 wh, .string (bs nm), .string (bs kn), .slice ao lo1 co, .slice af lf1 cf, .string (bs bn), .string (bs bf), .string (bs bt), .int .i64 mn, .int .i64 mx, .string (bs fnm), .int .i64 ft, .bool fm, .bool fk, .int .i64 wt, .int .i64 wn, .string (bs ws), .string (bs tn)] 58)).alloc (.cells #[.slice a3 N.length c3, .slice a4 T.length c4] 67)) (.cells #[.slice none 0 0, .slice none 0 0] 67)
    rw [World.size_alloc, World.size_alloc, World.size_alloc] at this; rw [hW0]; exact this
  have s0 : W0.cell? ⟨w.heap.size, 0, none⟩ = some (.slice a1 L.length c1) := cell_at bx0.2.1 rfl
  have s1 : W0.cell? ⟨w.heap.size, 1, none⟩ = some (.slice a2 B.length c2) := cell_at bx0.2.1 rfl
  have g0 : W0.cell? ⟨w.heap.size + 2, 0, none⟩ = some (.slice a3 N.length c3) := cell_at bx0.2.2.2 rfl
  have g1 : W0.cell? ⟨w.heap.size + 2, 1, none⟩ = some (.slice a4 T.length c4) := cell_at bx0.2.2.2 rfl
  have HN := Lib.hid bx0.2.2.1
  have cW := h1_w W0 bx0.1
  have HB0 := Lib.hid (And.intro bx0.1 n3)
  have HGo := Lib.hid hgo
  clear h1_w bx0 hgo n3 hB00
  by_cases h0 : nwE L B c0 N T = 0
  · have cW2 : Calls Tryz.prog 72 #[.agg #[.slice a1 L.length c1, .slice a2 B.length c2], .agg #[.int .i64 wh, .string (bs nm), .string (bs kn), .slice ao lo1 co, .slice af lf1 cf, .string (bs bn), .string (bs bf), .string (bs bt), .int .i64 mn, .int .i64 mx, .string (bs fnm), .int .i64 ft, .bool fm, .bool fk, .int .i64 wt, .int .i64 wn, .string (bs ws), .string (bs tn)], .agg #[.slice a3 N.length c3, .slice a4 T.length c4]] W0 fun e w' => ∃ p, e = .returned (.tuple #[.pointer (some ⟨p, 0, none⟩), .nilIface]) ∧ ∃ w1 Lm X uk ub ks fn vn vt vm, Lm.map kq3 = (cK L c0).map kq3 ∧ cN X = cN N ∧ Below W0.heap.size W0 w1 ∧ Mv w1 w' p c0 (kdsA L c0) Lm (cB B c0) X T X 0 uk ub ks fn vn vt vm := cW.mono (by
      rintro e w' ⟨hy, _, _⟩
      obtain ⟨w1, p, Lm, X, uk, ub, ks, fn, vn, vt, vm, he, h1, h2, h3, h4⟩ := hy h0
      exact ⟨p, he, w1, Lm, X, uk, ub, ks, fn, vn, vt, vm, h1, h2, h3, h4⟩)
    have HGo2 := Lib.hid (HGo.out h0)
    clear cW HGo HG h0
    go_enter Tryz.func50, Tryz.ntmps50
    go_upto_region 1 with fail
    rw [← hW0]
    clear hW0
    go_upto_region 4 with (first | (refine wpList_load_row rfl 58 (.tmp 4) rfl (w.heap.size + 1) rfl 58 _ (0, 0) _ HN.out Tryz.underlying58 rfl info37 ?_) | (go_at_call 72; refine cW2.mono ?_; rintro e W1 ⟨p, rfl, hm⟩; have HM := Lib.hid hm; clear hm))
    obtain ⟨w1, Lm, X, uk, ub, ks, fn, vn, vt, vm, h1, h2, h3, h4⟩ := HM.out
    have cO := HGo2.out W1 W1 w1 p Lm X uk ub ks fn vn vt vm h1 h2 h4
    have hB1 : Below W0.heap.size W0 W1 := on1K h3 h4.hB (Nat.le_refl _)
    have HQ : Hid (∀ W2, Below w1.heap.size W1 W2 → (W2.heap[w.heap.size + 3]? = some (.cells #[.slice none 0 0, .slice none 0 0] 67 (0, 0)) ∧ Below w.heap.size w W2) ∧ w.heap.size ≤ w1.heap.size) := fun W2 hB2 => by
      have hl := (Array.getElem?_eq_some_iff.1 HB0.out.2).1
      have h03 : Below W0.heap.size W0 W2 := hB1.trans (hB2.mono h3.size)
      exact ⟨⟨(h03.block _ hl).trans HB0.out.2, on1K HB0.out.1 h03 (Nat.le_refl _)⟩, Nat.le_trans HB0.out.1.size h3.size⟩
    clear cW2 HGo2 HM h1 h2 h3 h4 hB1 s0 s1 g0 g1 HN
    obtain ⟨z, hzz⟩ : ∃ z, z = grE L B c0 N T := ⟨_, rfl⟩
    rw [← hzz] at cO
    go_wp2_with (go_at_call 73; refine cO.mono ?_; rintro e W2 ⟨x1, x2, x3, x4, x5, x6, Y, rfl, hY, hB2⟩; obtain ⟨⟨k3, hBw⟩, hww⟩ := HQ.out W2 hB2; have y0 : W2.cell? ⟨w.heap.size + 3, 0, none⟩ = some (.slice none 0 0) := cell_at k3 rfl; have y1 : W2.cell? ⟨w.heap.size + 3, 1, none⟩ = some (.slice none 0 0) := cell_at k3 rfl; have f0 : W2.frozen? ⟨w.heap.size + 3, 0, none⟩ = false := frz_at k3; have f1 : W2.frozen? ⟨w.heap.size + 3, 1, none⟩ = false := frz_at k3; have HY := Lib.hid (And.intro hY (And.intro k3 (And.intro hBw hww))); clear hY hB2 k3 hBw hww cO HQ)
    obtain ⟨hY, k3, hBw, hww⟩ := HY.out
    have t1 : ((W2.setCell ⟨w.heap.size + 3, 0, none⟩ (.slice x1 x2 x3)).setCell ⟨w.heap.size + 3, 1, none⟩ (.slice x4 x5 x6)).heap[w.heap.size + 3]? = some (.cells #[.slice x1 x2 x3, .slice x4 x5 x6] 67 (0, 0)) := heap_setCell_same _ _ 1 _ 67 _ (heap_setCell_same W2 _ 0 _ 67 _ k3)
    have t2 := cell_at (i := 0) t1 rfl
    have t3 := cell_at (i := 1) t1 rfl
    have kk : ∀ t : TypeId, (67 : TypeId) ≠ t → Kt t W2 ((W2.setCell ⟨w.heap.size + 3, 0, none⟩ (.slice x1 x2 x3)).setCell ⟨w.heap.size + 3, 1, none⟩ (.slice x4 x5 x6)) := fun t hne => ((Kt.refl _ _).ty ⟨_, k3⟩ hne _ _).ty (Ty.set ⟨_, k3⟩ _ _ _) hne _ _
    refine bodyPost_ret (v := .tuple #[.agg #[.slice x1 x2 x3, .slice x4 x5 x6], errV z]) ?_ rfl ⟨x1, x2, x3, x4, x5, x6, Y, by rw [hzz], fun hz => ?_, ?_⟩
    · simp [results, Tryz.results50, go_sem, t2, t3, hzz]
    · obtain ⟨q1, q2, q3⟩ := hY (hzz.trans hz)
      have q4 := q2.kt (kk _ (by decide)) (kk _ (by decide))
      exact ⟨q1, ⟨own_base q4.1 hww, fun x hx => own_base (q4.2 x hx) hww⟩, own_base (q3.kt (kk _ (by decide))) hww⟩
    · exact (hBw.setCell (by show _ ≤ w.heap.size + 3; omega) _).setCell (by show _ ≤ w.heap.size + 3; omega) _
  · have hg := HG.out h0
    have cW2 : Calls Tryz.prog 72 #[.agg #[.slice a1 L.length c1, .slice a2 B.length c2], .agg #[.int .i64 wh, .string (bs nm), .string (bs kn), .slice ao lo1 co, .slice af lf1 cf, .string (bs bn), .string (bs bf), .string (bs bt), .int .i64 mn, .int .i64 mx, .string (bs fnm), .int .i64 ft, .bool fm, .bool fk, .int .i64 wt, .int .i64 wn, .string (bs ws), .string (bs tn)], .agg #[.slice a3 N.length c3, .slice a4 T.length c4]] W0 fun e w' => e = .returned (.tuple #[.pointer none, .iface 76 (.int .i64 (nwE L B c0 N T))]) ∧ Below W0.heap.size W0 w' := cW.mono (by
      rintro e w' ⟨_, hy, hB⟩
      rw [← errV_ne h0]
      exact ⟨hy h0, hB⟩)
    clear cW HGo HG
    have HG2 : Hid (∀ W, Below w.heap.size w W → GrP w L B c0 N T (.returned (.tuple #[.agg #[.slice none 0 0, .slice none 0 0], .iface 76 (.int .i64 (nwE L B c0 N T))])) W) := fun W hB => ⟨none, 0, 0, none, 0, 0, [], by rw [hg, errV_ne h0], fun h => absurd (hg.symm.trans h) h0, hB⟩
    clear hg
    generalize nwE L B c0 N T = z at *
    go_enter Tryz.func50, Tryz.ntmps50
    go_upto_region 1 with fail
    rw [← hW0]
    clear hW0
    go_upto_region 3 with (first | (refine wpList_load_row rfl 58 (.tmp 4) rfl (w.heap.size + 1) rfl 58 _ (0, 0) _ HN.out Tryz.underlying58 rfl info37 ?_) | (go_at_call 72; refine cW2.mono ?_; rintro e W1 ⟨rfl, hB1⟩))
    have k3 := (hB1.block _ (Array.getElem?_eq_some_iff.1 HB0.out.2).1).trans HB0.out.2
    have y0 : W1.cell? ⟨w.heap.size + 3, 0, none⟩ = some (.slice none 0 0) := cell_at k3 rfl
    have y1 : W1.cell? ⟨w.heap.size + 3, 1, none⟩ = some (.slice none 0 0) := cell_at k3 rfl
    have f0 : W1.frozen? ⟨w.heap.size + 3, 0, none⟩ = false := frz_at k3
    have f1 : W1.frozen? ⟨w.heap.size + 3, 1, none⟩ = false := frz_at k3
    have HY := Lib.hid (And.intro k3 hB1)
    clear k3 hB1 cW2 s0 s1 g0 g1 HN
    go_wp2
    have t1 : ((W1.setCell ⟨w.heap.size + 3, 0, none⟩ (.slice none 0 0)).setCell ⟨w.heap.size + 3, 1, none⟩ (.slice none 0 0)).heap[w.heap.size + 3]? = some (.cells #[.slice none 0 0, .slice none 0 0] 67 (0, 0)) := heap_setCell_same _ _ 1 _ 67 _ (heap_setCell_same W1 _ 0 _ 67 _ HY.out.1)
    have t2 := cell_at (i := 0) t1 rfl
    have t3 := cell_at (i := 1) t1 rfl
    refine bodyPost_ret (v := .tuple #[.agg #[.slice none 0 0, .slice none 0 0], .iface 76 (.int .i64 z)]) ?_ rfl (HG2.out _ ?_)
    · simp [results, Tryz.results50, go_sem, t2, t3]
    · exact ((on1K HB0.out.1 HY.out.2 (Nat.le_refl _)).setCell (by show _ ≤ w.heap.size + 3; omega) _).setCell (by show _ ≤ w.heap.size + 3; omega) _
end Go.Proofs.YtahamkajkkkjdaaGreatDoor
