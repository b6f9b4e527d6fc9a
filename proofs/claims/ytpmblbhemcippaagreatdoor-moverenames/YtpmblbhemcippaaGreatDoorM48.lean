/-
  New of anything; move.Graph.
-/
import Derived.Test.YtpmblbhemcippaaGreatDoorM47
import Derived.Test.YtpmblbhemcippaaGreatDoorM43
namespace Go.Proofs.YtpmblbhemcippaaGreatDoor
open Go.RowKit
set_option linter.unusedVariables false
set_option linter.unusedSimpArgs false
set_option maxHeartbeats 4000000 in
set_option maxRecDepth 100000 in
theorem new_bad {w : World} {vk vb : Value} {L : List Kd} {B : List Bd} (c : Ch) (hK : IsK w vk L) (hP : Parts w L) (hz : SzK L) (hb : IsB w vb B) (hzb : SzB B) (hc : ChIs w c) (hcz : ChSz c) {gn gt : Value} {N : List Nd} {T : List Te} (hN : IsN w gn N) (hT : IsT w gt T) (zN : SzN N) (zT : SzT T) (lN : N.length ≤ maxLen) (lT : T.length ≤ maxLen) (h0 : ¬ doE L B c = 0) :
    Calls Tryz.prog 13 #[.agg #[vk, vb], c.one, .agg #[gn, gt]] w (NwP w L B c N T) := by
  have hnw : nwE L B c N T = doE L B c := by unfold nwE; rw [if_neg h0]
  have h1_w : ∀ W, Below w.heap.size w W → Calls Tryz.prog 21 #[.agg #[vk, vb], c.one] W fun e w' => e = .returned (.tuple #[.agg #[.slice none 0 0, .slice none 0 0, .slice none 0 0, .nilFunc, .string ⟨#[]⟩], .iface 71 (.int .i64 (doE L B c))]) ∧ Below W.heap.size W w' := fun W h => wayOf_no c (hK.on h) (hP.on h) hz (hb.on h) hzb (hc.on h) hcz h0
  obtain ⟨wh, nm, ⟨kn, ko, kf, vo, vf⟩, ⟨bn, bf, bt, mn, mx⟩, ⟨fnm, ft, fm, fk⟩, wt, wn, ws, tn⟩ := c
  obtain ⟨a1, c1, rfl, _⟩ := hK.sln
  obtain ⟨a2, c2, rfl, _⟩ := hb.sln
  obtain ⟨a3, c3, rfl, _⟩ := id hN
  obtain ⟨a4, c4, rfl, _⟩ := id hT
  obtain ⟨ao, lo1, co, q1⟩ := hc.1.sl
  obtain ⟨af, lf1, cf, q2⟩ := hc.2.sl
  simp only at q1 q2
  subst q1 q2
  obtain ⟨c0, hc0⟩ : ∃ c0 : Ch, c0 = ⟨wh, nm, ⟨kn, ko, kf, .slice ao lo1 co, .slice af lf1 cf⟩, ⟨bn, bf, bt, mn, mx⟩, ⟨fnm, ft, fm, fk⟩, wt, wn, ws, tn⟩ := ⟨_, rfl⟩
  have h18 : c0.one = .agg #[.int .i64 wh, .string (bs nm), .string (bs kn), .slice ao lo1 co, .slice af lf1 cf, .string (bs bn), .string (bs bf), .string (bs bt), .int .i64 mn, .int .i64 mx, .string (bs fnm), .int .i64 ft, .bool fm, .bool fk, .int .i64 wt, .int .i64 wn, .string (bs ws), .string (bs tn)] := by rw [hc0]
  rw [← hc0] at h0 hnw h1_w ⊢
  rw [h18] at h1_w ⊢
  generalize doE L B c0 = z at *
  clear hK hP hz hb hzb hc hcz hN hT zN zT lN lT hc0 h18
  obtain ⟨W0, hW0⟩ : ∃ W0, W0 = ((w.alloc (.cells #[.slice a1 L.length c1, .slice a2 B.length c2] 46)).alloc (.cells #[.int .i64 wh, .string (bs nm), .string (bs kn), .slice ao lo1 co, .slice af lf1 cf, .string (bs bn), .string (bs bf), .string (bs bt), .int .i64 mn, .int .i64 mx, .string (bs fnm), .int .i64 ft, .bool fm, .bool fk, .int .i64 wt, .int .i64 wn, .string (bs ws), .string (bs tn)] 38)).alloc (.cells #[.slice a3 N.length c3, .slice a4 T.length c4] 25) := ⟨_, rfl⟩
  have bx0 : Bx3 w (.slice a1 L.length c1) (.slice a2 B.length c2) (.slice a3 N.length c3) (.slice a4 T.length c4) #[.int .i64 wh, .string (bs nm), .string (bs kn), .slice ao lo1 co, .slice af lf1 cf, .string (bs bn), .string (bs bf), .string (bs bt), .int .i64 mn, .int .i64 mx, .string (bs fnm), .int .i64 ft, .bool fm, .bool fk, .int .i64 wt, .int .i64 wn, .string (bs ws), .string (bs tn)] W0 := by rw [hW0]; exact Bx3.mk3 _ _ _ _ _ _
  have s0 : W0.cell? ⟨w.heap.size, 0, none⟩ = some (.slice a1 L.length c1) := cell_at bx0.2.1 rfl
  have s1 : W0.cell? ⟨w.heap.size, 1, none⟩ = some (.slice a2 B.length c2) := cell_at bx0.2.1 rfl
  have HN := Lib.hid bx0.2.2.1
  have cW := h1_w W0 bx0.1
  have HB0 := Lib.hid bx0.1
  clear h1_w bx0
  have hst := fun (a : Addr) (W : World) => run_store Tryz.prog W a .nilFunc .plain rfl
  go_enter Tryz.func13, Tryz.ntmps13
  go_upto_region 1 with fail
  rw [← hW0]
  clear hW0
  go_upto_region 2 with (first | (refine wpList_load_row rfl 38 (.tmp 4) rfl (w.heap.size + 1) rfl 38 _ (0, 0) _ HN.out Tryz.underlying38 rfl info37 ?_) | (go_at_call 21; refine cW.mono ?_; rintro e W1 ⟨rfl, hB1⟩) | (refine wpList_store_new rfl 81 (.tmp 8) (.tmp 16) rfl _ _ rfl rfl info71 rfl rfl ?_))
  have hB2 : Below W0.heap.size W0 (W1.alloc (.cells #[.slice none 0 0, .slice none 0 0, .slice none 0 0, .nilFunc, .string ⟨#[]⟩] 81)) := on1K hB1 (b_alloc (Below.refl _ _) _) (Nat.le_refl _)
  generalize (W1.alloc (.cells #[.slice none 0 0, .slice none 0 0, .slice none 0 0, .nilFunc, .string ⟨#[]⟩] 81)) = W2 at *
  clear cW hB1 s0 s1 HN
  go_wp2
  go_ret2
  exact nwP_bad hnw h0 (on1K HB0.out hB2 (Nat.le_refl _))
theorem new_any {w : World} {vk vb : Value} {L : List Kd} {B : List Bd} (c : Ch) (hK : IsK w vk L) (hP : Parts w L) (hz : SzK L) (hb : IsB w vb B) (hzb : SzB B) (hc : ChIs w c) (hcz : ChSz c) {gn gt : Value} {N : List Nd} {T : List Te} (hN : IsN w gn N) (hT : IsT w gt T) (zN : SzN N) (zT : SzT T) (lN : N.length ≤ maxLen) (lT : T.length ≤ maxLen) :
    Calls Tryz.prog 13 #[.agg #[vk, vb], c.one, .agg #[gn, gt]] w (NwP w L B c N T) := by
  by_cases h0 : doE L B c = 0
  · by_cases hw : c.wh = 3 ∨ c.wh = 4 ∨ c.wh = 7
    · exact new_fun c hK hP hz hb hzb hc hcz hN hT zN zT lN lT h0 hw
    · exact new_nil c hK hP hz hb hzb hc hcz hN hT zN zT lN lT h0 hw
  · exact new_bad c hK hP hz hb hzb hc hcz hN hT zN zT lN lT h0
theorem nwE_parts {L : List Kd} {B : List Bd} {c : Ch} {N : List Nd} {T : List Te} (h : nwE L B c N T = 0) : doE L B c = 0 ∧ confB L B N T = true := by
  unfold nwE at h
  split at h
  · rename_i h0
    split at h
    · split at h
      · rename_i h2; exact ⟨h0, h2⟩
      · exact absurd h (by decide)
    · rename_i h1; exact absurd h h1
  · rename_i h0; exact absurd h h0
theorem cN_mem {X N : List Nd} (h : cN X = cN N) : ∀ x ∈ X, ∃ n ∈ N, n.kd = x.kd ∧ n.rc = x.rc := fun x hx => by
  obtain ⟨i, hi⟩ := List.getElem?_of_mem hx
  have h9 : (cN X)[i]? = some x.c := by unfold cN; rw [List.getElem?_map, hi]; rfl
  rw [h] at h9
  unfold cN at h9
  rw [List.getElem?_map] at h9
  obtain ⟨y, hy, e9⟩ := Option.map_eq_some_iff.1 h9
  exact ⟨y, List.mem_of_getElem? hy, show y.c.kd = x.c.kd by rw [e9], show y.c.rc = x.c.rc by rw [e9]⟩
theorem mvok_of {L : List Kd} {B : List Bd} {c : Ch} {N X : List Nd} {T : List Te} {Lm : List Kd} (h : nwE L B c N T = 0) (hcz : ChSz c) (hX : cN X = cN N) (hM : Lm.map kq3 = (cK L c).map kq3) (zN : SzN N) (zT : SzT T) : MvOk c (kdsA L c) Lm (cB B c) X T := by
  obtain ⟨h0, hcf⟩ := nwE_parts h
  obtain ⟨_, hs, hg⟩ := conf_parts hcf
  have hl := gErr_parts hg
  have hlx : X.length = N.length := by have := congrArg List.length hX; simpa [cN] using this
  have hk := kdsA_le L c
  have hg12 := good_of hs
  refine ⟨by omega, hl.2.1, fun x hx => ?_, by omega, fit_kds L c, (ch_sz hcz).1, (ch_sz hcz).2, szN_c hX zN, zT, ?_⟩
  · obtain ⟨n, hn, _, e⟩ := cN_mem hX x hx
    rw [← e]; exact gErr_recs hg n hn
  · rw [sErr_kq hM]; exact (doE_yes h0).2
theorem aoE_of {L : List Kd} {B : List Bd} {c : Ch} {K : List Nm} {N X : List Nd} {T : List Te} {Lm : List Kd} (hX : cN X = cN N) (hM : Lm.map kq3 = L.map kq3) : aoE c K Lm B X T = aoE c K L B N T := by
  unfold aoE
  rw [allX_cc hX, map_ndT_cc hX, confB_kq hM]
def grE (L : List Kd) (B : List Bd) (c : Ch) (N : List Nd) (T : List Te) : Int := if nwE L B c N T = 0 then aoE c (kdsA L c) (cK L c) (cB B c) N T else nwE L B c N T
def GrP (w : World) (L : List Kd) (B : List Bd) (c : Ch) (N : List Nd) (T : List Te) (e : Ending) (w' : World) : Prop :=
  ∃ a1 l1 c1 a2 l2 c2 X, e = .returned (.tuple #[.agg #[.slice a1 l1 c1, .slice a2 l2 c2], errV (grE L B c N T)]) ∧ (grE L B c N T = 0 → cN X = N.map (ndT c (kdsA L c)) ∧ OwnNs w' w.heap.size (.slice a1 l1 c1) X ∧ OwnTs w' w.heap.size (.slice a2 l2 c2) (T.filter (keepB (drp c)))) ∧ Below w.heap.size w w'
set_option maxHeartbeats 4000000 in
set_option maxRecDepth 100000 in
theorem graph_any {w : World} {vk vb : Value} {L : List Kd} {B : List Bd} (c : Ch) (hK : IsK w vk L) (hP : Parts w L) (hz : SzK L) (hb : IsB w vb B) (hzb : SzB B) (hc : ChIs w c) (hcz : ChSz c) {gn gt : Value} {N : List Nd} {T : List Te} (hN : IsN w gn N) (hT : IsT w gt T) (zN : SzN N) (zT : SzT T) (lN : N.length ≤ maxLen) (lT : T.length ≤ maxLen) :
    Calls Tryz.prog 5 #[.agg #[vk, vb], c.one, .agg #[gn, gt]] w (GrP w L B c N T) := by
  have h1_w : ∀ W, Below w.heap.size w W → Calls Tryz.prog 13 #[.agg #[vk, vb], c.one, .agg #[gn, gt]] W (NwP W L B c N T) := fun W h => new_any c (hK.on h) (hP.on h) hz (hb.on h) hzb (hc.on h) hcz (hN.on h) (hT.on h) zN zT lN lT
  have hgo : nwE L B c N T = 0 → ∀ (W W1 w1 : World) p Lm X uk ub ks fn vn vt vm, Lm.map kq3 = (cK L c).map kq3 → cN X = cN N → Mv w1 W1 p c (kdsA L c) Lm (cB B c) X T X 0 uk ub ks fn vn vt vm → Calls Tryz.prog 14 #[.pointer (some ⟨p, 0, none⟩)] W1 fun e w' => ∃ a1 l1 c1 a2 l2 c2 X, e = .returned (.tuple #[.agg #[.slice a1 l1 c1, .slice a2 l2 c2], errV (grE L B c N T)]) ∧ (grE L B c N T = 0 → cN X = N.map (ndT c (kdsA L c)) ∧ OwnNs w' w1.heap.size (.slice a1 l1 c1) X ∧ OwnTs w' w1.heap.size (.slice a2 l2 c2) (T.filter (keepB (drp c)))) ∧ Below w1.heap.size W1 w' := fun h0 W W1 w1 p Lm X uk ub ks fn vn vt vm hM hX hm => by
    have ho := mvok_of h0 hcz hX hM zN zT
    have e : aoE c (kdsA L c) Lm (cB B c) X T = grE L B c N T := by unfold grE; rw [if_pos h0]; exact aoE_of hX hM
    refine (atOnce_any hm ho ho.len).mono ?_
    rintro e' w' ⟨a1, l1, c1, a2, l2, c2, X2, he, h2, h3⟩
    rw [e] at he h2
    refine ⟨a1, l1, c1, a2, l2, c2, X2, he, fun hz => ?_, h3⟩
    obtain ⟨q1, q2, q3⟩ := h2 hz
    exact ⟨by rw [q1, map_ndT_cc hX], q2, q3⟩
  obtain ⟨wh, nm, ⟨kn, ko, kf, vo, vf⟩, ⟨bn, bf, bt, mn, mx⟩, ⟨fnm, ft, fm, fk⟩, wt, wn, ws, tn⟩ := c
  obtain ⟨a1, c1, rfl, _⟩ := hK.sln
  obtain ⟨a2, c2, rfl, _⟩ := hb.sln
  obtain ⟨a3, c3, rfl, _⟩ := id hN
  obtain ⟨a4, c4, rfl, _⟩ := id hT
  obtain ⟨ao, lo1, co, q1⟩ := hc.1.sl
  obtain ⟨af, lf1, cf, q2⟩ := hc.2.sl
  simp only at q1 q2
  subst q1 q2
  obtain ⟨c0, hc0⟩ : ∃ c0 : Ch, c0 = ⟨wh, nm, ⟨kn, ko, kf, .slice ao lo1 co, .slice af lf1 cf⟩, ⟨bn, bf, bt, mn, mx⟩, ⟨fnm, ft, fm, fk⟩, wt, wn, ws, tn⟩ := ⟨_, rfl⟩
  have h18 : c0.one = .agg #[.int .i64 wh, .string (bs nm), .string (bs kn), .slice ao lo1 co, .slice af lf1 cf, .string (bs bn), .string (bs bf), .string (bs bt), .int .i64 mn, .int .i64 mx, .string (bs fnm), .int .i64 ft, .bool fm, .bool fk, .int .i64 wt, .int .i64 wn, .string (bs ws), .string (bs tn)] := by rw [hc0]
  rw [← hc0] at hgo h1_w ⊢
  rw [h18] at h1_w ⊢
  have HG : Hid (¬ nwE L B c0 N T = 0 → grE L B c0 N T = nwE L B c0 N T) := fun h => by unfold grE; rw [if_neg h]
  clear hK hP hz hb hzb hc hcz hN hT zN zT lN lT hc0 h18
  obtain ⟨W0, hW0⟩ : ∃ W0, W0 = (((w.alloc (.cells #[.slice a1 L.length c1, .slice a2 B.length c2] 46)).alloc (.cells #[.int .i64 wh, .string (bs nm), .string (bs kn), .slice ao lo1 co, .slice af lf1 cf, .string (bs bn), .string (bs bf), .string (bs bt), .int .i64 mn, .int .i64 mx, .string (bs fnm), .int .i64 ft, .bool fm, .bool fk, .int .i64 wt, .int .i64 wn, .string (bs ws), .string (bs tn)] 38)).alloc (.cells #[.slice a3 N.length c3, .slice a4 T.length c4] 25)).alloc (.cells #[.slice none 0 0, .slice none 0 0] 25) := ⟨_, rfl⟩
  have hB00 : Below (((w.alloc (.cells #[.slice a1 L.length c1, .slice a2 B.length c2] 46)).alloc (.cells #[.int .i64 wh, .string (bs nm), .string (bs kn), .slice ao lo1 co, .slice af lf1 cf, .string (bs bn), .string (bs bf), .string (bs bt), .int .i64 mn, .int .i64 mx, .string (bs fnm), .int .i64 ft, .bool fm, .bool fk, .int .i64 wt, .int .i64 wn, .string (bs ws), .string (bs tn)] 38)).alloc (.cells #[.slice a3 N.length c3, .slice a4 T.length c4] 25)).heap.size (((w.alloc (.cells #[.slice a1 L.length c1, .slice a2 B.length c2] 46)).alloc (.cells #[.int .i64 wh, .string (bs nm), .string (bs kn), .slice ao lo1 co, .slice af lf1 cf, .string (bs bn), .string (bs bf), .string (bs bt), .int .i64 mn, .int .i64 mx, .string (bs fnm), .int .i64 ft, .bool fm, .bool fk, .int .i64 wt, .int .i64 wn, .string (bs ws), .string (bs tn)] 38)).alloc (.cells #[.slice a3 N.length c3, .slice a4 T.length c4] 25)) W0 := by rw [hW0]; exact b_alloc (Below.refl _ _) _
  have bx0 : Bx3 w (.slice a1 L.length c1) (.slice a2 B.length c2) (.slice a3 N.length c3) (.slice a4 T.length c4) #[.int .i64 wh, .string (bs nm), .string (bs kn), .slice ao lo1 co, .slice af lf1 cf, .string (bs bn), .string (bs bf), .string (bs bt), .int .i64 mn, .int .i64 mx, .string (bs fnm), .int .i64 ft, .bool fm, .bool fk, .int .i64 wt, .int .i64 wn, .string (bs ws), .string (bs tn)] W0 := (Bx3.mk3 w _ _ _ _ _).on hB00
  have n3 : W0.heap[w.heap.size + 3]? = some (.cells #[.slice none 0 0, .slice none 0 0] 25 (0, 0)) := by
    have := heap_alloc_new (((w.alloc (.cells #[.slice a1 L.length c1, .slice a2 B.length c2] 46)).alloc (.cells #[.int .i64 wh, .string (bs nm), .string (bs kn), .slice ao lo1 co, .slice af lf1 cf, .string (bs bn), .string (bs bf), .string (bs bt), .int .i64 mn, .int .i64 mx, .string (bs fnm), .int .i64 ft, .bool fm, .bool fk, .int .i64 wt, .int .i64 wn, .string (bs ws), .string (bs tn)] 38)).alloc (.cells #[.slice a3 N.length c3, .slice a4 T.length c4] 25)) (.cells #[.slice none 0 0, .slice none 0 0] 25)
    rw [World.size_alloc, World.size_alloc, World.size_alloc] at this; rw [hW0]; exact this
  have s0 : W0.cell? ⟨w.heap.size, 0, none⟩ = some (.slice a1 L.length c1) := cell_at bx0.2.1 rfl
  have s1 : W0.cell? ⟨w.heap.size, 1, none⟩ = some (.slice a2 B.length c2) := cell_at bx0.2.1 rfl
  have g0 : W0.cell? ⟨w.heap.size + 2, 0, none⟩ = some (.slice a3 N.length c3) := cell_at bx0.2.2.2 rfl
  have g1 : W0.cell? ⟨w.heap.size + 2, 1, none⟩ = some (.slice a4 T.length c4) := cell_at bx0.2.2.2 rfl
  have HN := Lib.hid bx0.2.2.1
  have cW := h1_w W0 bx0.1
  have HB0 := Lib.hid (And.intro bx0.1 n3)
  have HGo := Lib.hid hgo
  clear h1_w bx0 hgo n3 hB00
  by_cases h0 : nwE L B c0 N T = 0
  · have cW2 : Calls Tryz.prog 13 #[.agg #[.slice a1 L.length c1, .slice a2 B.length c2], .agg #[.int .i64 wh, .string (bs nm), .string (bs kn), .slice ao lo1 co, .slice af lf1 cf, .string (bs bn), .string (bs bf), .string (bs bt), .int .i64 mn, .int .i64 mx, .string (bs fnm), .int .i64 ft, .bool fm, .bool fk, .int .i64 wt, .int .i64 wn, .string (bs ws), .string (bs tn)], .agg #[.slice a3 N.length c3, .slice a4 T.length c4]] W0 fun e w' => ∃ p, e = .returned (.tuple #[.pointer (some ⟨p, 0, none⟩), .nilIface]) ∧ ∃ w1 Lm X uk ub ks fn vn vt vm, Lm.map kq3 = (cK L c0).map kq3 ∧ cN X = cN N ∧ Below W0.heap.size W0 w1 ∧ Mv w1 w' p c0 (kdsA L c0) Lm (cB B c0) X T X 0 uk ub ks fn vn vt vm := cW.mono (by
      rintro e w' ⟨hy, _, _⟩
      obtain ⟨w1, p, Lm, X, uk, ub, ks, fn, vn, vt, vm, he, h1, h2, h3, h4⟩ := hy h0
      exact ⟨p, he, w1, Lm, X, uk, ub, ks, fn, vn, vt, vm, h1, h2, h3, h4⟩)
    have HGo2 := Lib.hid (HGo.out h0)
    clear cW HGo HG h0
    go_enter Tryz.func5, Tryz.ntmps5
    go_upto_region 1 with fail
    rw [← hW0]
    clear hW0
    go_upto_region 4 with (first | (refine wpList_load_row rfl 38 (.tmp 4) rfl (w.heap.size + 1) rfl 38 _ (0, 0) _ HN.out Tryz.underlying38 rfl info37 ?_) | (go_at_call 13; refine cW2.mono ?_; rintro e W1 ⟨p, rfl, hm⟩; have HM := Lib.hid hm; clear hm))
    obtain ⟨w1, Lm, X, uk, ub, ks, fn, vn, vt, vm, h1, h2, h3, h4⟩ := HM.out
    have cO := HGo2.out W1 W1 w1 p Lm X uk ub ks fn vn vt vm h1 h2 h4
    have hB1 : Below W0.heap.size W0 W1 := on1K h3 h4.hB (Nat.le_refl _)
    have HQ : Hid (∀ W2, Below w1.heap.size W1 W2 → (W2.heap[w.heap.size + 3]? = some (.cells #[.slice none 0 0, .slice none 0 0] 25 (0, 0)) ∧ Below w.heap.size w W2) ∧ w.heap.size ≤ w1.heap.size) := fun W2 hB2 => by
      have hl := (Array.getElem?_eq_some_iff.1 HB0.out.2).1
      have h03 : Below W0.heap.size W0 W2 := hB1.trans (hB2.mono h3.size)
      exact ⟨⟨(h03.block _ hl).trans HB0.out.2, on1K HB0.out.1 h03 (Nat.le_refl _)⟩, Nat.le_trans HB0.out.1.size h3.size⟩
    clear cW2 HGo2 HM h1 h2 h3 h4 hB1 s0 s1 g0 g1 HN
    obtain ⟨z, hzz⟩ : ∃ z, z = grE L B c0 N T := ⟨_, rfl⟩
    rw [← hzz] at cO
    go_wp2_with (go_at_call 14; refine cO.mono ?_; rintro e W2 ⟨x1, x2, x3, x4, x5, x6, Y, rfl, hY, hB2⟩; obtain ⟨⟨k3, hBw⟩, hww⟩ := HQ.out W2 hB2; have y0 : W2.cell? ⟨w.heap.size + 3, 0, none⟩ = some (.slice none 0 0) := cell_at k3 rfl; have y1 : W2.cell? ⟨w.heap.size + 3, 1, none⟩ = some (.slice none 0 0) := cell_at k3 rfl; have f0 : W2.frozen? ⟨w.heap.size + 3, 0, none⟩ = false := frz_at k3; have f1 : W2.frozen? ⟨w.heap.size + 3, 1, none⟩ = false := frz_at k3; have HY := Lib.hid (And.intro hY (And.intro k3 (And.intro hBw hww))); clear hY hB2 k3 hBw hww cO HQ)
    obtain ⟨hY, k3, hBw, hww⟩ := HY.out
    have t1 : ((W2.setCell ⟨w.heap.size + 3, 0, none⟩ (.slice x1 x2 x3)).setCell ⟨w.heap.size + 3, 1, none⟩ (.slice x4 x5 x6)).heap[w.heap.size + 3]? = some (.cells #[.slice x1 x2 x3, .slice x4 x5 x6] 25 (0, 0)) := heap_setCell_same _ _ 1 _ 25 _ (heap_setCell_same W2 _ 0 _ 25 _ k3)
    have t2 := cell_at (i := 0) t1 rfl
    have t3 := cell_at (i := 1) t1 rfl
    have kk : ∀ t : TypeId, (25 : TypeId) ≠ t → Kt t W2 ((W2.setCell ⟨w.heap.size + 3, 0, none⟩ (.slice x1 x2 x3)).setCell ⟨w.heap.size + 3, 1, none⟩ (.slice x4 x5 x6)) := fun t hne => ((Kt.refl _ _).ty ⟨_, k3⟩ hne _ _).ty (Ty.set ⟨_, k3⟩ _ _ _) hne _ _
    refine bodyPost_ret (v := .tuple #[.agg #[.slice x1 x2 x3, .slice x4 x5 x6], errV z]) ?_ rfl ⟨x1, x2, x3, x4, x5, x6, Y, by rw [hzz], fun hz => ?_, ?_⟩
    · simp [results, Tryz.results5, go_sem, t2, t3, hzz]
    · obtain ⟨q1, q2, q3⟩ := hY (hzz.trans hz)
      have q4 := q2.kt (kk _ (by decide)) (kk _ (by decide))
      exact ⟨q1, ⟨own_base q4.1 hww, fun x hx => own_base (q4.2 x hx) hww⟩, own_base (q3.kt (kk _ (by decide))) hww⟩
    · exact (hBw.setCell (by show _ ≤ w.heap.size + 3; omega) _).setCell (by show _ ≤ w.heap.size + 3; omega) _
  · have hg := HG.out h0
    have cW2 : Calls Tryz.prog 13 #[.agg #[.slice a1 L.length c1, .slice a2 B.length c2], .agg #[.int .i64 wh, .string (bs nm), .string (bs kn), .slice ao lo1 co, .slice af lf1 cf, .string (bs bn), .string (bs bf), .string (bs bt), .int .i64 mn, .int .i64 mx, .string (bs fnm), .int .i64 ft, .bool fm, .bool fk, .int .i64 wt, .int .i64 wn, .string (bs ws), .string (bs tn)], .agg #[.slice a3 N.length c3, .slice a4 T.length c4]] W0 fun e w' => e = .returned (.tuple #[.pointer none, .iface 71 (.int .i64 (nwE L B c0 N T))]) ∧ Below W0.heap.size W0 w' := cW.mono (by
      rintro e w' ⟨_, hy, hB⟩
      rw [← errV_ne h0]
      exact ⟨hy h0, hB⟩)
    clear cW HGo HG
    have HG2 : Hid (∀ W, Below w.heap.size w W → GrP w L B c0 N T (.returned (.tuple #[.agg #[.slice none 0 0, .slice none 0 0], .iface 71 (.int .i64 (nwE L B c0 N T))])) W) := fun W hB => ⟨none, 0, 0, none, 0, 0, [], by rw [hg, errV_ne h0], fun h => absurd (hg.symm.trans h) h0, hB⟩
    clear hg
    generalize nwE L B c0 N T = z at *
    go_enter Tryz.func5, Tryz.ntmps5
    go_upto_region 1 with fail
    rw [← hW0]
    clear hW0
    go_upto_region 3 with (first | (refine wpList_load_row rfl 38 (.tmp 4) rfl (w.heap.size + 1) rfl 38 _ (0, 0) _ HN.out Tryz.underlying38 rfl info37 ?_) | (go_at_call 13; refine cW2.mono ?_; rintro e W1 ⟨rfl, hB1⟩))
    have k3 := (hB1.block _ (Array.getElem?_eq_some_iff.1 HB0.out.2).1).trans HB0.out.2
    have y0 : W1.cell? ⟨w.heap.size + 3, 0, none⟩ = some (.slice none 0 0) := cell_at k3 rfl
    have y1 : W1.cell? ⟨w.heap.size + 3, 1, none⟩ = some (.slice none 0 0) := cell_at k3 rfl
    have f0 : W1.frozen? ⟨w.heap.size + 3, 0, none⟩ = false := frz_at k3
    have f1 : W1.frozen? ⟨w.heap.size + 3, 1, none⟩ = false := frz_at k3
    have HY := Lib.hid (And.intro k3 hB1)
    clear k3 hB1 cW2 s0 s1 g0 g1 HN
    go_wp2
    have t1 : ((W1.setCell ⟨w.heap.size + 3, 0, none⟩ (.slice none 0 0)).setCell ⟨w.heap.size + 3, 1, none⟩ (.slice none 0 0)).heap[w.heap.size + 3]? = some (.cells #[.slice none 0 0, .slice none 0 0] 25 (0, 0)) := heap_setCell_same _ _ 1 _ 25 _ (heap_setCell_same W1 _ 0 _ 25 _ HY.out.1)
    have t2 := cell_at (i := 0) t1 rfl
    have t3 := cell_at (i := 1) t1 rfl
    refine bodyPost_ret (v := .tuple #[.agg #[.slice none 0 0, .slice none 0 0], .iface 71 (.int .i64 z)]) ?_ rfl (HG2.out _ ?_)
    · simp [results, Tryz.results5, go_sem, t2, t3]
    · exact ((on1K HB0.out.1 HY.out.2 (Nat.le_refl _)).setCell (by show _ ≤ w.heap.size + 3; omega) _).setCell (by show _ ≤ w.heap.size + 3; omega) _
def chN (o t : Nm) : Ch := ⟨7, [97], kd0, bd0, ⟨o, 0, false, false⟩, 0, 0, [], t⟩
theorem lo_n (o : Nm) : lo o [fdN o] = 0 := lo_insA [] (fdN o)
theorem fnd_n (o : Nm) : fnd o [fdN o] = true := insA_fnd [] (fdN o)
theorem fnd_no {o t : Nm} (h : ¬ o = t) : fnd t [fdN o] = false := by
  cases hf : fnd t [fdN o] with
  | false => rfl
  | true =>
    obtain ⟨x, hx, e⟩ := (fnd_iff (List.pairwise_singleton _ _)).1 hf
    rw [List.mem_singleton.1 hx] at e
    exact absurd e h
theorem rnF_n (o t : Nm) : rnF [fdN o] o t = [fdN t] := by
  unfold rnF
  rw [lo_n]
  rfl
theorem cK_n (o t : Nm) (vo vf : Value) : cK [kdN o vo vf] (chN o t) = [kdN t vo vf] := by
  show (if (7 : Int) = 1 then _ else if (7 : Int) = 2 then _ else if (7 : Int) = 3 then _ else if (7 : Int) = 4 then _ else if (7 : Int) = 7 then setFs [kdN o vo vf] [97] (rnF [fdN o] o t) else _) = _
  rw [if_neg (by decide), if_neg (by decide), if_neg (by decide), if_neg (by decide), if_pos rfl, rnF_n]
  rfl
theorem cB_n (o t : Nm) (B : List Bd) : cB B (chN o t) = B := by
  show (if (7 : Int) = 5 then _ else if (7 : Int) = 6 then _ else if (7 : Int) = 8 then _ else B) = B
  rw [if_neg (by decide), if_neg (by decide), if_neg (by decide)]
theorem cE_n (o t : Nm) (vo vf : Value) : cE [kdN o vo vf] [bdN] (chN o t) = if nErr t = 0 then (if o = t then 7 else 0) else nErr t := by
  show (if (7 : Int) = 1 then _ else if (7 : Int) = 2 then _ else if (7 : Int) = 3 then _ else if (7 : Int) = 4 then _ else if (7 : Int) = 5 then _ else if (7 : Int) = 6 then _ else if (7 : Int) = 7 then e7 [kdN o vo vf] [97] o t else _) = _
  rw [if_neg (by decide), if_neg (by decide), if_neg (by decide), if_neg (by decide), if_neg (by decide), if_neg (by decide), if_pos rfl]
  have h4 : e4 [kdN o vo vf] [97] o = 0 := by
    unfold e4
    rw [if_neg (show ¬ idxK [97] [kdN o vo vf] 0 = -1 by show ¬ (0 : Int) = -1; decide), show fdsAt [kdN o vo vf] [97] = [fdN o] from rfl, fnd_n, if_pos rfl]
  unfold e7
  rw [if_pos h4, show fdsAt [kdN o vo vf] [97] = [fdN o] from rfl]
  by_cases ht : nErr t = 0
  · rw [if_pos ht, if_pos ht]
    by_cases ho : o = t
    · subst ho
      rw [fnd_n, if_pos rfl, if_pos rfl]
    · rw [fnd_no ho, if_neg (by decide), if_neg ho]
  · rw [if_neg ht, if_neg ht]
theorem doE_n {o t : Nm} (ho : nErr o = 0) (vo vf : Value) : doE [kdN o vo vf] [bdN] (chN o t) = if nErr t = 0 then (if o = t then 7 else 0) else nErr t := by
  unfold doE
  rw [if_pos (sErr_n ho vo vf)]
  unfold apE
  rw [cE_n]
  by_cases ht : nErr t = 0
  · rw [if_pos ht]
    by_cases h : o = t
    · rw [if_pos h, if_neg (by decide)]
    · rw [if_neg h, if_pos rfl, cK_n, cB_n]
      exact sErr_n ht vo vf
  · rw [if_neg ht, if_neg ht]
theorem nErr_two {l : Nm} (h : ¬ nErr l = 0) : nErr l = 2 := by
  unfold nErr at h ⊢
  split
  · rfl
  · split
    · rfl
    · split
      · rfl
      · rename_i h1 h2 h3
        rw [if_neg h1, if_neg h2, if_neg h3] at h
        exact absurd rfl h
theorem kds_n (o t : Nm) (vo vf : Value) : kdsA [kdN o vo vf] (chN o t) = [[97]] := by
  unfold kdsA
  rw [if_pos (show (chN o t).wh = 3 ∨ (chN o t).wh = 4 ∨ (chN o t).wh = 7 from .inr (.inr rfl))]
  rfl
theorem allX_7 (o t : Nm) (K : List Nm) : ∀ N : List Nd, allX (chN o t) K N = 0
  | [] => rfl
  | n :: r => by
    have h : ndX (chN o t) K n = 0 := by
      unfold ndX tnE
      rw [if_neg (show ¬ (chN o t).wh = 3 by show ¬ (7 : Int) = 3; decide)]
      split <;> rfl
    unfold allX
    rw [if_pos h, allX_7 o t K r]
theorem rnR_n {o t : Nm} (h : ¬ o = t) (i : Int) : rnR [prN o i] (bs o) (bs t) = [prN t i] := by
  have h1 : idxP (bs o).toList [prN o i] 0 = 0 := by rw [bs_toList]; exact idx_n o i
  have h2 : idxP (bs t).toList [prN o i] 0 = -1 := by
    rw [bs_toList]
    unfold idxP
    rw [show (prN o i).nm = bs o from rfl, bs_toList, if_neg (by simpa using h)]
    rfl
  unfold rnR
  rw [h1, h2, if_neg (by decide), if_pos rfl]
  rfl
theorem ndT_n {o t : Nm} (h : ¬ o = t) {n : Nd} {i : Int} (hk : n.kd = ⟨#[97]⟩) (hr : n.rc = [prN o i]) : ndT (chN o t) [[97]] n = ⟨n.id, ⟨#[97]⟩, .nilIface, [prN t i]⟩ := by
  have hg : goes [[97]] n = true := by
    unfold goes
    rw [hk, Lib.toList_data]
    decide
  unfold ndT ndY
  rw [if_pos hg, hk, hr]
  unfold tnR
  rw [if_neg (show ¬ (chN o t).wh = 3 by show ¬ (7 : Int) = 3; decide), if_neg (show ¬ (chN o t).wh = 4 by show ¬ (7 : Int) = 4; decide), if_pos (show (chN o t).wh = 7 from rfl)]
  show (⟨n.id, ⟨#[97]⟩, .nilIface, rnR [prN o i] (bs o) (bs t)⟩ : Nd) = _
  rw [rnR_n h]
theorem row_ndT {o t : Nm} (h : ¬ o = t) {N : List Nd} (hN : RowPn o N) : RowPn t (N.map (ndT (chN o t) [[97]])) := fun j x hx => by
  rw [List.getElem?_map] at hx
  obtain ⟨n, hn, e⟩ := Option.map_eq_some_iff.1 hx
  obtain ⟨h1, h2, h3⟩ := hN j n hn
  rw [ndT_n h h2 h3] at e
  subst e
  exact ⟨h1, rfl, rfl⟩
theorem row_c {nm : Nm} {N M : List Nd} (h : cN M = cN N) (hN : RowPn nm N) : RowPn nm M := fun j x hx => by
  have h9 : (cN M)[j]? = some x.c := by unfold cN; rw [List.getElem?_map, hx]; rfl
  rw [h] at h9
  unfold cN at h9
  rw [List.getElem?_map] at h9
  obtain ⟨y, hy, e9⟩ := Option.map_eq_some_iff.1 h9
  obtain ⟨h1, h2, h3⟩ := hN j y hy
  exact ⟨(show y.c.id = x.c.id by rw [e9]).symm.trans h1, (show y.c.kd = x.c.kd by rw [e9]).symm.trans h2, (show y.c.rc = x.c.rc by rw [e9]).symm.trans h3⟩
theorem row_one {nm : Nm} {N M : List Nd} (hN : RowPn nm N) (hM : RowPn nm M) (hl : N.length = M.length) : cN N = cN M := by
  apply List.ext_getElem?
  intro j
  unfold cN
  rw [List.getElem?_map, List.getElem?_map]
  rcases hn : N[j]? with _ | x
  · rw [List.getElem?_eq_none_iff] at hn
    rw [List.getElem?_eq_none (by omega)]
  · have hj : j < M.length := by have := (List.getElem?_eq_some_iff.1 hn).1; omega
    obtain ⟨a1, a2, a3⟩ := hN j x hn
    obtain ⟨b1, b2, b3⟩ := hM j M[j] (by simp [hj])
    rw [List.getElem?_eq_getElem hj]
    show some x.c = some M[j].c
    unfold Nd.c
    rw [a1, a2, a3, b1, b2, b3]
theorem nwE_n {o t : Nm} (ho : nErr o = 0) (ht : nErr t = 0) (h : ¬ o = t) {vo vf : Value} {N : List Nd} (hN : RowPn o N) (hl : N.length ≤ 60) : nwE [kdN o vo vf] [bdN] (chN o t) N [] = 0 := by
  obtain ⟨h1, h2⟩ := conf_n ho (vo := vo) (vf := vf) hN hl
  unfold nwE
  rw [doE_n ho, if_pos ht, if_neg h, if_pos rfl, if_pos h2, if_pos h1]
theorem grE_n {o t : Nm} (ho : nErr o = 0) (ht : nErr t = 0) (h : ¬ o = t) {vo vf : Value} {N : List Nd} (hN : RowPn o N) (hl : N.length ≤ 60) : grE [kdN o vo vf] [bdN] (chN o t) N [] = 0 := by
  unfold grE
  rw [if_pos (nwE_n ho ht h hN hl)]
  unfold aoE
  rw [if_pos (allX_7 o t _ N), kds_n, cK_n, cB_n]
  have := (conf_n ht (vo := vo) (vf := vf) (row_ndT h hN) (by rw [List.length_map]; exact hl)).1
  rw [show ([] : List Te).filter (keepB (drp (chN o t))) = [] from rfl, if_pos this]
theorem grE_bad {o t : Nm} (ho : nErr o = 0) (hb : ¬ nErr t = 0 ∨ (nErr t = 0 ∧ o = t)) {vo vf : Value} {N : List Nd} : grE [kdN o vo vf] [bdN] (chN o t) N [] = if nErr t = 0 then 7 else 2 := by
  have hd : doE [kdN o vo vf] [bdN] (chN o t) = if nErr t = 0 then 7 else 2 := by
    rw [doE_n ho]
    rcases hb with hb | ⟨hb, hb2⟩
    · rw [if_neg hb, if_neg hb, nErr_two hb]
    · rw [if_pos hb, if_pos hb, if_pos hb2]
  have hn : ¬ doE [kdN o vo vf] [bdN] (chN o t) = 0 := by
    rw [hd]; split <;> decide
  unfold grE nwE
  rw [if_neg hn, if_neg hn, hd]
theorem kq_n {M : List Kd} {nm : Nm} {vo vf : Value} (h : M.map kq3 = [kdN nm vo vf].map kq3) : ∃ v1 v2, M = [kdN nm v1 v2] := by
  cases M with
  | nil => cases h
  | cons x r =>
    cases r with
    | cons y s => simp at h
    | nil =>
      obtain ⟨a, b, c, d, e⟩ := x
      simp only [List.map_cons, List.map_nil, List.cons.injEq, and_true] at h
      unfold kq3 kdN at h
      simp only [Prod.mk.injEq] at h
      obtain ⟨rfl, rfl, rfl⟩ := h
      exact ⟨d, e, rfl⟩
end Go.Proofs.YtpmblbhemcippaaGreatDoor
