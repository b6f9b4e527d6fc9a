/-
  New, where there is a turn.
-/
import Derived.Test.YtpmblbhemcippaaGreatDoorM45
import Derived.Deep.RegionHeld
namespace Go.Proofs.YtpmblbhemcippaaGreatDoor
open Go.RowKit
set_option linter.unusedVariables false
set_option linter.unusedSimpArgs false
set_option maxHeartbeats 16000000 in
set_option maxRecDepth 100000 in
theorem new_fun {w : World} {vk vb : Value} {L : List Kd} {B : List Bd} (c : Ch) (hK : IsK w vk L) (hP : Parts w L) (hz : SzK L) (hb : IsB w vb B) (hzb : SzB B) (hc : ChIs w c) (hcz : ChSz c) {gn gt : Value} {N : List Nd} {T : List Te} (hN : IsN w gn N) (hT : IsT w gt T) (zN : SzN N) (zT : SzT T) (lN : N.length ≤ maxLen) (lT : T.length ≤ maxLen) (h0 : doE L B c = 0) (hw : c.wh = 3 ∨ c.wh = 4 ∨ c.wh = 7) :
    Calls Tryz.prog 13 #[.agg #[vk, vb], c.one, .agg #[gn, gt]] w (NwP w L B c N T) := by
  have h1_w : ∀ W, Below w.heap.size w W → Calls Tryz.prog 21 #[.agg #[vk, vb], c.one] W fun e w' => ∃ u1 u2 u3 b1 b2 b3 k1 k2 k3 J cs M, e = .returned (.tuple #[.agg #[.slice u1 u2 u3, .slice b1 b2 b3, .slice k1 k2 k3, .func (.func J) #[] cs, .string (drp c)], .nilIface]) ∧ M.map kq3 = (cK L c).map kq3 ∧ OwnKs w' W.heap.size (.slice u1 u2 u3) M ∧ OwnBs w' W.heap.size (.slice b1 b2 b3) (cB B c) ∧ IsS w' (.slice k1 k2 k3) (kdsA L c) ∧ Turns w' c (.func (.func J) #[] cs) ∧ Below W.heap.size W w' := fun W h => by
    refine (wayOf_ok c (hK.on h) (hP.on h) hz (hb.on h) hzb (hc.on h) hcz h0).mono ?_
    rintro e w' ⟨uk, ub, ks, fn, M, he, hM, hO, hOb, hS, hT1, hB⟩
    obtain ⟨x1, x3, rfl⟩ := own_slice hO.1
    obtain ⟨x4, x6, rfl⟩ := own_slice hOb
    obtain ⟨x7, x9, rfl⟩ := own_slice hS
    have hT2 := hT1
    rcases hT1 with ⟨_, p, q, e1, _⟩ | ⟨_, p, e1, _⟩ | ⟨_, p, q, e1, _⟩ | ⟨x, y, z, _⟩
    · subst e1; exact ⟨_, _, _, _, _, _, _, _, _, _, _, M, he, hM, hO, hOb, own_isS hS, hT2, hB⟩
    · subst e1; exact ⟨_, _, _, _, _, _, _, _, _, _, _, M, he, hM, hO, hOb, own_isS hS, hT2, hB⟩
    · subst e1; exact ⟨_, _, _, _, _, _, _, _, _, _, _, M, he, hM, hO, hOb, own_isS hS, hT2, hB⟩
    · exact absurd hw (by omega)
  have hcn : ∀ W, Below w.heap.size w W → Calls Tryz.prog 22 #[.agg #[vk, vb], .agg #[gn, gt]] W fun e w' => e = .returned (.tuple #[.bool (confB L B N T), errV (inE L B N T)]) ∧ Below W.heap.size W w' := fun W h =>
    conforms_any ⟨_, _, rfl, hK.on h, hP.on h, hz, hb.on h, hzb⟩ ⟨_, _, rfl, hN.on h, hT.on h, zN, zT, lN, lT⟩
  have hcp : confB L B N T = true → ∀ W, Below w.heap.size w W → Calls Tryz.prog 23 #[.agg #[gn, gt]] W fun e w' => ∃ p1 l1 q1 p2 l2 q2 X, e = .returned (.agg #[.slice p1 l1 q1, .slice p2 l2 q2]) ∧ (cN X = cN N ∧ X.length ≤ 1000) ∧ OwnNs w' W.heap.size (.slice p1 l1 q1) X ∧ OwnTs w' W.heap.size (.slice p2 l2 q2) T ∧ Below W.heap.size W w' := fun hcf W h => by
    have hg := (conf_parts hcf).2.2
    have hl := gErr_parts hg
    refine (copied_any (hN.on h) (hT.on h) hl.1 hl.2.1 (fun n hn => by have := rErr_len (gErr_recs hg n hn); omega)).mono ?_
    rintro e w' ⟨un, ut, X, he, hX, hO, hOt, hB⟩
    obtain ⟨x1, x3, rfl⟩ := own_slice hO.1
    obtain ⟨x4, x6, rfl⟩ := own_slice hOt
    have hlx : X.length = N.length := by have := congrArg List.length hX; simpa [cN] using this
    exact ⟨_, _, _, _, _, _, X, he, ⟨hX, by omega⟩, hO, hOt, hB⟩
  obtain ⟨wh, nm, ⟨kn, ko, kf, vo, vf⟩, ⟨bn, bf, bt, mn, mx⟩, ⟨fnm, ft, fm, fk⟩, wt, wn, ws, tn⟩ := c
  obtain ⟨a1, c1, rfl, _⟩ := hK.sln
  obtain ⟨a2, c2, rfl, _⟩ := hb.sln
  obtain ⟨a3, c3, rfl, _⟩ := id hN
  obtain ⟨a4, c4, rfl, _⟩ := id hT
  obtain ⟨ao, lo1, co, q1⟩ := hc.1.sl
  obtain ⟨af, lf1, cf, q2⟩ := hc.2.sl
  simp only at q1 q2
  subst q1 q2
  obtain ⟨c0, hc0⟩ : ∃ c0 : Ch, c0 = ⟨wh, nm, ⟨kn, ko, kf, .slice ao lo1 co, .slice af lf1 cf⟩, ⟨bn, bf, bt, mn, mx⟩, ⟨fnm, ft, fm, fk⟩, wt, wn, ws, tn⟩ := ⟨_, rfl⟩
  have h18 : c0.one = .agg #[.int .i64 wh, .string (bs nm), .string (bs kn), .slice ao lo1 co, .slice af lf1 cf, .string (bs bn), .string (bs bf), .string (bs bt), .int .i64 mn, .int .i64 mx, .string (bs fnm), .int .i64 ft, .bool fm, .bool fk, .int .i64 wt, .int .i64 wn, .string (bs ws), .string (bs tn)] := by rw [hc0]
  rw [← hc0] at h0 h1_w ⊢
  rw [h18] at h1_w ⊢
  have hlk := kdsA_le L c0
  have HNW : Hid ((inE L B N T = 0 → confB L B N T = true → nwE L B c0 N T = 0) ∧ (inE L B N T = 0 → ¬ confB L B N T = true → nwE L B c0 N T = 6) ∧ (¬ inE L B N T = 0 → nwE L B c0 N T = inE L B N T)) := by
    refine ⟨fun h1 h2 => ?_, fun h1 h2 => ?_, fun h1 => ?_⟩
    · unfold nwE; rw [if_pos h0, if_pos h1, if_pos h2]
    · unfold nwE; rw [if_pos h0, if_pos h1, if_neg h2]
    · unfold nwE; rw [if_pos h0, if_neg h1]
  clear hK hP hz hb hzb hc hcz hN hT zN zT lN lT h0 hw hc0 h18 hlk
  obtain ⟨W0, hW0⟩ : ∃ W0, W0 = ((w.alloc (.cells #[.slice a1 L.length c1, .slice a2 B.length c2] 46)).alloc (.cells #[.int .i64 wh, .string (bs nm), .string (bs kn), .slice ao lo1 co, .slice af lf1 cf, .string (bs bn), .string (bs bf), .string (bs bt), .int .i64 mn, .int .i64 mx, .string (bs fnm), .int .i64 ft, .bool fm, .bool fk, .int .i64 wt, .int .i64 wn, .string (bs ws), .string (bs tn)] 38)).alloc (.cells #[.slice a3 N.length c3, .slice a4 T.length c4] 25) := ⟨_, rfl⟩
  have bx0 : Bx3 w (.slice a1 L.length c1) (.slice a2 B.length c2) (.slice a3 N.length c3) (.slice a4 T.length c4) #[.int .i64 wh, .string (bs nm), .string (bs kn), .slice ao lo1 co, .slice af lf1 cf, .string (bs bn), .string (bs bf), .string (bs bt), .int .i64 mn, .int .i64 mx, .string (bs fnm), .int .i64 ft, .bool fm, .bool fk, .int .i64 wt, .int .i64 wn, .string (bs ws), .string (bs tn)] W0 := by rw [hW0]; exact Bx3.mk3 _ _ _ _ _ _
  have s0 : W0.cell? ⟨w.heap.size, 0, none⟩ = some (.slice a1 L.length c1) := cell_at bx0.2.1 rfl
  have s1 : W0.cell? ⟨w.heap.size, 1, none⟩ = some (.slice a2 B.length c2) := cell_at bx0.2.1 rfl
  have HN := Lib.hid bx0.2.2.1
  have cW := h1_w W0 bx0.1
  have HB0 := Lib.hid bx0
  have HCn := Lib.hid hcn
  have HCp := Lib.hid hcp
  clear h1_w hcn hcp bx0
  have hst := fun (J : Nat) (cs : Array Value) (a : Addr) (W : World) => run_store Tryz.prog W a (.func (.func J) #[] cs) .plain rfl
  go_enter Tryz.func13, Tryz.ntmps13
  go_upto_region 1 with fail
  rw [← hW0]
  clear hW0
  go_upto_region 2 with (first | (refine wpList_load_row rfl 38 (.tmp 4) rfl (w.heap.size + 1) rfl 38 _ (0, 0) _ HN.out Tryz.underlying38 rfl info37 ?_) | (go_at_call 21; refine cW.mono ?_; rintro e W1 ⟨u1, u2, u3, b1, b2, b3, k1, k2, k3, J, cs, M, rfl, hM, hO, hOb, hS, hTn, hB1⟩) | (refine wpList_store_new rfl 81 (.tmp 8) (.tmp 16) rfl _ _ rfl rfl info71 rfl rfl ?_))
  obtain ⟨W2, hW2⟩ : ∃ W2, W2 = W1.alloc (.cells #[.slice u1 u2 u3, .slice b1 b2 b3, .slice k1 k2 k3, .func (.func J) #[] cs, .string (drp c0)] 81) := ⟨_, rfl⟩
  have hBa : Below W1.heap.size W1 W2 := by rw [hW2]; exact b_alloc (Below.refl _ _) _
  have hq : W2.heap[W1.heap.size]? = some (.cells #[.slice u1 u2 u3, .slice b1 b2 b3, .slice k1 k2 k3, .func (.func J) #[] cs, .string (drp c0)] 81 (0, 0)) := by rw [hW2]; exact heap_alloc_new W1 _
  have bx2 := (HB0.out.on hB1).on hBa
  have HP : Hid (Bx3 w (.slice a1 L.length c1) (.slice a2 B.length c2) (.slice a3 N.length c3) (.slice a4 T.length c4) #[.int .i64 wh, .string (bs nm), .string (bs kn), .slice ao lo1 co, .slice af lf1 cf, .string (bs bn), .string (bs bf), .string (bs bt), .int .i64 mn, .int .i64 mx, .string (bs fnm), .int .i64 ft, .bool fm, .bool fk, .int .i64 wt, .int .i64 wn, .string (bs ws), .string (bs tn)] W2 ∧ W2.heap[W1.heap.size]? = some (.cells #[.slice u1 u2 u3, .slice b1 b2 b3, .slice k1 k2 k3, .func (.func J) #[] cs, .string (drp c0)] 81 (0, 0)) ∧ M.map kq3 = (cK L c0).map kq3 ∧ IsK W2 (.slice u1 u2 u3) M ∧ Parts W2 M ∧ IsB W2 (.slice b1 b2 b3) (cB B c0) ∧ IsS W2 (.slice k1 k2 k3) (kdsA L c0) ∧ Turns W2 c0 (.func (.func J) #[] cs)) := ⟨bx2, hq, hM, hO.isK.on hBa, hO.parts.on hBa, hOb.isB.on hBa, hS.on hBa, hTn.on hBa⟩
  have s0 : W2.cell? ⟨w.heap.size, 0, none⟩ = some (.slice a1 L.length c1) := cell_at bx2.2.1 rfl
  have s1 : W2.cell? ⟨w.heap.size, 1, none⟩ = some (.slice a2 B.length c2) := cell_at bx2.2.1 rfl
  have g0 : W2.cell? ⟨w.heap.size + 2, 0, none⟩ = some (.slice a3 N.length c3) := cell_at bx2.2.2.2 rfl
  have g1 : W2.cell? ⟨w.heap.size + 2, 1, none⟩ = some (.slice a4 T.length c4) := cell_at bx2.2.2.2 rfl
  have cC := HCn.out W2 bx2.1
  rw [← hW2]
  clear hM hO hOb hS hTn hB1 hBa hq bx2 hW2 cW HN HB0 HCn
  generalize W1.heap.size = q at *
  by_cases hie : inE L B N T = 0
  · rw [hie, errV_0] at cC
    by_cases hcf : confB L B N T = true
    · have hnw := HNW.out.1 hie hcf
      rw [hcf] at cC
      have hcp := HCp.out hcf
      clear HCp HNW hie hcf
      go_upto_region 9 with (go_at_call 22; refine cC.mono ?_; rintro e W3 ⟨rfl, hB3⟩)
      have cc := hcp W3.drew (b_drew (on1K HP.out.1.1 hB3 (Nat.le_refl _)))
      have HC : Hid (∀ W4, Below W3.heap.size W3 W4 → ((W4.cell? ⟨q, 0, none⟩ = some (.slice u1 u2 u3) ∧ W4.cell? ⟨q, 1, none⟩ = some (.slice b1 b2 b3) ∧ W4.cell? ⟨q, 2, none⟩ = some (.slice k1 k2 k3) ∧ W4.cell? ⟨q, 3, none⟩ = some (.func (.func J) #[] cs) ∧ W4.cell? ⟨q, 4, none⟩ = some (.string (drp c0))) ∧ W4.cell? ⟨w.heap.size + 2, 0, none⟩ = some (.slice a3 N.length c3) ∧ W4.cell? ⟨w.heap.size + 2, 1, none⟩ = some (.slice a4 T.length c4)) ∧ (W2.heap.size ≤ W4.heap.size ∧ Below W2.heap.size W2 W4)) := fun W4 h4 => by
        have h24 := on1K hB3 h4 (Nat.le_refl _)
        have k1 := (h24.block _ (Array.getElem?_eq_some_iff.1 HP.out.2.1).1).trans HP.out.2.1
        have k2 := (HP.out.1.on h24).2.2.2
        exact ⟨⟨⟨cell_at k1 rfl, cell_at k1 rfl, cell_at k1 rfl, cell_at k1 rfl, cell_at k1 rfl⟩, cell_at k2 rfl, cell_at k2 rfl⟩, h24.size, h24⟩
      obtain ⟨⟨⟨z0, z1, z2, z3, z4⟩, z5, z6⟩, _⟩ := HC.out W3 (Below.refl _ _)
      clear hcp cC hB3 s0 s1 g0 g1
      first | (go_region_held (fun w' => (w'.cell? ⟨q, 0, none⟩ = some (.slice u1 u2 u3) ∧ w'.cell? ⟨q, 1, none⟩ = some (.slice b1 b2 b3) ∧ w'.cell? ⟨q, 2, none⟩ = some (.slice k1 k2 k3) ∧ w'.cell? ⟨q, 3, none⟩ = some (.func (.func J) #[] cs) ∧ w'.cell? ⟨q, 4, none⟩ = some (.string (drp c0))) ∧ w'.cell? ⟨w.heap.size + 2, 0, none⟩ = some (.slice a3 N.length c3) ∧ w'.cell? ⟨w.heap.size + 2, 1, none⟩ = some (.slice a4 T.length c4)) (go_keep) (first | (go_at_call 23; refine cc.mono ?_; rintro e W4 ⟨p1, l1, q1, p2, l2, q2, X, rfl, hX, hO, hOt, hB4'⟩; have hB4 := b_undrew hB4'; obtain ⟨⟨⟨v0, v1, v2, v3, v4⟩, v5, v6⟩, _, h24⟩ := HC.out W4 hB4; have HX := Lib.hid (And.intro hX (And.intro hO (And.intro hOt h24))); clear hX hO hOt hB4 hB4' h24))) | fail
      all_goals
        obtain ⟨W5, hW5⟩ : ∃ W5, W5 = W4.alloc (.cells #[.slice u1 u2 u3, .slice b1 b2 b3, .slice k1 k2 k3, .func (.func J) #[] cs, .string (drp c0), .slice p1 l1 q1, .slice p2 l2 q2, .slice none 0 0, .int .i64 0] 88) := ⟨_, rfl⟩
        rw [← hW5]
        have hq5 : W5.heap[W4.heap.size]? = some (.cells #[.slice u1 u2 u3, .slice b1 b2 b3, .slice k1 k2 k3, .func (.func J) #[] cs, .string (drp c0), .slice p1 l1 q1, .slice p2 l2 q2, .slice none 0 0, .int .i64 0] 88 (0, 0)) := by rw [hW5]; exact heap_alloc_new W4 _
        have hB45 : Below W4.heap.size W4 W5 := by rw [hW5]; exact b_alloc (Below.refl _ _) _
        have cR := restart_any (base := W4.heap.size) hq5 (Nat.le_refl _) hB45.size (HX.out.2.1.isN.on hB45) HX.out.1.2
        have HB45 := Lib.hid hB45
        clear hW5 hq5 hB45 v0 v1 v2 v3 v4 v5 v6 z0 z1 z2 z3 z4 z5 z6 cc HC
        go_wp2_with (go_at_call 24; refine cR.mono ?_; rintro e W6 ⟨u, rfl, r1, r2, r3, _⟩; have HR := Lib.hid (And.intro r1 (And.intro r2 r3)); clear r1 r2 r3)
        go_ret2
        obtain ⟨hX, hO, hOt, h24⟩ := HX.out
        obtain ⟨bx, _, hM, i1, i2, i3, i4, i5⟩ := HP.out
        exact nwP_ok hnw hM hX.1 (on1K bx.1 h24 (Nat.le_refl _)) (mv_new (i1.on h24) (i2.on h24) (i3.on h24) (i4.on h24) (i5.on h24) hO.isN hOt.isT HR.out.1 HR.out.2.1 (HB45.out.trans HR.out.2.2))
    · have hnw := HNW.out.2.1 hie hcf
      rw [Bool.not_eq_true] at hcf
      rw [hcf] at cC
      clear HCp HNW hie hcf
      go_wp2_with (go_at_call 22; refine cC.mono ?_; rintro e W3 ⟨rfl, hB3⟩)
      go_ret2
      exact nwP_bad hnw (by decide) (on1K HP.out.1.1 hB3 (Nat.le_refl _))
  · have hnw := HNW.out.2.2 hie
    rw [errV_ne hie] at cC
    generalize inE L B N T = ie at *
    clear HCp HNW
    go_wp2_with (go_at_call 22; refine cC.mono ?_; rintro e W3 ⟨rfl, hB3⟩)
    go_ret2
    exact nwP_bad hnw hie (on1K HP.out.1.1 hB3 (Nat.le_refl _))
set_option maxHeartbeats 16000000 in
set_option maxRecDepth 100000 in
theorem new_nil {w : World} {vk vb : Value} {L : List Kd} {B : List Bd} (c : Ch) (hK : IsK w vk L) (hP : Parts w L) (hz : SzK L) (hb : IsB w vb B) (hzb : SzB B) (hc : ChIs w c) (hcz : ChSz c) {gn gt : Value} {N : List Nd} {T : List Te} (hN : IsN w gn N) (hT : IsT w gt T) (zN : SzN N) (zT : SzT T) (lN : N.length ≤ maxLen) (lT : T.length ≤ maxLen) (h0 : doE L B c = 0) (hw : ¬ (c.wh = 3 ∨ c.wh = 4 ∨ c.wh = 7)) :
    Calls Tryz.prog 13 #[.agg #[vk, vb], c.one, .agg #[gn, gt]] w (NwP w L B c N T) := by
  have h1_w : ∀ W, Below w.heap.size w W → Calls Tryz.prog 21 #[.agg #[vk, vb], c.one] W fun e w' => ∃ u1 u2 u3 b1 b2 b3 k1 k2 k3 M, e = .returned (.tuple #[.agg #[.slice u1 u2 u3, .slice b1 b2 b3, .slice k1 k2 k3, .nilFunc, .string (drp c)], .nilIface]) ∧ M.map kq3 = (cK L c).map kq3 ∧ OwnKs w' W.heap.size (.slice u1 u2 u3) M ∧ OwnBs w' W.heap.size (.slice b1 b2 b3) (cB B c) ∧ IsS w' (.slice k1 k2 k3) (kdsA L c) ∧ Turns w' c (.nilFunc) ∧ Below W.heap.size W w' := fun W h => by
    refine (wayOf_ok c (hK.on h) (hP.on h) hz (hb.on h) hzb (hc.on h) hcz h0).mono ?_
    rintro e w' ⟨uk, ub, ks, fn, M, he, hM, hO, hOb, hS, hT1, hB⟩
    obtain ⟨x1, x3, rfl⟩ := own_slice hO.1
    obtain ⟨x4, x6, rfl⟩ := own_slice hOb
    obtain ⟨x7, x9, rfl⟩ := own_slice hS
    have hT2 := hT1
    rcases hT1 with ⟨x, _⟩ | ⟨x, _⟩ | ⟨x, _⟩ | ⟨_, _, _, e1⟩
    · exact absurd x (by omega)
    · exact absurd x (by omega)
    · exact absurd x (by omega)
    · subst e1; exact ⟨_, _, _, _, _, _, _, _, _, M, he, hM, hO, hOb, own_isS hS, hT2, hB⟩
  have hcn : ∀ W, Below w.heap.size w W → Calls Tryz.prog 22 #[.agg #[vk, vb], .agg #[gn, gt]] W fun e w' => e = .returned (.tuple #[.bool (confB L B N T), errV (inE L B N T)]) ∧ Below W.heap.size W w' := fun W h =>
    conforms_any ⟨_, _, rfl, hK.on h, hP.on h, hz, hb.on h, hzb⟩ ⟨_, _, rfl, hN.on h, hT.on h, zN, zT, lN, lT⟩
  have hcp : confB L B N T = true → ∀ W, Below w.heap.size w W → Calls Tryz.prog 23 #[.agg #[gn, gt]] W fun e w' => ∃ p1 l1 q1 p2 l2 q2 X, e = .returned (.agg #[.slice p1 l1 q1, .slice p2 l2 q2]) ∧ (cN X = cN N ∧ X.length ≤ 1000) ∧ OwnNs w' W.heap.size (.slice p1 l1 q1) X ∧ OwnTs w' W.heap.size (.slice p2 l2 q2) T ∧ Below W.heap.size W w' := fun hcf W h => by
    have hg := (conf_parts hcf).2.2
    have hl := gErr_parts hg
    refine (copied_any (hN.on h) (hT.on h) hl.1 hl.2.1 (fun n hn => by have := rErr_len (gErr_recs hg n hn); omega)).mono ?_
    rintro e w' ⟨un, ut, X, he, hX, hO, hOt, hB⟩
    obtain ⟨x1, x3, rfl⟩ := own_slice hO.1
    obtain ⟨x4, x6, rfl⟩ := own_slice hOt
    have hlx : X.length = N.length := by have := congrArg List.length hX; simpa [cN] using this
    exact ⟨_, _, _, _, _, _, X, he, ⟨hX, by omega⟩, hO, hOt, hB⟩
  obtain ⟨wh, nm, ⟨kn, ko, kf, vo, vf⟩, ⟨bn, bf, bt, mn, mx⟩, ⟨fnm, ft, fm, fk⟩, wt, wn, ws, tn⟩ := c
  obtain ⟨a1, c1, rfl, _⟩ := hK.sln
  obtain ⟨a2, c2, rfl, _⟩ := hb.sln
  obtain ⟨a3, c3, rfl, _⟩ := id hN
  obtain ⟨a4, c4, rfl, _⟩ := id hT
  obtain ⟨ao, lo1, co, q1⟩ := hc.1.sl
  obtain ⟨af, lf1, cf, q2⟩ := hc.2.sl
  simp only at q1 q2
  subst q1 q2
  obtain ⟨c0, hc0⟩ : ∃ c0 : Ch, c0 = ⟨wh, nm, ⟨kn, ko, kf, .slice ao lo1 co, .slice af lf1 cf⟩, ⟨bn, bf, bt, mn, mx⟩, ⟨fnm, ft, fm, fk⟩, wt, wn, ws, tn⟩ := ⟨_, rfl⟩
  have h18 : c0.one = .agg #[.int .i64 wh, .string (bs nm), .string (bs kn), .slice ao lo1 co, .slice af lf1 cf, .string (bs bn), .string (bs bf), .string (bs bt), .int .i64 mn, .int .i64 mx, .string (bs fnm), .int .i64 ft, .bool fm, .bool fk, .int .i64 wt, .int .i64 wn, .string (bs ws), .string (bs tn)] := by rw [hc0]
  rw [← hc0] at h0 h1_w ⊢
  rw [h18] at h1_w ⊢
  have hlk := kdsA_le L c0
  have HNW : Hid ((inE L B N T = 0 → confB L B N T = true → nwE L B c0 N T = 0) ∧ (inE L B N T = 0 → ¬ confB L B N T = true → nwE L B c0 N T = 6) ∧ (¬ inE L B N T = 0 → nwE L B c0 N T = inE L B N T)) := by
    refine ⟨fun h1 h2 => ?_, fun h1 h2 => ?_, fun h1 => ?_⟩
    · unfold nwE; rw [if_pos h0, if_pos h1, if_pos h2]
    · unfold nwE; rw [if_pos h0, if_pos h1, if_neg h2]
    · unfold nwE; rw [if_pos h0, if_neg h1]
  clear hK hP hz hb hzb hc hcz hN hT zN zT lN lT h0 hw hc0 h18 hlk
  obtain ⟨W0, hW0⟩ : ∃ W0, W0 = ((w.alloc (.cells #[.slice a1 L.length c1, .slice a2 B.length c2] 46)).alloc (.cells #[.int .i64 wh, .string (bs nm), .string (bs kn), .slice ao lo1 co, .slice af lf1 cf, .string (bs bn), .string (bs bf), .string (bs bt), .int .i64 mn, .int .i64 mx, .string (bs fnm), .int .i64 ft, .bool fm, .bool fk, .int .i64 wt, .int .i64 wn, .string (bs ws), .string (bs tn)] 38)).alloc (.cells #[.slice a3 N.length c3, .slice a4 T.length c4] 25) := ⟨_, rfl⟩
  have bx0 : Bx3 w (.slice a1 L.length c1) (.slice a2 B.length c2) (.slice a3 N.length c3) (.slice a4 T.length c4) #[.int .i64 wh, .string (bs nm), .string (bs kn), .slice ao lo1 co, .slice af lf1 cf, .string (bs bn), .string (bs bf), .string (bs bt), .int .i64 mn, .int .i64 mx, .string (bs fnm), .int .i64 ft, .bool fm, .bool fk, .int .i64 wt, .int .i64 wn, .string (bs ws), .string (bs tn)] W0 := by rw [hW0]; exact Bx3.mk3 _ _ _ _ _ _
  have s0 : W0.cell? ⟨w.heap.size, 0, none⟩ = some (.slice a1 L.length c1) := cell_at bx0.2.1 rfl
  have s1 : W0.cell? ⟨w.heap.size, 1, none⟩ = some (.slice a2 B.length c2) := cell_at bx0.2.1 rfl
  have HN := Lib.hid bx0.2.2.1
  have cW := h1_w W0 bx0.1
  have HB0 := Lib.hid bx0
  have HCn := Lib.hid hcn
  have HCp := Lib.hid hcp
  clear h1_w hcn hcp bx0
  have hst := fun (a : Addr) (W : World) => run_store Tryz.prog W a .nilFunc .plain rfl
  go_enter Tryz.func13, Tryz.ntmps13
  go_upto_region 1 with fail
  rw [← hW0]
  clear hW0
  go_upto_region 2 with (first | (refine wpList_load_row rfl 38 (.tmp 4) rfl (w.heap.size + 1) rfl 38 _ (0, 0) _ HN.out Tryz.underlying38 rfl info37 ?_) | (go_at_call 21; refine cW.mono ?_; rintro e W1 ⟨u1, u2, u3, b1, b2, b3, k1, k2, k3, M, rfl, hM, hO, hOb, hS, hTn, hB1⟩) | (refine wpList_store_new rfl 81 (.tmp 8) (.tmp 16) rfl _ _ rfl rfl info71 rfl rfl ?_))
  obtain ⟨W2, hW2⟩ : ∃ W2, W2 = W1.alloc (.cells #[.slice u1 u2 u3, .slice b1 b2 b3, .slice k1 k2 k3, .nilFunc, .string (drp c0)] 81) := ⟨_, rfl⟩
  have hBa : Below W1.heap.size W1 W2 := by rw [hW2]; exact b_alloc (Below.refl _ _) _
  have hq : W2.heap[W1.heap.size]? = some (.cells #[.slice u1 u2 u3, .slice b1 b2 b3, .slice k1 k2 k3, .nilFunc, .string (drp c0)] 81 (0, 0)) := by rw [hW2]; exact heap_alloc_new W1 _
  have bx2 := (HB0.out.on hB1).on hBa
  have HP : Hid (Bx3 w (.slice a1 L.length c1) (.slice a2 B.length c2) (.slice a3 N.length c3) (.slice a4 T.length c4) #[.int .i64 wh, .string (bs nm), .string (bs kn), .slice ao lo1 co, .slice af lf1 cf, .string (bs bn), .string (bs bf), .string (bs bt), .int .i64 mn, .int .i64 mx, .string (bs fnm), .int .i64 ft, .bool fm, .bool fk, .int .i64 wt, .int .i64 wn, .string (bs ws), .string (bs tn)] W2 ∧ W2.heap[W1.heap.size]? = some (.cells #[.slice u1 u2 u3, .slice b1 b2 b3, .slice k1 k2 k3, .nilFunc, .string (drp c0)] 81 (0, 0)) ∧ M.map kq3 = (cK L c0).map kq3 ∧ IsK W2 (.slice u1 u2 u3) M ∧ Parts W2 M ∧ IsB W2 (.slice b1 b2 b3) (cB B c0) ∧ IsS W2 (.slice k1 k2 k3) (kdsA L c0) ∧ Turns W2 c0 (.nilFunc)) := ⟨bx2, hq, hM, hO.isK.on hBa, hO.parts.on hBa, hOb.isB.on hBa, hS.on hBa, hTn.on hBa⟩
  have s0 : W2.cell? ⟨w.heap.size, 0, none⟩ = some (.slice a1 L.length c1) := cell_at bx2.2.1 rfl
  have s1 : W2.cell? ⟨w.heap.size, 1, none⟩ = some (.slice a2 B.length c2) := cell_at bx2.2.1 rfl
  have g0 : W2.cell? ⟨w.heap.size + 2, 0, none⟩ = some (.slice a3 N.length c3) := cell_at bx2.2.2.2 rfl
  have g1 : W2.cell? ⟨w.heap.size + 2, 1, none⟩ = some (.slice a4 T.length c4) := cell_at bx2.2.2.2 rfl
  have cC := HCn.out W2 bx2.1
  rw [← hW2]
  clear hM hO hOb hS hTn hB1 hBa hq bx2 hW2 cW HN HB0 HCn
  generalize W1.heap.size = q at *
  by_cases hie : inE L B N T = 0
  · rw [hie, errV_0] at cC
    by_cases hcf : confB L B N T = true
    · have hnw := HNW.out.1 hie hcf
      rw [hcf] at cC
      have hcp := HCp.out hcf
      clear HCp HNW hie hcf
      go_upto_region 9 with (go_at_call 22; refine cC.mono ?_; rintro e W3 ⟨rfl, hB3⟩)
      have cc := hcp W3.drew (b_drew (on1K HP.out.1.1 hB3 (Nat.le_refl _)))
      have HC : Hid (∀ W4, Below W3.heap.size W3 W4 → ((W4.cell? ⟨q, 0, none⟩ = some (.slice u1 u2 u3) ∧ W4.cell? ⟨q, 1, none⟩ = some (.slice b1 b2 b3) ∧ W4.cell? ⟨q, 2, none⟩ = some (.slice k1 k2 k3) ∧ W4.cell? ⟨q, 3, none⟩ = some (.nilFunc) ∧ W4.cell? ⟨q, 4, none⟩ = some (.string (drp c0))) ∧ W4.cell? ⟨w.heap.size + 2, 0, none⟩ = some (.slice a3 N.length c3) ∧ W4.cell? ⟨w.heap.size + 2, 1, none⟩ = some (.slice a4 T.length c4)) ∧ (W2.heap.size ≤ W4.heap.size ∧ Below W2.heap.size W2 W4)) := fun W4 h4 => by
        have h24 := on1K hB3 h4 (Nat.le_refl _)
        have k1 := (h24.block _ (Array.getElem?_eq_some_iff.1 HP.out.2.1).1).trans HP.out.2.1
        have k2 := (HP.out.1.on h24).2.2.2
        exact ⟨⟨⟨cell_at k1 rfl, cell_at k1 rfl, cell_at k1 rfl, cell_at k1 rfl, cell_at k1 rfl⟩, cell_at k2 rfl, cell_at k2 rfl⟩, h24.size, h24⟩
      obtain ⟨⟨⟨z0, z1, z2, z3, z4⟩, z5, z6⟩, _⟩ := HC.out W3 (Below.refl _ _)
      clear hcp cC hB3 s0 s1 g0 g1
      first | (go_region_held (fun w' => (w'.cell? ⟨q, 0, none⟩ = some (.slice u1 u2 u3) ∧ w'.cell? ⟨q, 1, none⟩ = some (.slice b1 b2 b3) ∧ w'.cell? ⟨q, 2, none⟩ = some (.slice k1 k2 k3) ∧ w'.cell? ⟨q, 3, none⟩ = some (.nilFunc) ∧ w'.cell? ⟨q, 4, none⟩ = some (.string (drp c0))) ∧ w'.cell? ⟨w.heap.size + 2, 0, none⟩ = some (.slice a3 N.length c3) ∧ w'.cell? ⟨w.heap.size + 2, 1, none⟩ = some (.slice a4 T.length c4)) (go_keep) (first | (go_at_call 23; refine cc.mono ?_; rintro e W4 ⟨p1, l1, q1, p2, l2, q2, X, rfl, hX, hO, hOt, hB4'⟩; have hB4 := b_undrew hB4'; obtain ⟨⟨⟨v0, v1, v2, v3, v4⟩, v5, v6⟩, _, h24⟩ := HC.out W4 hB4; have HX := Lib.hid (And.intro hX (And.intro hO (And.intro hOt h24))); clear hX hO hOt hB4 hB4' h24))) | fail
      all_goals
        obtain ⟨W5, hW5⟩ : ∃ W5, W5 = W4.alloc (.cells #[.slice u1 u2 u3, .slice b1 b2 b3, .slice k1 k2 k3, .nilFunc, .string (drp c0), .slice p1 l1 q1, .slice p2 l2 q2, .slice none 0 0, .int .i64 0] 88) := ⟨_, rfl⟩
        rw [← hW5]
        have hq5 : W5.heap[W4.heap.size]? = some (.cells #[.slice u1 u2 u3, .slice b1 b2 b3, .slice k1 k2 k3, .nilFunc, .string (drp c0), .slice p1 l1 q1, .slice p2 l2 q2, .slice none 0 0, .int .i64 0] 88 (0, 0)) := by rw [hW5]; exact heap_alloc_new W4 _
        have hB45 : Below W4.heap.size W4 W5 := by rw [hW5]; exact b_alloc (Below.refl _ _) _
        have cR := restart_any (base := W4.heap.size) hq5 (Nat.le_refl _) hB45.size (HX.out.2.1.isN.on hB45) HX.out.1.2
        have HB45 := Lib.hid hB45
        clear hW5 hq5 hB45 v0 v1 v2 v3 v4 v5 v6 z0 z1 z2 z3 z4 z5 z6 cc HC
        go_wp2_with (go_at_call 24; refine cR.mono ?_; rintro e W6 ⟨u, rfl, r1, r2, r3, _⟩; have HR := Lib.hid (And.intro r1 (And.intro r2 r3)); clear r1 r2 r3)
        go_ret2
        obtain ⟨hX, hO, hOt, h24⟩ := HX.out
        obtain ⟨bx, _, hM, i1, i2, i3, i4, i5⟩ := HP.out
        exact nwP_ok hnw hM hX.1 (on1K bx.1 h24 (Nat.le_refl _)) (mv_new (i1.on h24) (i2.on h24) (i3.on h24) (i4.on h24) (i5.on h24) hO.isN hOt.isT HR.out.1 HR.out.2.1 (HB45.out.trans HR.out.2.2))
    · have hnw := HNW.out.2.1 hie hcf
      rw [Bool.not_eq_true] at hcf
      rw [hcf] at cC
      clear HCp HNW hie hcf
      go_wp2_with (go_at_call 22; refine cC.mono ?_; rintro e W3 ⟨rfl, hB3⟩)
      go_ret2
      exact nwP_bad hnw (by decide) (on1K HP.out.1.1 hB3 (Nat.le_refl _))
  · have hnw := HNW.out.2.2 hie
    rw [errV_ne hie] at cC
    generalize inE L B N T = ie at *
    clear HCp HNW
    go_wp2_with (go_at_call 22; refine cC.mono ?_; rintro e W3 ⟨rfl, hB3⟩)
    go_ret2
    exact nwP_bad hnw hie (on1K HP.out.1.1 hB3 (Nat.le_refl _))
end Go.Proofs.YtpmblbhemcippaaGreatDoor
