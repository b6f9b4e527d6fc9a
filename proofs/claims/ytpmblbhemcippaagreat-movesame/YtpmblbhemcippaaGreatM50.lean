/-
  The walk of the law MoveSame.
-/
import Derived.Test.YtpmblbhemcippaaGreatM49
import Derived.Deep.CutBlock
import Derived.Deep.DeepCutAuto
namespace Go.Proofs.YtpmblbhemcippaaGreat
open Go.RowKit
set_option linter.unusedVariables false
set_option linter.unusedSimpArgs false

theorem fcM_box (W : World) : (fcM W).heap[W.heap.size + 1]? = some (.cells #[.slice (some ⟨W.heap.size, 0, none⟩) 1 1, .slice none 0 0] 25 (0, 0)) ∧ (fcM W).heap[W.heap.size + 1 + 1 + 1]? = some (.cells #[.slice (some ⟨W.heap.size + 1 + 1, 0, none⟩) 1 1, .slice none 0 0] 41 (0, 0)) ∧ (fcM W).heap[W.heap.size + 1 + 1 + 1 + 1]? = some (.cells chFc 37 (0, 0)) := by
  refine ⟨?_, ?_, ?_⟩
  · have h := heap_alloc_new (W.alloc (.cells #[.string ⟨#[97]⟩, .slice none 0 0, .slice none 0 0] 29)) (.cells #[.slice (some ⟨W.heap.size, 0, none⟩) 1 1, .slice none 0 0] 25)
    rw [World.size_alloc] at h
    exact (heap_alloc_old _ _ (by simp)).trans ((heap_alloc_old _ _ (by simp)).trans ((heap_alloc_old _ _ (by simp)).trans h))
  · have h := heap_alloc_new (((W.alloc (.cells #[.string ⟨#[97]⟩, .slice none 0 0, .slice none 0 0] 29)).alloc (.cells #[.slice (some ⟨W.heap.size, 0, none⟩) 1 1, .slice none 0 0] 25)).alloc (.cells #[.int .i64 3, .string ⟨#[97]⟩, .slice none 0 0] 46)) (.cells #[.slice (some ⟨W.heap.size + 1 + 1, 0, none⟩) 1 1, .slice none 0 0] 41)
    rw [World.size_alloc, World.size_alloc, World.size_alloc] at h
    exact (heap_alloc_old _ _ (by simp)).trans h
  · have h := heap_alloc_new ((((W.alloc (.cells #[.string ⟨#[97]⟩, .slice none 0 0, .slice none 0 0] 29)).alloc (.cells #[.slice (some ⟨W.heap.size, 0, none⟩) 1 1, .slice none 0 0] 25)).alloc (.cells #[.int .i64 3, .string ⟨#[97]⟩, .slice none 0 0] 46)).alloc (.cells #[.slice (some ⟨W.heap.size + 1 + 1, 0, none⟩) 1 1, .slice none 0 0] 41)) (.cells chFc 37)
    rw [World.size_alloc, World.size_alloc, World.size_alloc, World.size_alloc] at h
    exact h
theorem end_facts {c : Ch} {K : List Nm} {L R : List Kd} {B : List Bd} {X Y : List Nd} {T : List Te} (ho : MvOk c K L B X T) (hcf : confB L B (X.map (ndT c K)) (T.filter (keepB (drp c))) = true) (hY : cN Y = X.map (ndT c K)) (hR : R.map kq3 = L.map kq3) :
    (confB R B Y (T.filter (keepB (drp c))) = true ∧ inE R B Y (T.filter (keepB (drp c))) = 0) ∧ (SzK R ∧ SzB B ∧ SzN Y ∧ SzT (T.filter (keepB (drp c)))) ∧ (Y.length ≤ 60 ∧ (T.filter (keepB (drp c))).length ≤ 120 ∧ ∀ n ∈ Y, n.rc.length ≤ 1000) ∧ R.length ≤ 1000 ∧ B.length ≤ 1000 ∧ ∀ k ∈ R, k.of.length ≤ 1000 ∧ k.fs.length ≤ 1000 := by
  have hYc : cN Y = cN (X.map (ndT c K)) := by rw [hY, cN_ndT]
  have h1 : confB R B Y (T.filter (keepB (drp c))) = true := by rw [confB_kq hR, confB_cc hYc]; exact hcf
  have hs : (sErr R B).2 = 0 := by rw [sErr_kq hR]; exact ho.hE
  obtain ⟨hG, h12, hb12⟩ := good_of hs
  have hl : Y.length = X.length := by have := congrArg List.length hY; simpa [cN] using this
  have hx := ho.hl
  have ht := ho.ht
  refine ⟨⟨h1, (conf_parts h1).1⟩, ⟨hG.sz, ((sErr_good.1 hs).2.1).sz, szN_c hYc ho.szNT, fun x hx => ho.zT x (List.mem_filter.1 hx).1⟩, ⟨by omega, Nat.le_trans (List.length_filter_le _ _) ht, fun n hn => ?_⟩, by omega, by omega, fun k hk => by have := hG.small k hk; omega⟩
  obtain ⟨m, hm, _, e⟩ := cN_mem hYc n hn
  obtain ⟨x, hx', rfl⟩ := List.mem_map.1 hm
  have e2 : n.rc = ndY c K x := e.symm
  have := ndY_len c K x
  have := rErr_len (ho.hr x hx')
  rw [e2]
  omega
set_option maxHeartbeats 32000000 in
set_option maxRecDepth 100000 in
theorem ms_any {w : World} {vk vb : Value} {L : List Kd} {B : List Bd} (c : Ch) (hK : IsK w vk L) (hP : Parts w L) (hz : SzK L) (hb : IsB w vb B) (hzb : SzB B) (hc : ChIs w c) (hcz : ChSz c) {gn gt : Value} {N : List Nd} {T : List Te} (hN : IsN w gn N) (hT : IsT w gt T) (zN : SzN N) (zT : SzT T) (lN : N.length ≤ maxLen) (lT : T.length ≤ maxLen) {vz : Value} {Z : List Int} (hZ : IsZ w vz Z) :
    Calls Tryz.prog 3 #[.agg #[vk, vb], c.one, .agg #[gn, gt], vz] w fun e w' => e = .returned (.bool true) ∧ Below w.heap.size w w' := by
  have h1_n : ¬ nwE L B c N T = 0 → ∀ W, Below w.heap.size w W → Calls Tryz.prog 5 #[.agg #[vk, vb], c.one, .agg #[gn, gt]] W fun e w' => e = .returned (.tuple #[.pointer none, .iface 74 (.int .i64 (nwE L B c N T))]) ∧ Below W.heap.size W w' := fun h0 W h => by
    refine (new_any c (hK.on h) (hP.on h) hz (hb.on h) hzb (hc.on h) hcz (hN.on h) (hT.on h) zN zT lN lT).mono ?_
    rintro e w' ⟨_, hy, hB⟩
    rw [← errV_ne h0]
    exact ⟨hy h0, hB⟩
  have h1_g : nwE L B c N T = 0 → ∀ W, Below w.heap.size w W → Calls Tryz.prog 5 #[.agg #[vk, vb], c.one, .agg #[gn, gt]] W fun e w' => ∃ p, e = .returned (.tuple #[.pointer (some ⟨p, 0, none⟩), .nilIface]) ∧ ∃ w1 Lm X, Lm.map kq3 = (cK L c).map kq3 ∧ cN X = cN N ∧ Below W.heap.size W w1 ∧ MvOk c (kdsA L c) Lm (cB B c) X T ∧ MvJ w1 w' p c (kdsA L c) Lm (cB B c) X T 0 := fun h0 W h =>
    new_go c (hK.on h) (hP.on h) hz (hb.on h) hzb (hc.on h) hcz (hN.on h) (hT.on h) zN zT lN lT h0
  have h1_r : ∀ W, Below w.heap.size w W → Calls Tryz.prog 4 #[.agg #[vk, vb], c.one, .agg #[gn, gt]] W (GrP W L B c N T) := fun W h =>
    graph_any c (hK.on h) (hP.on h) hz (hb.on h) hzb (hc.on h) hcz (hN.on h) (hT.on h) zN zT lN lT
  have h1_d : doE L B c = 0 → ∀ W, Below w.heap.size w W → Calls Tryz.prog 9 #[.agg #[vk, vb], c.one] W fun e w' => ∃ a1 l1 c1 a2 l2 c2 M, e = .returned (.tuple #[.agg #[.slice a1 l1 c1, .slice a2 l2 c2], .nilIface]) ∧ M.map kq3 = (cK L c).map kq3 ∧ OwnKs w' W.heap.size (.slice a1 l1 c1) M ∧ OwnBs w' W.heap.size (.slice a2 l2 c2) (cB B c) ∧ Below W.heap.size W w' := fun h0 W h =>
    do_yes c (hK.on h) (hP.on h) hz (hb.on h) hzb (hc.on h) hcz h0
  have HZ : Hid (Z = [] ∨ ∃ b off, (∃ ao cp, vz = .slice ao Z.length cp ∧ ao = some ⟨b, off, none⟩) ∧ ∀ W, Below w.heap.size w W → ∀ k z, Z[k]? = some z → W.cell? ⟨b, off + k, none⟩ = some (.int .i64 z)) := by
    obtain ⟨ao, cp, e, _, h | ⟨b, off, e2, hb2, h⟩⟩ := id hZ
    · exact .inl h
    · exact .inr ⟨b, off, ⟨ao, cp, e, e2⟩, fun W hB k z hk => (hB.cell (p := ⟨b, off + k, none⟩) hb2).trans (h k z hk)⟩
  obtain ⟨az, cz, rfl, _, _⟩ := hZ
  obtain ⟨wh, nm, ⟨kn, ko, kf, vo, vf⟩, ⟨bn, bf, bt, mn, mx⟩, ⟨fnm, ft, fm, fk⟩, wt, wn, ws, tn⟩ := c
  obtain ⟨a1, c1, rfl, _⟩ := hK.sln
  obtain ⟨a2, c2, rfl, _⟩ := hb.sln
  obtain ⟨a3, c3, rfl, _⟩ := id hN
  obtain ⟨a4, c4, rfl, _⟩ := id hT
  obtain ⟨ao, lo1, co, q1⟩ := hc.1.sl
  obtain ⟨af, lf1, cf, q2⟩ := hc.2.sl
  simp only at q1 q2
  subst q1 q2
  obtain ⟨c0, hc0⟩ : ∃ c0 : Ch, c0 = ⟨wh, nm, ⟨kn, ko, kf, .slice ao lo1 co, .slice af lf1 cf⟩, ⟨bn, bf, bt, mn, mx⟩, ⟨fnm, ft, fm, fk⟩, wt, wn, ws, tn⟩ := ⟨_, rfl⟩
  have h18 : c0.one = .agg #[.int .i64 wh, .string (bs nm), .string (bs kn), .slice ao lo1 co, .slice af lf1 cf, .string (bs bn), .string (bs bf), .string (bs bt), .int .i64 mn, .int .i64 mx, .string (bs fnm), .int .i64 ft, .bool fm, .bool fk, .int .i64 wt, .int .i64 wn, .string (bs ws), .string (bs tn)] := by rw [hc0]
  rw [← hc0] at h1_n h1_g h1_r h1_d ⊢
  rw [h18] at h1_n h1_g h1_r h1_d ⊢
  clear hK hP hz hb hzb hc hcz hN hT zN zT lN lT
  obtain ⟨W0, hW0⟩ : ∃ W0, W0 = ((w.alloc (.cells #[.slice a1 L.length c1, .slice a2 B.length c2] 25)).alloc (.cells #[.int .i64 wh, .string (bs nm), .string (bs kn), .slice ao lo1 co, .slice af lf1 cf, .string (bs bn), .string (bs bf), .string (bs bt), .int .i64 mn, .int .i64 mx, .string (bs fnm), .int .i64 ft, .bool fm, .bool fk, .int .i64 wt, .int .i64 wn, .string (bs ws), .string (bs tn)] 37)).alloc (.cells #[.slice a3 N.length c3, .slice a4 T.length c4] 41) := ⟨_, rfl⟩
  have bx : Bx3 w (.slice a1 L.length c1) (.slice a2 B.length c2) (.slice a3 N.length c3) (.slice a4 T.length c4) #[.int .i64 wh, .string (bs nm), .string (bs kn), .slice ao lo1 co, .slice af lf1 cf, .string (bs bn), .string (bs bf), .string (bs bt), .int .i64 mn, .int .i64 mx, .string (bs fnm), .int .i64 ft, .bool fm, .bool fk, .int .i64 wt, .int .i64 wn, .string (bs ws), .string (bs tn)] W0 := by rw [hW0]; exact Bx3.mk3 _ _ _ _ _ _
  have cF := fcM_any W0
  have HI0 : Hid ((Tryz.prog.info? 37).map (fun i => i.size) = some (#[.int .i64 wh, .string (bs nm), .string (bs kn), .slice ao lo1 co, .slice af lf1 cf, .string (bs bn), .string (bs bf), .string (bs bt), .int .i64 mn, .int .i64 mx, .string (bs fnm), .int .i64 ft, .bool fm, .bool fk, .int .i64 wt, .int .i64 wn, .string (bs ws), .string (bs tn)] : Array Value).size) := info37
  go_enter Tryz.func3, Tryz.ntmps3
  go_upto_region 1 with fail
  rw [← hW0]
  clear hW0
  obtain ⟨cs, hcs⟩ : ∃ cs : Array Value, cs = #[.int .i64 wh, .string (bs nm), .string (bs kn), .slice ao lo1 co, .slice af lf1 cf, .string (bs bn), .string (bs bf), .string (bs bt), .int .i64 mn, .int .i64 mx, .string (bs fnm), .int .i64 ft, .bool fm, .bool fk, .int .i64 wt, .int .i64 wn, .string (bs ws), .string (bs tn)] := ⟨_, rfl⟩
  rw [← hcs] at bx h1_n h1_g h1_r h1_d HI0 ⊢
  have HI := Lib.hid HI0.out
  have HNn := Lib.hid h1_n
  have HNg := Lib.hid h1_g
  have HGr := Lib.hid h1_r
  have HDo := Lib.hid h1_d
  have HB0 := Lib.hid bx
  clear hcs h1_n h1_g h1_r h1_d HI0 bx hc0 h18
  clear kn ko kf bn bf bt mn mx fnm ft fm fk wt wn ws tn wh nm ao lo1 co af lf1 cf
  have hfb := fcM_box W0
  have hfB : Below W0.heap.size W0 (fcM W0) := b_alloc (b_alloc (b_alloc (b_alloc (b_alloc (Below.refl _ _) _) _) _) _) _
  have HFB := Lib.hid (And.intro hfb hfB)
  clear hfb hfB
  go_upto_region 3 with fail
  go_cut [11] (fun s11 wx => s11 = .pointer (some ⟨W0.heap.size + 1 + 1 + 1 + 1, 0, none⟩) ∧ wx = fcM W0)
  case first =>
    go_wp2
    go_meet
    exact ⟨rfl, rfl⟩
  case rest =>
  obtain ⟨rfl, hwc⟩ := hcut
  obtain ⟨hfb, hfB⟩ := HFB.out
  rw [← hwc] at hfb hfB cF
  clear HFB hwc
  generalize wc = WF at *
  obtain ⟨cf, hcf⟩ : ∃ cf : Array Value, cf = chFc := ⟨_, rfl⟩
  have HIf : Hid ((Tryz.prog.info? 37).map (fun i => i.size) = some cf.size) := by rw [hcf]; exact info37
  rw [← hcf] at hfb cF
  have k0 : WF.cell? ⟨W0.heap.size + 1, 0, none⟩ = some (.slice (some ⟨W0.heap.size, 0, none⟩) 1 1) := cell_at hfb.1 rfl
  have k1 : WF.cell? ⟨W0.heap.size + 1, 1, none⟩ = some (.slice none 0 0) := cell_at hfb.1 rfl
  have k2 : WF.cell? ⟨W0.heap.size + 1 + 1 + 1, 0, none⟩ = some (.slice (some ⟨W0.heap.size + 1 + 1, 0, none⟩) 1 1) := cell_at hfb.2.1 rfl
  have k3 : WF.cell? ⟨W0.heap.size + 1 + 1 + 1, 1, none⟩ = some (.slice none 0 0) := cell_at hfb.2.1 rfl
  have HNf := Lib.hid hfb.2.2
  clear hcf hfb
  go_upto_region 5 with (first | (refine wpList_load_row rfl 37 (.tmp 11) rfl (W0.heap.size + 1 + 1 + 1 + 1) rfl 37 cf (0, 0) _ HNf.out Tryz.underlying37 rfl HIf.out ?_) | (go_at_call 4; refine cF.mono ?_; rintro e W1 ⟨b, cb, x1, x2, x3, b2, cb2, rfl, f0, f1, hB1⟩; have f0' := cell_old f0; have f1' := cell_old f1; clear f0 f1))
  obtain ⟨W2, hW2⟩ : ∃ W2, W2 = W1.alloc (.cells #[.slice (some ⟨b, 0, none⟩) 1 cb, .slice x1 x2 x3] 41) := ⟨_, rfl⟩
  have bx := (HB0.out.on hB1).on (show Below W1.heap.size W1 W2 by rw [hW2]; exact b_alloc (Below.refl _ _) _)
  have e0 : W2.cell? ⟨W1.heap.size, 0, none⟩ = some (.slice (some ⟨b, 0, none⟩) 1 cb) := by rw [hW2]; exact cell_at (heap_alloc_new W1 _) rfl
  have e1 : W2.cell? ⟨b, 2, none⟩ = some (.slice (some ⟨b2, 0, none⟩) 1 cb2) := by rw [hW2]; exact f0' _
  have e2 : W2.cell? ⟨b2, 2, none⟩ = some (.int .i64 4) := by rw [hW2]; exact f1' _
  rw [← hW2]
  have HB := Lib.hid bx
  clear hW2 bx hB1 f0' f1' k0 k1 k2 k3 HNf HIf cF hfB HB0
  generalize W1.heap.size = pf at *
  go_upto_region 7 with fail
  clear e0 e1 e2
  by_cases h0 : nwE L B c0 N T = 0
  · have cN1 := HNg.out h0 W2 HB.out.1
    have bx := HB.out
    have s0 : W2.cell? ⟨w.heap.size, 0, none⟩ = some (.slice a1 L.length c1) := cell_at bx.2.1 rfl
    have s1 : W2.cell? ⟨w.heap.size, 1, none⟩ = some (.slice a2 B.length c2) := cell_at bx.2.1 rfl
    have gA : W2.cell? ⟨w.heap.size + 2, 0, none⟩ = some (.slice a3 N.length c3) := cell_at bx.2.2.2 rfl
    have gB : W2.cell? ⟨w.heap.size + 2, 1, none⟩ = some (.slice a4 T.length c4) := cell_at bx.2.2.2 rfl
    have HN := Lib.hid bx.2.2.1
    clear HNn HNg bx
    go_upto_region 10 with (first | (refine wpList_load_row rfl 37 (.tmp 5) rfl (w.heap.size + 1) rfl 37 cs (0, 0) _ HN.out Tryz.underlying37 rfl HI.out ?_) | (go_at_call 5; refine cN1.mono ?_; rintro e W3 ⟨p, rfl, hm⟩; have HM := Lib.hid hm; clear hm))
    obtain ⟨w1, Lm, X, hM, hX, hB1, ho, hJ⟩ := HM.out
    have HB1 := Lib.hid (HB.out.on hB1)
    have HO := Lib.hid (And.intro hM (And.intro hX ho))
    have HJ := Lib.hid hJ
    clear s0 s1 gA gB HN cN1 HM hM hX hB1 ho hJ HB
    go_upto_block 0 with fail
    go_cut [16] (fun s16 wx => ∃ k, MvJ w1 wx p c0 (kdsA L c0) Lm (cB B c0) X T k)
    case first =>
      go_wp2_with fail
      go_loopw [16] (fun s wr => ∃ j k : Nat, s = .int .i64 j ∧ j ≤ Z.length ∧ MvJ w1 wr p c0 (kdsA L c0) Lm (cB B c0) X T k) (fun s _ => Z.length - (intOf s).toNat)
      case atStart => exact ⟨0, 0, rfl, Nat.zero_le _, HJ.out⟩
      case round =>
        obtain ⟨j, k, rfl, hj, hJ⟩ := hrel
        have HJr := Lib.hid hJ
        clear hJ
        by_cases hlt : j < Z.length
        · have hlti : (j : Int) < (Z.length : Int) := by omega
          by_cases h60 : j < 60
          · have h60i : (j : Int) < 60 := by omega
            have hj0 : (0 : Int) ≤ (j : Int) := by omega
            obtain ⟨z, hz⟩ : ∃ z, Z[j]? = some z := ⟨Z[j], by simp [hlt]⟩
            rcases HZ.out with hnil | ⟨bz, oz, ⟨ao, cp, e, e2⟩, hc⟩
            · rw [hnil] at hlt; exact absurd hlt (by simp)
            injection e with ea _ ec
            subst ea
            subst e2
            have ce := hc wr (on1K HB1.out.1 HJr.out.hB (Nat.le_refl _)) j z hz
            have cS := jstep HJr.out HO.out.2.2 z
            clear hc ec hz
            by_cases hz1 : 1 ≤ z
            · by_cases hz2 : z ≤ 60
              · go_wp2_with (go_at_call 6; refine cS.mono ?_; rintro e W5 ⟨jj, rfl, hJ5, hB5⟩; have HJ5 := Lib.hid hJ5; clear hJ5 hB5)
                refine ⟨⟨j + 1, _, ?_, hlt, HJ5.out⟩, ?_⟩
                · go_num
                · simp [intOf]
                  omega
              · clear cS
                go_wp2
                refine ⟨⟨j + 1, k, ?_, hlt, HJr.out⟩, ?_⟩
                · go_num
                · simp [intOf]
                  omega
            · clear cS
              go_wp2
              refine ⟨⟨j + 1, k, ?_, hlt, HJr.out⟩, ?_⟩
              · go_num
              · simp [intOf]
                omega
          · go_wp2
            go_meet
            exact ⟨k, HJr.out⟩
        · go_wp2
          go_meet
          exact ⟨k, HJr.out⟩
    case rest =>
    obtain ⟨k0, hJ⟩ := hcut
    have HJ0 := Lib.hid hJ
    clear hJ HZ HJ
    go_upto_block 2 with fail
    go_cut [17] (fun s17 wx => MvJ w1 wx p c0 (kdsA L c0) Lm (cB B c0) X T X.length)
    case first =>
      go_wp2_with fail
      go_loopw [17] (fun s wr => ∃ j k : Nat, s = .int .i64 j ∧ j ≤ 60 ∧ (j ≤ k ∨ k = X.length) ∧ MvJ w1 wr p c0 (kdsA L c0) Lm (cB B c0) X T k) (fun s _ => 60 - (intOf s).toNat)
      case atStart => exact ⟨0, k0, rfl, Nat.zero_le _, .inl (Nat.zero_le _), HJ0.out⟩
      case round =>
        obtain ⟨j, k, rfl, hj, hjk, hJ⟩ := hrel
        have HJr := Lib.hid hJ
        clear hJ
        have hx60 := HO.out.2.2.hl
        have hkX := HJr.out.hk
        by_cases h60 : j < 60
        · have h60i : (j : Int) < 60 := by omega
          have cL := jleft HJr.out HO.out.2.2
          by_cases hk : k = X.length
          · rw [show (X.length : Int) - k = 0 by omega] at cL
            go_wp2_with (go_at_call 7; refine cL.mono ?_; rintro e W4 ⟨rfl, hB4⟩)
            go_meet
            exact hk ▸ HJr.out.on hB4
          · have hpos : (0 : Int) < (X.length : Int) - k := by omega
            have h1 := one_step (c := c0) (K := kdsA L c0) (N := X) (by omega : k < X.length) HJr.out.hx
            go_upto_region 18 with (go_at_call 7; refine cL.mono ?_; rintro e W4 ⟨rfl, hB4⟩)
            have cS := jstep (HJr.out.on hB4) HO.out.2.2 1
            clear cL hB4 hpos
            by_cases hs : stE c0 (kdsA L c0) X k 1 = 0
            · rw [hs, errV_0, if_pos rfl, h1.1 hs] at cS
              go_wp2_with (go_at_call 6; refine cS.mono ?_; rintro e W5 ⟨jj, rfl, hJ5, hB5⟩; have HJ5 := Lib.hid hJ5; clear hJ5 hB5)
              refine ⟨⟨j + 1, k + 1, ?_, by omega, by omega, HJ5.out⟩, ?_⟩
              · go_num
              · simp [intOf]
                omega
            · have hgr := grE_no h0 HO.out.1 HO.out.2.1 (h1.2 hs)
              rw [errV_ne hs] at cS
              have HGn := Lib.hid hgr
              clear hgr h1
              generalize stE c0 (kdsA L c0) X k 1 = zs at *
              go_upto_region 20 with (go_at_call 6; refine cS.mono ?_; rintro e W5 ⟨jj, rfl, hJ5, hB5⟩; have HJ5 := Lib.hid hJ5; clear hJ5 hB5)
              have bx := HB1.out.on HJ5.out.hB
              have s0 : W5.cell? ⟨w.heap.size, 0, none⟩ = some (.slice a1 L.length c1) := cell_at bx.2.1 rfl
              have s1 : W5.cell? ⟨w.heap.size, 1, none⟩ = some (.slice a2 B.length c2) := cell_at bx.2.1 rfl
              have gA : W5.cell? ⟨w.heap.size + 2, 0, none⟩ = some (.slice a3 N.length c3) := cell_at bx.2.2.2 rfl
              have gB : W5.cell? ⟨w.heap.size + 2, 1, none⟩ = some (.slice a4 T.length c4) := cell_at bx.2.2.2 rfl
              have HN := Lib.hid bx.2.2.1
              have cG := HGr.out W5 bx.1
              have HBw := Lib.hid bx.1
              unfold GrP at cG
              rw [errV_ne HGn.out] at cG
              generalize grE L B c0 N T = zg at *
              clear cS bx
              go_wp2_with (first | (refine wpList_load_row rfl 37 (.tmp 5) rfl (w.heap.size + 1) rfl 37 cs (0, 0) _ HN.out Tryz.underlying37 rfl HI.out ?_) | (go_at_call 4; refine cG.mono ?_; rintro e W6 ⟨y1, y2, y3, y4, y5, y6, Y, rfl, _, hB6⟩))
              go_ret
              exact ⟨rfl, on1K HBw.out (on1K hB6 (b_alloc (Below.refl _ _) _) (Nat.le_refl _)) (Nat.le_refl _)⟩
        · go_wp2
          go_meet
          exact (show k = X.length by omega) ▸ HJr.out
    case rest =>
    have HJ1 := Lib.hid hcut
    clear hcut HJ0
    generalize wc = W4 at *
    have hx0 : allX c0 (kdsA L c0) X = 0 := by
      have := HJ1.out.hx
      rwa [List.take_length] at this
    have hgr := grE_yes h0 HO.out.1 HO.out.2.1 hx0
    have cD := jdone HJ1.out rfl HO.out.2.2
    clear hx0
    by_cases hcf : confB Lm (cB B c0) (X.map (ndT c0 (kdsA L c0))) (T.filter (keepB (drp c0))) = true
    · have hgr0 : grE L B c0 N T = 0 := by rw [hgr, if_pos hcf]
      have HD : Hid (∀ W5 (e : Ending), (∃ g1 g2 g3 g4 g5 g6 x1 y1 z1 x2 y2 z2 R Y, e = .returned (.tuple #[.agg #[.slice g1 g2 g3, .slice g4 g5 g6], .agg #[.slice x1 y1 z1, .slice x2 y2 z2], errV (if confB Lm (cB B c0) (X.map (ndT c0 (kdsA L c0))) (T.filter (keepB (drp c0))) = true then 0 else 9)]) ∧ (confB Lm (cB B c0) (X.map (ndT c0 (kdsA L c0))) (T.filter (keepB (drp c0))) = true → cN Y = X.map (ndT c0 (kdsA L c0)) ∧ R.map kq3 = Lm.map kq3 ∧ OwnKs W5 w1.heap.size (.slice g1 g2 g3) R ∧ OwnBs W5 w1.heap.size (.slice g4 g5 g6) (cB B c0) ∧ OwnNs W5 w1.heap.size (.slice x1 y1 z1) Y ∧ OwnTs W5 w1.heap.size (.slice x2 y2 z2) (T.filter (keepB (drp c0)))) ∧ Below w1.heap.size W4 W5) → ∃ g1 g2 g3 g4 g5 g6 x1 y1 z1 x2 y2 z2, e = .returned (.tuple #[.agg #[.slice g1 g2 g3, .slice g4 g5 g6], .agg #[.slice x1 y1 z1, .slice x2 y2 z2], .nilIface]) ∧ ∃ R Y, cN Y = X.map (ndT c0 (kdsA L c0)) ∧ R.map kq3 = (cK L c0).map kq3 ∧ IsK W5 (.slice g1 g2 g3) R ∧ Parts W5 R ∧ IsB W5 (.slice g4 g5 g6) (cB B c0) ∧ IsN W5 (.slice x1 y1 z1) Y ∧ IsT W5 (.slice x2 y2 z2) (T.filter (keepB (drp c0))) ∧ Below w1.heap.size w1 W5) := by
        rintro W5 e ⟨g1, g2, g3, g4, g5, g6, x1, y1, z1, x2, y2, z2, R, Y, he, hy, hB⟩
        obtain ⟨q1, q2, q3, q4, q5, q6⟩ := hy hcf
        rw [if_pos hcf, errV_0] at he
        exact ⟨g1, g2, g3, g4, g5, g6, x1, y1, z1, x2, y2, z2, he, R, Y, q1, q2.trans HO.out.1, q3.isK, q3.parts, OwnBs.isB q4, q5.isN, q6.isT, HJ1.out.hB.trans hB⟩
      have HCf := Lib.hid (And.intro hcf hgr0)
      clear hgr hcf hgr0
      go_upto_region 23 with (go_at_call 8; refine cD.mono ?_; intro e W5 hd; obtain ⟨g1, g2, g3, g4, g5, g6, x1, y1, z1, x2, y2, z2, rfl, hR⟩ := HD.out W5 e hd; have HR := Lib.hid hR; clear hR hd)
      obtain ⟨W6, hW6⟩ : ∃ W6, W6 = (W5.alloc (.cells #[.slice g1 g2 g3, .slice g4 g5 g6] 25)).alloc (.cells #[.slice x1 y1 z1, .slice x2 y2 z2] 41) := ⟨_, rfl⟩
      have hB56 : Below W5.heap.size W5 W6 := by rw [hW6]; exact b_alloc (b_alloc (Below.refl _ _) _) _
      have n22 : W6.heap[W5.heap.size]? = some (.cells #[.slice g1 g2 g3, .slice g4 g5 g6] 25 (0, 0)) := by rw [hW6]; exact (heap_alloc_old _ _ (by simp)).trans (heap_alloc_new W5 _)
      have n23 : W6.heap[W5.heap.size + 1]? = some (.cells #[.slice x1 y1 z1, .slice x2 y2 z2] 41 (0, 0)) := by
        have := heap_alloc_new (W5.alloc (.cells #[.slice g1 g2 g3, .slice g4 g5 g6] 25)) (.cells #[.slice x1 y1 z1, .slice x2 y2 z2] 41)
        rw [World.size_alloc] at this; rw [hW6]; exact this
      rw [← hW6]
      obtain ⟨R, Y, r1, r2, rK, rP, rB, rN, rT, rW⟩ := HR.out
      have hE := end_facts HO.out.2.2 HCf.out.1 r1 (r2.trans HO.out.1.symm)
      have bx := (HB1.out.on rW).on hB56
      have hYN : cN Y = N.map (ndT c0 (kdsA L c0)) := by rw [r1, map_ndT_cc HO.out.2.1]
      have HX := Lib.hid (And.intro n22 (And.intro n23 (And.intro (rK.on hB56) (And.intro (rP.on hB56) (And.intro (rB.on hB56) (And.intro (rN.on hB56) (rT.on hB56)))))))
      have HE := Lib.hid (And.intro hE (And.intro r2 hYN))
      have HB6 := Lib.hid bx
      have cG : Calls Tryz.prog 4 #[.agg #[.slice a1 L.length c1, .slice a2 B.length c2], .agg cs, .agg #[.slice a3 N.length c3, .slice a4 T.length c4]] W6 fun e w' => ∃ m1 m2 m3 m4 m5 m6, e = .returned (.tuple #[.agg #[.slice m1 m2 m3, .slice m4 m5 m6], .nilIface]) ∧ ∃ V, cN V = N.map (ndT c0 (kdsA L c0)) ∧ IsN w' (.slice m1 m2 m3) V ∧ IsT w' (.slice m4 m5 m6) (T.filter (keepB (drp c0))) ∧ Below W6.heap.size W6 w' := (HGr.out W6 bx.1).mono (by
        rintro e w' ⟨m1, m2, m3, m4, m5, m6, V, he, hy, hB⟩
        rw [HCf.out.2, errV_0] at he
        obtain ⟨q1, q2, q3⟩ := hy HCf.out.2
        exact ⟨m1, m2, m3, m4, m5, m6, he, V, q1, q2.isN, q3.isT, hB⟩)
      have s0 : W6.cell? ⟨w.heap.size, 0, none⟩ = some (.slice a1 L.length c1) := cell_at bx.2.1 rfl
      have s1 : W6.cell? ⟨w.heap.size, 1, none⟩ = some (.slice a2 B.length c2) := cell_at bx.2.1 rfl
      have gA : W6.cell? ⟨w.heap.size + 2, 0, none⟩ = some (.slice a3 N.length c3) := cell_at bx.2.2.2 rfl
      have gB : W6.cell? ⟨w.heap.size + 2, 1, none⟩ = some (.slice a4 T.length c4) := cell_at bx.2.2.2 rfl
      have HN := Lib.hid bx.2.2.1
      clear bx n22 n23 rK rP rB rN rT rW r1 r2 hE hYN hW6 hB56 HR cD HD HGr
      generalize W5.heap.size = q at *
      go_upto_region 24 with (first | (refine wpList_load_row rfl 37 (.tmp 5) rfl (w.heap.size + 1) rfl 37 cs (0, 0) _ HN.out Tryz.underlying37 rfl HI.out ?_) | (go_at_call 4; refine cG.mono ?_; rintro e W7 ⟨m1, m2, m3, m4, m5, m6, rfl, hV⟩; have HV := Lib.hid hV; clear hV))
      obtain ⟨W8, hW8⟩ : ∃ W8, W8 = W7.alloc (.cells #[.slice m1 m2 m3, .slice m4 m5 m6] 41) := ⟨_, rfl⟩
      have n25 : W8.heap[W7.heap.size]? = some (.cells #[.slice m1 m2 m3, .slice m4 m5 m6] 41 (0, 0)) := by rw [hW8]; exact heap_alloc_new W7 _
      have hB78 : Below W7.heap.size W7 W8 := by rw [hW8]; exact b_alloc (Below.refl _ _) _
      rw [← hW8]
      obtain ⟨V, v1, v2, v3, v4⟩ := HV.out
      have hB68 := on1K v4 hB78 (Nat.le_refl _)
      have bx := HB6.out.on hB68
      obtain ⟨n22, n23, rK, rP, rB, rN, rT⟩ := HX.out
      have HX8 := Lib.hid (And.intro ((hB68.block _ (Array.getElem?_eq_some_iff.1 n22).1).trans n22) (And.intro ((hB68.block _ (Array.getElem?_eq_some_iff.1 n23).1).trans n23) (And.intro n25 (And.intro (rK.on hB68) (And.intro (rP.on hB68) (And.intro (rB.on hB68) (And.intro (rN.on hB68) (And.intro (rT.on hB68) (And.intro (v2.on hB78) (And.intro (v3.on hB78) v1))))))))))
      have HB8 := Lib.hid bx
      have cO := HDo.out (nwE_parts h0).1 W8 bx.1
      clear s0 s1 gA gB HN
      have s0 : W8.cell? ⟨w.heap.size, 0, none⟩ = some (.slice a1 L.length c1) := cell_at bx.2.1 rfl
      have s1 : W8.cell? ⟨w.heap.size, 1, none⟩ = some (.slice a2 B.length c2) := cell_at bx.2.1 rfl
      have gA : W8.cell? ⟨w.heap.size + 2, 0, none⟩ = some (.slice a3 N.length c3) := cell_at bx.2.2.2 rfl
      have gB : W8.cell? ⟨w.heap.size + 2, 1, none⟩ = some (.slice a4 T.length c4) := cell_at bx.2.2.2 rfl
      have HN := Lib.hid bx.2.2.1
      clear bx n22 n23 n25 rK rP rB rN rT v1 v2 v3 v4 hW8 hB78 hB68 HV HX HB6 cG HDo
      generalize W7.heap.size = q2 at *
      go_upto_region 27 with (first | (refine wpList_load_row rfl 37 (.tmp 5) rfl (w.heap.size + 1) rfl 37 cs (0, 0) _ HN.out Tryz.underlying37 rfl HI.out ?_) | (go_at_call 9; refine cO.mono ?_; rintro e W9 ⟨o1, o2, o3, o4, o5, o6, M, rfl, hM1, hM2, hM3, hM4⟩; have HM := Lib.hid (And.intro hM1 (And.intro hM2 (And.intro hM3 hM4))); clear hM1 hM2 hM3 hM4))
      obtain ⟨W10, hW10⟩ : ∃ W10, W10 = W9.alloc (.cells #[.slice o1 o2 o3, .slice o4 o5 o6] 25) := ⟨_, rfl⟩
      have n27 : W10.heap[W9.heap.size]? = some (.cells #[.slice o1 o2 o3, .slice o4 o5 o6] 25 (0, 0)) := by rw [hW10]; exact heap_alloc_new W9 _
      have hBa : Below W9.heap.size W9 W10 := by rw [hW10]; exact b_alloc (Below.refl _ _) _
      rw [← hW10]
      obtain ⟨hM1, hM2, hM3, hM4⟩ := HM.out
      have hB := on1K hM4 hBa (Nat.le_refl _)
      obtain ⟨n22, n23, n25, rK, rP, rB, rN, rT, vN, vT, vE⟩ := HX8.out
      have n22' := (hB.block _ (Array.getElem?_eq_some_iff.1 n22).1).trans n22
      have n23' := (hB.block _ (Array.getElem?_eq_some_iff.1 n23).1).trans n23
      have n25' := (hB.block _ (Array.getElem?_eq_some_iff.1 n25).1).trans n25
      have cS := schema_same (rK.on hB) (rP.on hB) (rB.on hB) (hM2.isK.on hBa) (hM2.parts.on hBa) ((OwnBs.isB hM3).on hBa) (HE.out.2.1.trans hM1.symm) HE.out.1.2.2.2.2.1 HE.out.1.2.2.2.1 HE.out.1.2.2.2.2.2
      have HG : Hid (∀ W, Below W10.heap.size W10 W → Calls Tryz.prog 11 #[.agg #[.slice x1 y1 z1, .slice x2 y2 z2], .agg #[.slice m1 m2 m3, .slice m4 m5 m6]] W fun e w' => e = .returned (.bool true) ∧ Below W.heap.size W w') := fun W h => by
        have h' := on1K hB h (Nat.le_refl _)
        exact graph_same (rN.on h') (rT.on h') (vN.on h') (vT.on h') (HE.out.2.2.trans vE.symm) (by have := HE.out.1.2.2.1.1; omega) (by have := HE.out.1.2.2.1.2.1; omega) HE.out.1.2.2.1.2.2
      have HCn : Hid (∀ W, Below W10.heap.size W10 W → Calls Tryz.prog 12 #[.agg #[.slice g1 g2 g3, .slice g4 g5 g6], .agg #[.slice x1 y1 z1, .slice x2 y2 z2]] W fun e w' => e = .returned (.tuple #[.bool true, .nilIface]) ∧ Below W.heap.size W w') := fun W h => by
        have h' := on1K hB h (Nat.le_refl _)
        obtain ⟨⟨e1, e2⟩, ⟨e3, e4, e5, e6⟩, ⟨e7, e8, _⟩, _⟩ := HE.out.1
        have m60 : (60 : Nat) ≤ maxLen := by unfold maxLen; omega
        have m120 : (120 : Nat) ≤ maxLen := by unfold maxLen; omega
        have iS : IsSc W (.agg #[.slice g1 g2 g3, .slice g4 g5 g6]) R (cB B c0) := ⟨_, _, rfl, rK.on h', rP.on h', e3, rB.on h', e4⟩
        have iG : IsG W (.agg #[.slice x1 y1 z1, .slice x2 y2 z2]) Y (T.filter (keepB (drp c0))) := ⟨_, _, rfl, rN.on h', rT.on h', e5, e6, Nat.le_trans e7 m60, Nat.le_trans e8 m120⟩
        refine (conforms_any iS iG).mono ?_
        rintro e w' ⟨he, hb⟩
        rw [e1, e2, errV_0] at he
        exact ⟨he, hb⟩
      have HCl : Hid (∀ W, Below W10.heap.size W10 W → (W.cell? ⟨q, 0, none⟩ = some (.slice g1 g2 g3) ∧ W.cell? ⟨q, 1, none⟩ = some (.slice g4 g5 g6)) ∧ (W.cell? ⟨q + 1, 0, none⟩ = some (.slice x1 y1 z1) ∧ W.cell? ⟨q + 1, 1, none⟩ = some (.slice x2 y2 z2)) ∧ (W.cell? ⟨q2, 0, none⟩ = some (.slice m1 m2 m3) ∧ W.cell? ⟨q2, 1, none⟩ = some (.slice m4 m5 m6))) := fun W h => by
        have k1 := (h.block _ (Array.getElem?_eq_some_iff.1 n22').1).trans n22'
        have k2 := (h.block _ (Array.getElem?_eq_some_iff.1 n23').1).trans n23'
        have k3 := (h.block _ (Array.getElem?_eq_some_iff.1 n25').1).trans n25'
        exact ⟨⟨cell_at k1 rfl, cell_at k1 rfl⟩, ⟨cell_at k2 rfl, cell_at k2 rfl⟩, cell_at k3 rfl, cell_at k3 rfl⟩
      have HBw := Lib.hid (on1K HB8.out.1 hB (Nat.le_refl _))
      obtain ⟨⟨t0, t1⟩, ⟨t2, t3⟩, t4, t5⟩ := HCl.out W10 (Below.refl _ _)
      have u0 : W10.cell? ⟨W9.heap.size, 0, none⟩ = some (.slice o1 o2 o3) := cell_at n27 rfl
      have u1 : W10.cell? ⟨W9.heap.size, 1, none⟩ = some (.slice o4 o5 o6) := cell_at n27 rfl
      clear s0 s1 gA gB HN hW10 hBa hB hM1 hM2 hM3 hM4 n22 n23 n25 n22' n23' n25' n27 rK rP rB rN rT vN vT vE HM HX8 HB8 cO
      generalize W9.heap.size = q3 at *
      go_upto_region 28 with (go_at_call 10; refine cS.mono ?_; rintro e W11 ⟨rfl, hB11⟩)
      have cGs := HG.out W11 hB11
      obtain ⟨⟨t0', t1'⟩, ⟨t2', t3'⟩, t4', t5'⟩ := HCl.out W11 hB11
      clear t0 t1 t2 t3 t4 t5 u0 u1 cS HG
      go_upto_region 29 with (go_at_call 11; refine cGs.mono ?_; rintro e W12 ⟨rfl, hB12⟩)
      have hB10 := on1K hB11 hB12 (Nat.le_refl _)
      have cCn := HCn.out W12 hB10
      obtain ⟨⟨t0, t1⟩, ⟨t2, t3⟩, t4, t5⟩ := HCl.out W12 hB10
      clear t0' t1' t2' t3' t4' t5' HCn HCl cGs
      go_wp2_with (go_at_call 12; refine cCn.mono ?_; rintro e W13 ⟨rfl, hB13⟩)
      go_ret
      exact ⟨rfl, on1K HBw.out (on1K hB10 hB13 (Nat.le_refl _)) (Nat.le_refl _)⟩
    · have hgr9 : grE L B c0 N T = 9 := by rw [hgr, if_neg hcf]
      have HD : Hid (∀ W5 (e : Ending), (∃ g1 g2 g3 g4 g5 g6 x1 y1 z1 x2 y2 z2 R Y, e = .returned (.tuple #[.agg #[.slice g1 g2 g3, .slice g4 g5 g6], .agg #[.slice x1 y1 z1, .slice x2 y2 z2], errV (if confB Lm (cB B c0) (X.map (ndT c0 (kdsA L c0))) (T.filter (keepB (drp c0))) = true then 0 else 9)]) ∧ (confB Lm (cB B c0) (X.map (ndT c0 (kdsA L c0))) (T.filter (keepB (drp c0))) = true → cN Y = X.map (ndT c0 (kdsA L c0)) ∧ R.map kq3 = Lm.map kq3 ∧ OwnKs W5 w1.heap.size (.slice g1 g2 g3) R ∧ OwnBs W5 w1.heap.size (.slice g4 g5 g6) (cB B c0) ∧ OwnNs W5 w1.heap.size (.slice x1 y1 z1) Y ∧ OwnTs W5 w1.heap.size (.slice x2 y2 z2) (T.filter (keepB (drp c0)))) ∧ Below w1.heap.size W4 W5) → ∃ g1 g2 g3 g4 g5 g6 x1 y1 z1 x2 y2 z2, e = .returned (.tuple #[.agg #[.slice g1 g2 g3, .slice g4 g5 g6], .agg #[.slice x1 y1 z1, .slice x2 y2 z2], .iface 74 (.int .i64 9)]) ∧ Below w1.heap.size w1 W5) := by
        rintro W5 e ⟨g1, g2, g3, g4, g5, g6, x1, y1, z1, x2, y2, z2, R, Y, he, _, hB⟩
        rw [if_neg hcf, errV_ne (by decide)] at he
        exact ⟨g1, g2, g3, g4, g5, g6, x1, y1, z1, x2, y2, z2, he, HJ1.out.hB.trans hB⟩
      have HG9 := Lib.hid hgr9
      clear hgr hcf hgr9
      go_upto_region 23 with (go_at_call 8; refine cD.mono ?_; intro e W5 hd; obtain ⟨g1, g2, g3, g4, g5, g6, x1, y1, z1, x2, y2, z2, rfl, hR⟩ := HD.out W5 e hd; have HR := Lib.hid hR; clear hR hd)
      obtain ⟨W6, hW6⟩ : ∃ W6, W6 = (W5.alloc (.cells #[.slice g1 g2 g3, .slice g4 g5 g6] 25)).alloc (.cells #[.slice x1 y1 z1, .slice x2 y2 z2] 41) := ⟨_, rfl⟩
      have hB56 : Below W5.heap.size W5 W6 := by rw [hW6]; exact b_alloc (b_alloc (Below.refl _ _) _) _
      rw [← hW6]
      have bx := (HB1.out.on HR.out).on hB56
      have cG : Calls Tryz.prog 4 #[.agg #[.slice a1 L.length c1, .slice a2 B.length c2], .agg cs, .agg #[.slice a3 N.length c3, .slice a4 T.length c4]] W6 fun e w' => ∃ m1 m2 m3 m4 m5 m6, e = .returned (.tuple #[.agg #[.slice m1 m2 m3, .slice m4 m5 m6], .iface 74 (.int .i64 9)]) ∧ Below W6.heap.size W6 w' := (HGr.out W6 bx.1).mono (by
        rintro e w' ⟨m1, m2, m3, m4, m5, m6, V, he, _, hB⟩
        rw [HG9.out, errV_ne (by decide)] at he
        exact ⟨m1, m2, m3, m4, m5, m6, he, hB⟩)
      have s0 : W6.cell? ⟨w.heap.size, 0, none⟩ = some (.slice a1 L.length c1) := cell_at bx.2.1 rfl
      have s1 : W6.cell? ⟨w.heap.size, 1, none⟩ = some (.slice a2 B.length c2) := cell_at bx.2.1 rfl
      have gA : W6.cell? ⟨w.heap.size + 2, 0, none⟩ = some (.slice a3 N.length c3) := cell_at bx.2.2.2 rfl
      have gB : W6.cell? ⟨w.heap.size + 2, 1, none⟩ = some (.slice a4 T.length c4) := cell_at bx.2.2.2 rfl
      have HN := Lib.hid bx.2.2.1
      have HBw := Lib.hid bx.1
      clear bx hW6 hB56 HR cD HD HGr HDo
      generalize W5.heap.size = q at *
      go_wp2_with (first | (refine wpList_load_row rfl 37 (.tmp 5) rfl (w.heap.size + 1) rfl 37 cs (0, 0) _ HN.out Tryz.underlying37 rfl HI.out ?_) | (go_at_call 4; refine cG.mono ?_; rintro e W7 ⟨m1, m2, m3, m4, m5, m6, rfl, hB7⟩))
      go_ret
      exact ⟨rfl, on1K HBw.out (on1K hB7 (b_alloc (Below.refl _ _) _) (Nat.le_refl _)) (Nat.le_refl _)⟩
  · have cN1 := HNn.out h0 W2 HB.out.1
    have bx := HB.out
    have s0 : W2.cell? ⟨w.heap.size, 0, none⟩ = some (.slice a1 L.length c1) := cell_at bx.2.1 rfl
    have s1 : W2.cell? ⟨w.heap.size, 1, none⟩ = some (.slice a2 B.length c2) := cell_at bx.2.1 rfl
    have gA : W2.cell? ⟨w.heap.size + 2, 0, none⟩ = some (.slice a3 N.length c3) := cell_at bx.2.2.2 rfl
    have gB : W2.cell? ⟨w.heap.size + 2, 1, none⟩ = some (.slice a4 T.length c4) := cell_at bx.2.2.2 rfl
    have HN := Lib.hid bx.2.2.1
    clear HNn HNg HGr HDo bx
    generalize nwE L B c0 N T = z at *
    go_wp2_with (first | (refine wpList_load_row rfl 37 (.tmp 5) rfl (w.heap.size + 1) rfl 37 cs (0, 0) _ HN.out Tryz.underlying37 rfl HI.out ?_) | (go_at_call 5; refine cN1.mono ?_; rintro e W3 ⟨rfl, hB3⟩))
    go_ret
    exact ⟨rfl, on1K HB.out.1 hB3 (Nat.le_refl _)⟩
end Go.Proofs.YtpmblbhemcippaaGreat
