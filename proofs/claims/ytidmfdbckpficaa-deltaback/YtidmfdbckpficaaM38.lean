/-
  The walk of the law DeltaBack.
-/
import Derived.Test.YtidmfdbckpficaaM37
import Derived.Deep.DeepCutAuto
import Derived.Deep.RegionHeld3
namespace Go.Proofs.Ytidmfdbckpficaa
open Go.RowKit
set_option linter.unusedVariables false
set_option linter.unusedSimpArgs false

set_option maxHeartbeats 16000000 in
set_option maxRecDepth 100000 in
theorem back_yes {vn vt un ut vl : Value} {N M : List Nd} {T U : List Te} {L : List Opx} {w : World} (hN : IsN w vn N) (hT : IsT w vt T) (hM : IsN w un M) (hU : IsT w ut U) (hL : IsO w vl L) (zN : SzN N) (zT : SzT T) (zM : SzN M) (zU : SzT U) (lN : N.length ≤ maxLen) (lT : T.length ≤ maxLen) (lM : M.length ≤ maxLen) (lU : U.length ≤ maxLen) (zL : ∀ o ∈ L, OpSz o) (lL : L.length ≤ maxLen) (g1 : gErr N T = 0) (g2 : gErr M U = 0) :
    Calls Try.prog 3 #[.agg #[vn, vt], .agg #[un, ut], vl] w fun e w' => e = .returned (.bool true) ∧ Below w.heap.size w w' := by
  obtain ⟨W1, hW1⟩ : ∃ W1, W1 = (((w.alloc (.cells #[vn, vt] 25)).alloc (.cells #[un, ut] 25)).alloc (.cells #[.int .i64 4, .string ⟨#[97]⟩, .slice none 0 0] 30)).alloc (.cells #[.slice (some ⟨w.heap.size + 1 + 1, 0, none⟩) 1 1, .slice none 0 0] 25) := ⟨_, rfl⟩
  have hB1 : Below w.heap.size w W1 := by rw [hW1]; exact b_alloc (b_alloc (b_alloc (b_alloc (Below.refl _ _) _) _) _) _
  have n0 : W1.heap[w.heap.size]? = some (.cells #[vn, vt] 25 (0, 0)) := by
    rw [hW1]
    exact (heap_alloc_old _ _ (by simp; omega)).trans ((heap_alloc_old _ _ (by simp; omega)).trans ((heap_alloc_old _ _ (by simp)).trans (heap_alloc_new w _)))
  have n1 : W1.heap[w.heap.size + 1]? = some (.cells #[un, ut] 25 (0, 0)) := by
    have := heap_alloc_new (w.alloc (.cells #[vn, vt] 25)) (.cells #[un, ut] 25)
    rw [World.size_alloc] at this
    rw [hW1]
    exact (heap_alloc_old _ _ (by simp; (try omega))).trans ((heap_alloc_old _ _ (by simp)).trans this)
  have n3 : W1.heap[w.heap.size + 1 + 1 + 1]? = some (.cells #[.slice (some ⟨w.heap.size + 1 + 1, 0, none⟩) 1 1, .slice none 0 0] 25 (0, 0)) := by
    have := heap_alloc_new (((w.alloc (.cells #[vn, vt] 25)).alloc (.cells #[un, ut] 25)).alloc (.cells #[.int .i64 4, .string ⟨#[97]⟩, .slice none 0 0] 30)) (.cells #[.slice (some ⟨w.heap.size + 1 + 1, 0, none⟩) 1 1, .slice none 0 0] 25)
    simp only [World.size_alloc] at this
    rw [hW1]
    exact this
  have i4 : IsN W1 (.slice (some ⟨w.heap.size + 1 + 1, 0, none⟩) 1 1) [one4] := by
    have := one4_isN ((w.alloc (.cells #[vn, vt] 25)).alloc (.cells #[un, ut] 25))
    simp only [World.size_alloc] at this
    rw [hW1]
    exact this.on (b_alloc (Below.refl _ _) _)
  have cF := diff_yes between_any (isN_nil W1) (isT_nil W1) i4 (isT_nil W1) (gErr_sz nil_ok).1 (gErr_sz nil_ok).2 (gErr_sz one4_ok).1 (gErr_sz one4_ok).2 nil_ok one4_ok
  have HX : Hid (∀ W, Below W1.heap.size W1 W → W.cell? ⟨w.heap.size, 0, none⟩ = some vn ∧ W.cell? ⟨w.heap.size, 1, none⟩ = some vt ∧ W.cell? ⟨w.heap.size + 1, 0, none⟩ = some un ∧ W.cell? ⟨w.heap.size + 1, 1, none⟩ = some ut) := fun W hb => ⟨cell_at ((hb.block _ (Array.getElem?_eq_some_iff.1 n0).1).trans n0) rfl, cell_at ((hb.block _ (Array.getElem?_eq_some_iff.1 n0).1).trans n0) rfl, cell_at ((hb.block _ (Array.getElem?_eq_some_iff.1 n1).1).trans n1) rfl, cell_at ((hb.block _ (Array.getElem?_eq_some_iff.1 n1).1).trans n1) rfl⟩
  have t0 := cell_at (i := 0) n3 rfl
  have t1 := cell_at (i := 1) n3 rfl
  have HB1 := Lib.hid hB1
  have HG : Hid (IsN w vn N ∧ IsT w vt T ∧ IsN w un M ∧ IsT w ut U ∧ IsO w vl L) := ⟨hN, hT, hM, hU, hL⟩
  obtain ⟨an, cn, hvn, _⟩ := hN
  obtain ⟨am, cm, hvt, _⟩ := hT
  obtain ⟨bn, dn, hun, _⟩ := hM
  obtain ⟨bm, dm, hut, _⟩ := hU
  obtain ⟨al, cl, hvl, _⟩ := hL
  subst hvn hvt hun hut hvl
  clear n0 n1 n3 i4 hB1
  go_enter Try.func3, Try.ntmps3
  go_upto_region 2 with fail
  rw [← hW1]
  clear hW1
  go_wp2_with (first | (go_at_call 5; refine cF.mono ?_; rintro e W2 ⟨ao4, c4, L4, rfl, hO4, hm4, hB2⟩; refine Hid.out ?_))
  refine Lib.hid ?_
  obtain ⟨o4, rfl, e1, e2⟩ := fact_of hm4
  obtain ⟨b4, c4', hv4, hb4, hcl4, _⟩ := ops_at (i := 0) (o := o4) hO4 rfl
  injection hv4 with hv41 hv42 hv43
  subst hv41
  clear hv42 hv43
  have f0 : W2.cell? ⟨b4, 0, none⟩ = some (.int .i64 1) := by
    have := hcl4 W2 (Below.refl _ _) 0 _ rfl
    rw [e1] at this
    simpa using this
  have f1 : W2.cell? ⟨b4, 1, none⟩ = some (.int .i64 4) := by
    have := hcl4 W2 (Below.refl _ _) 1 _ rfl
    rw [e2] at this
    simpa using this
  obtain ⟨x0, x1, x2, x3⟩ := HX.out W2 hB2
  have hbw2 := on1K HB1.out hB2 (Nat.le_refl _)
  have HB2 := Lib.hid hB2
  have cD := diff_yes between_any (HG.out.1.on hbw2) (HG.out.2.1.on hbw2) (HG.out.2.2.1.on hbw2) (HG.out.2.2.2.1.on hbw2) zN zT zM zU g1 g2
  clear cF hO4 hm4 hB2 hb4 hcl4 e1 e2 hbw2 t0 t1
  go_wp2_with (first | (go_at_call 5; refine cD.mono ?_; rintro e W3 ⟨ao, cd, LD, rfl, hO, hm, hB3⟩; refine Hid.out ?_))
  refine Lib.hid ?_
  have hBx : Below W3.heap.size W3 (W3.alloc (.cells #[.slice an N.length cn, .slice am T.length cm] 25)) := b_alloc (Below.refl _ _) _
  have h43 := heap_alloc_new W3 (.cells #[.slice an N.length cn, .slice am T.length cm] 25)
  have hB13 := on1K HB2.out hB3 (Nat.le_refl _)
  have hB14 := on1K hB13 hBx (Nat.le_refl _)
  obtain ⟨W4, hW4⟩ : ∃ W4, W4 = W3.alloc (.cells #[.slice an N.length cn, .slice am T.length cm] 25) := ⟨_, rfl⟩
  rw [← hW4] at hBx h43 hB14
  have hbw4 := on1K HB1.out hB14 (Nat.le_refl _)
  have HS : Hid (BkI W4 LD (cN M) U W3.heap.size 0 W4) := bk_start HG.out.1 HG.out.2.1 g1 hbw4 h43 (on1K HB1.out hB13 (Nat.le_refl _)).size (by rw [hm]; exact dif_runs g1 g2)
  have HO := Lib.hid (And.intro (hO.on hBx) h43)
  have HZ := Lib.hid (map_sz hm (difO_sz g1 g2))
  have hlen : LD.length ≤ 40000 := by rw [map_len hm]; exact difO_len g1 g2
  have HB4 : Hid (Below W1.heap.size W1 W4 ∧ W1.heap.size ≤ W3.heap.size) := ⟨hB14, hB13.size⟩
  clear x0 x1 x2 x3
  obtain ⟨x0, x1, x2, x3⟩ := HX.out W3 hB13
  obtain ⟨v0, v1, v2, v3⟩ := HX.out W4 hB14
  clear hO hm hB3 hBx h43 hB13 hB14 hbw4 cD f0 f1
  go_upto_region 8 with fail
  rw [← hW4]
  clear hW4
  go_wp2
  go_loopw [13] (fun s wr => ∃ i : Nat, i ≤ LD.length ∧ s = .int .i64 i ∧ BkI W4 LD (cN M) U W3.heap.size i wr) (fun s _ => LD.length - (intOf s).toNat)
  case atStart => exact ⟨0, Nat.zero_le _, rfl, HS.out⟩
  case round =>
    obtain ⟨i, hi, rfl, hM⟩ := hrel
    obtain ⟨xn, xt, X, Y, m1, m2, m3, m4, m5⟩ := hM
    by_cases hlt : i < LD.length
    · obtain ⟨o, ho⟩ : ∃ o, LD[i]? = some o := ⟨LD[i], by simp [hlt]⟩
      obtain ⟨b, c', hv, hb, hcl, hR⟩ := ops_at (own_grown HO.out.1 HO.out.2 m5) ho
      injection hv with hv1 hv2 hv3
      subst hv1
      clear hv2 hv3
      obtain ⟨e0, hnx⟩ := bk_next m3 ho
      have zo := HZ.out o (List.mem_of_getElem? ho)
      have cD := fun W (hB : Below wr.heap.size wr W) => do_yes (m2 W (grown_of_below hB _)).1 (m2 W (grown_of_below hB _)).2 m4 (hR.on hB) zo e0
      obtain ⟨a5, c5, hv5, _⟩ := (m2 wr (grown_of_below (Below.refl _ _) _)).1
      obtain ⟨a6, c6, hv6, _⟩ := (m2 wr (grown_of_below (Below.refl _ _) _)).2
      subst hv5 hv6
      have hqw : W3.heap.size < wr.heap.size := (Array.getElem?_eq_some_iff.1 m1).1
      have HC : Hid (∀ W, Below wr.heap.size wr W → Rd W W3.heap.size b (i * 11) (.slice a5 X.length c5) (.slice a6 Y.length c6) o) := fun W hB => rd_of ((hB.block _ hqw).trans m1) (fun j u hu => hcl W hB j u hu)
      obtain ⟨av, lv, cv, hov⟩ := hR.sl
      generalize hX2 : opM o (cN X) Y = X2 at *
      generalize hY2 : opT o (cN X) Y = Y2 at *
      clear hX2 hY2 e0 zo hcl hR ho m3 m4
      obtain ⟨wh, ⟨id, kd, rv, rc⟩, ⟨nm, pt, pn, ps⟩, ⟨bd, fr, tt⟩⟩ := o
      simp only at hov
      subst hov
      have HK : Hid (wr.heap[W3.heap.size]? = some (.cells #[.slice a5 X.length c5, .slice a6 Y.length c6] 25 (0, 0)) ∧ W4.grownBy wr (some W3.heap.size) ∧ Runs ((LD.drop (i + 1)).map Opx.c) X2 Y2 (cN M) U) := ⟨m1, m5, hnx⟩
      obtain ⟨x0, x1, x2, x3, x4, x5, x6, x7, x8, x9, x10, x11, x12⟩ := HC.out wr (Below.refl _ _)
      simp only at x2 x3 x4 x5 x6 x7 x8 x9 x10 x11 x12
      have hbw : b < wr.heap.size := hb
      have hn1 : ¬ wr.heap.size = b := by omega
      have hn2 : ¬ wr.heap.size = W3.heap.size := by omega
      have hn3 : W3.heap.size ≠ wr.heap.size := by omega
      have HN : Hid (∀ W, Below wr.heap.size wr W → ¬ W.heap.size = b ∧ ¬ W.heap.size = W3.heap.size) := fun W hB => by have := hB.size; omega
      clear m1 m2 m5 hnx
      go_upto_region 11 with fail
      go_cut [14, 15] (fun s t wx => EmC wr (.slice a5 X.length c5) (.slice a6 Y.length c6) X2 Y2 W3.heap.size s t wx)
      case first =>
        first | (go_region_held3 (fun w' => w'.cell? ⟨W3.heap.size, 0, none⟩ = some (.slice a5 X.length c5) ∧ w'.cell? ⟨W3.heap.size, 1, none⟩ = some (.slice a6 Y.length c6) ∧ w'.cell? ⟨b, i * 11, none⟩ = some (.int .i64 wh) ∧ w'.cell? ⟨b, i * 11 + 1, none⟩ = some (.int .i64 id) ∧ w'.cell? ⟨b, i * 11 + 2, none⟩ = some (.string kd) ∧ w'.cell? ⟨b, i * 11 + 3, none⟩ = some (.slice av lv cv) ∧ w'.cell? ⟨b, i * 11 + 4, none⟩ = some (.string nm) ∧ w'.cell? ⟨b, i * 11 + 5, none⟩ = some (.int .i64 pt) ∧ w'.cell? ⟨b, i * 11 + 6, none⟩ = some (.int .i64 pn) ∧ w'.cell? ⟨b, i * 11 + 7, none⟩ = some (.string ps) ∧ w'.cell? ⟨b, i * 11 + 8, none⟩ = some (.string bd) ∧ w'.cell? ⟨b, i * 11 + 9, none⟩ = some (.int .i64 fr) ∧ w'.cell? ⟨b, i * 11 + 10, none⟩ = some (.int .i64 tt)) (go_keep) (first | (go_at_call 6; refine (cD _ (by first | exact b_drew (Below.refl _ wr) | exact b_alloc (b_drew (Below.refl _ wr)) _)).mono ?_; rintro e D2 ⟨yn, yt, M2, rfl, ⟨hM2, hO2, hT2, hg2⟩, hB2'⟩; obtain ⟨a7, c7, hv7⟩ := own_slice hO2.1; obtain ⟨a8, c8, hv8⟩ := own_slice hT2; subst hv7 hv8; have hb2 : Hid (Below wr.heap.size wr D2) := on1K (by first | exact b_drew (Below.refl _ wr) | exact b_alloc (b_drew (Below.refl _ wr)) _) hB2' (Nat.le_refl _); obtain ⟨z0, z1, z2, z3, z4, z5, z6, z7, z8, z9, z10, z11, z12⟩ := HC.out D2 hb2.out; simp only at z2 z3 z4 z5 z6 z7 z8 z9 z10 z11 z12; have hn5 := HN.out D2 hb2.out; (try (have kb : D2.heap[wr.heap.size]? = some (.cells #[.slice none 0 0, .slice none 0 0] 25 (0, 0)) := (hB2'.block _ (by simp)).trans (heap_alloc_new wr.drew _); have y5 : D2.cell? ⟨wr.heap.size, 0, none⟩ = some (.slice none 0 0) := cell_at kb rfl; have y6 : D2.cell? ⟨wr.heap.size, 1, none⟩ = some (.slice none 0 0) := cell_at kb rfl; have f5 : D2.frozen? ⟨wr.heap.size, 0, none⟩ = false := frz_at kb; have f6 : D2.frozen? ⟨wr.heap.size, 1, none⟩ = false := frz_at kb; replace kb := Lib.hid kb)); clear hB2'; have HP := Lib.hid (And.intro hM2 (And.intro hO2 (And.intro hT2 hg2))); clear hM2 hO2 hT2 hg2))) | fail
        all_goals
          go_wp2
          go_meet
          have hq5 := (hb2.out.block _ hqw).trans HK.out.1
          first
            | with_reducible exact emC_alloc HP.out.2.1 HP.out.2.2.1 HP.out.1 HP.out.2.2.2 hq5 hb2.out
            | with_reducible exact emC_set kb.out hn3 (Nat.le_refl _) HP.out.2.1 HP.out.2.2.1 HP.out.1 HP.out.2.2.2 hq5 hb2.out
      case rest =>
      obtain ⟨p2, yn, yt, M2, rfl, rfl, r1, r2, r3, r4, r5, r6, r7⟩ := hcut
      obtain ⟨a7, c7, hv7⟩ := own_slice r2.1
      obtain ⟨a8, c8, hv8⟩ := own_slice r3
      subst hv7 hv8
      have z0 : wc.cell? ⟨p2, 0, none⟩ = some (.slice a7 M2.length c7) := cell_at r1 rfl
      have z1 : wc.cell? ⟨p2, 1, none⟩ = some (.slice a8 Y2.length c8) := cell_at r1 rfl
      have t0 : wc.cell? ⟨W3.heap.size, 0, none⟩ = some (.slice a5 X.length c5) := cell_at r6 rfl
      have t1 : wc.cell? ⟨W3.heap.size, 1, none⟩ = some (.slice a6 Y.length c6) := cell_at r6 rfl
      have f0 : wc.frozen? ⟨W3.heap.size, 0, none⟩ = false := frz_at r6
      have f1 : wc.frozen? ⟨W3.heap.size, 1, none⟩ = false := frz_at r6
      have HE2 : Hid (BkI W4 LD (cN M) U W3.heap.size (i + 1) ((wc.setCell ⟨W3.heap.size, 0, none⟩ (.slice a7 M2.length c7)).setCell ⟨W3.heap.size, 1, none⟩ (.slice a8 Y2.length c8))) := bk_step HK.out.2.2 r2 r3 r4 r5 r6 r7 HK.out.2.1
      clear r1 r2 r3 r4 r5 r6 r7 x0 x1 x2 x3 x4 x5 x6 x7 x8 x9 x10 x11 x12 cD HK HC HN
      go_wp2
      refine ⟨⟨i + 1, hlt, ?_, HE2.out⟩, ?_⟩
      · go_num
      · simp [intOf]
        omega
    · obtain rfl : i = LD.length := by omega
      obtain ⟨hXe, hYe⟩ := bk_end m3 (Nat.le_refl _)
      have hYs := hYe.symm
      subst hYs
      have hIX := m2 wr (grown_of_below (Below.refl _ _) _)
      obtain ⟨a5, c5, hv5, _⟩ := (m2 wr (grown_of_below (Below.refl _ _) _)).1
      obtain ⟨a6, c6, hv6, _⟩ := (m2 wr (grown_of_below (Below.refl _ _) _)).2
      subst hv5 hv6
      have hBr : Below W1.heap.size W1 wr := below_grown HB4.out.1 m5 HB4.out.1.size (fun k hk => by injection hk with hk; subst hk; exact HB4.out.2)
      have hbr := on1K HB1.out hBr (Nat.le_refl _)
      obtain ⟨r60, r120, _, _⟩ := gErr_lens m4
      obtain ⟨s60, s120, _, _⟩ := gErr_lens g2
      have cS := same_eq hIX.1 hIX.2 (HG.out.2.2.1.on hbr) (HG.out.2.2.2.1.on hbr) hXe m4 g2 (fun n hn => by have := gErr_rc8 m4 n hn; omega) (gErr_sz m4).1 (gErr_sz m4).2 zM r60 s60 r120
      obtain ⟨x0, x1, x2, x3⟩ := HX.out wr hBr
      have p0 := cell_at (i := 0) m1 rfl
      have p1 := cell_at (i := 1) m1 rfl
      have HBr := Lib.hid hBr
      clear m1 m2 m3 m4 m5 hIX hXe hBr hbr r60 r120 s60 s120 HS HO HZ HB4 hlen v0 v1 v2 v3
      go_wp2_with (first | (go_at_call 7; refine cS.mono ?_; rintro e Wt ⟨rfl, hB9⟩; refine Hid.out ?_))
      refine Lib.hid ?_
      have hBt := on1K HBr.out hB9 (Nat.le_refl _)
      clear cS hB9 HBr p0 p1
      clear x0 x1 x2 x3
      obtain ⟨x0, x1, x2, x3⟩ := HX.out Wt hBt
      have hbt := on1K HB1.out hBt (Nat.le_refl _)
      have HBt := Lib.hid hBt
      by_cases hA : AllOk N T L
      · have cA := all_yes (HG.out.1.on hbt) (HG.out.2.1.on hbt) zN zT (HG.out.2.2.2.2.on hbt) zL hA
        have hgT := hA.2.1
        clear hBt hbt
        go_wp2_with (first | (go_at_call 8; refine cA.mono ?_; rintro e W6 ⟨ga, gl, gc, ta, tl, tc, MA, rfl, q1, q2, q3, q4, hB6⟩; refine Hid.out ?_))
        refine Lib.hid ?_
        have hBx : Below W6.heap.size W6 (W6.alloc (.cells #[.slice ga gl gc, .slice ta tl tc] 25)) := b_alloc (Below.refl _ _) _
        have hB7 := on1K (on1K HBt.out hB6 (Nat.le_refl _)) hBx (Nat.le_refl _)
        have hbw7 := on1K HB1.out hB7 (Nat.le_refl _)
        have cT := turn_yes between_any (HG.out.1.on hbw7) (HG.out.2.1.on hbw7) zN zT (HG.out.2.2.2.2.on hbw7) zL hA
        obtain ⟨y0, y1, y2, y3⟩ := HX.out _ hB7
        have h76 := heap_alloc_new W6 (.cells #[.slice ga gl gc, .slice ta tl tc] 25)
        have HM : Hid (cN MA = (opS.res L (cN N) T).1 ∧ OwnNs W6 Wt.heap.size (.slice ga gl gc) MA ∧ OwnTs W6 Wt.heap.size (.slice ta tl tc) (opS.res L (cN N) T).2 ∧ gErr MA (opS.res L (cN N) T).2 = 0 ∧ Below W6.heap.size W6 (W6.alloc (.cells #[.slice ga gl gc, .slice ta tl tc] 25)) ∧ (W6.alloc (.cells #[.slice ga gl gc, .slice ta tl tc] 25)).heap[W6.heap.size]? = some (.cells #[.slice ga gl gc, .slice ta tl tc] 25 (0, 0)) ∧ Below W1.heap.size W1 (W6.alloc (.cells #[.slice ga gl gc, .slice ta tl tc] 25)) ∧ W1.heap.size ≤ W6.heap.size) := ⟨q1, q2, q3, q4, hBx, h76, hB7, (on1K HBt.out hB6 (Nat.le_refl _)).size⟩
        clear q1 q2 q3 q4 hBx hB7 hbw7 h76 cA hB6 x0 x1 x2 x3
        generalize hVV : (opS.res L (cN N) T).2 = VV at *
        generalize hRR : (opS.res L (cN N) T).1 = RR at *
        clear hVV hRR hA
        go_wp2_with (first | (go_at_call 9; refine cT.mono ?_; rintro e W8 ⟨MT, u1, u2, aob, cb, LT, rfl, hOb, hmb, hB8⟩; refine Hid.out ?_))
        refine Lib.hid ?_
        obtain ⟨q1, q2, q3, q4, hBx, h76, hB7, hq6⟩ := HM.out
        have h86 := (hB8.block _ (Array.getElem?_eq_some_iff.1 h76).1).trans h76
        have HS : Hid (BkI W8 LT (cN N) T W6.heap.size 0 W8) := by
          have hx8 := on1K hBx hB8 (Nat.le_refl _)
          exact bk_startO (q2.kt (.of_below hx8) (.of_below hx8)) (q3.kt (.of_below hx8)) q4 h86 (by rw [hmb, q1, ← u1]; exact dif_runs u2 hgT)
        have HO := Lib.hid (And.intro hOb h86)
        have HZ := Lib.hid (map_sz hmb (difO_sz u2 hgT))
        have hlen : LT.length ≤ 40000 := by rw [map_len hmb]; exact difO_len u2 hgT
        have HB8 : Hid (Below W1.heap.size W1 W8 ∧ W1.heap.size ≤ W6.heap.size) := ⟨on1K hB7 hB8 (Nat.le_refl _), hq6⟩
        obtain ⟨v0, v1, v2, v3⟩ := HX.out W8 HB8.out.1
        clear q1 q2 q3 q4 hBx h76 hB7 hq6 h86 hOb hmb hB8 u1 u2 HM cT y0 y1 y2 y3
        go_wp2
        go_loopw [22] (fun s wr => ∃ i : Nat, i ≤ LT.length ∧ s = .int .i64 i ∧ BkI W8 LT (cN N) T W6.heap.size i wr) (fun s _ => LT.length - (intOf s).toNat)
        case atStart => exact ⟨0, Nat.zero_le _, rfl, HS.out⟩
        case round =>
          obtain ⟨i, hi, rfl, hM⟩ := hrel
          obtain ⟨xn, xt, X, Y, m1, m2, m3, m4, m5⟩ := hM
          by_cases hlt : i < LT.length
          · obtain ⟨o, ho⟩ : ∃ o, LT[i]? = some o := ⟨LT[i], by simp [hlt]⟩
            obtain ⟨b, c', hv, hb, hcl, hR⟩ := ops_at (own_grown HO.out.1 HO.out.2 m5) ho
            injection hv with hv1 hv2 hv3
            subst hv1
            clear hv2 hv3
            obtain ⟨e0, hnx⟩ := bk_next m3 ho
            have zo := HZ.out o (List.mem_of_getElem? ho)
            have cD := fun W (hB : Below wr.heap.size wr W) => do_yes (m2 W (grown_of_below hB _)).1 (m2 W (grown_of_below hB _)).2 m4 (hR.on hB) zo e0
            obtain ⟨a5, c5, hv5, _⟩ := (m2 wr (grown_of_below (Below.refl _ _) _)).1
            obtain ⟨a6, c6, hv6, _⟩ := (m2 wr (grown_of_below (Below.refl _ _) _)).2
            subst hv5 hv6
            have hqw : W6.heap.size < wr.heap.size := (Array.getElem?_eq_some_iff.1 m1).1
            have HC : Hid (∀ W, Below wr.heap.size wr W → Rd W W6.heap.size b (i * 11) (.slice a5 X.length c5) (.slice a6 Y.length c6) o) := fun W hB => rd_of ((hB.block _ hqw).trans m1) (fun j u hu => hcl W hB j u hu)
            obtain ⟨av, lv, cv, hov⟩ := hR.sl
            generalize hX2 : opM o (cN X) Y = X2 at *
            generalize hY2 : opT o (cN X) Y = Y2 at *
            clear hX2 hY2 e0 zo hcl hR ho m3 m4
            obtain ⟨wh, ⟨id, kd, rv, rc⟩, ⟨nm, pt, pn, ps⟩, ⟨bd, fr, tt⟩⟩ := o
            simp only at hov
            subst hov
            have HK : Hid (wr.heap[W6.heap.size]? = some (.cells #[.slice a5 X.length c5, .slice a6 Y.length c6] 25 (0, 0)) ∧ W8.grownBy wr (some W6.heap.size) ∧ Runs ((LT.drop (i + 1)).map Opx.c) X2 Y2 (cN N) T) := ⟨m1, m5, hnx⟩
            obtain ⟨x0, x1, x2, x3, x4, x5, x6, x7, x8, x9, x10, x11, x12⟩ := HC.out wr (Below.refl _ _)
            simp only at x2 x3 x4 x5 x6 x7 x8 x9 x10 x11 x12
            have hbw : b < wr.heap.size := hb
            have hn1 : ¬ wr.heap.size = b := by omega
            have hn2 : ¬ wr.heap.size = W6.heap.size := by omega
            have hn3 : W6.heap.size ≠ wr.heap.size := by omega
            have HN : Hid (∀ W, Below wr.heap.size wr W → ¬ W.heap.size = b ∧ ¬ W.heap.size = W6.heap.size) := fun W hB => by have := hB.size; omega
            clear m1 m2 m5 hnx
            go_upto_region 27 with fail
            go_cut [23, 24] (fun s t wx => EmC wr (.slice a5 X.length c5) (.slice a6 Y.length c6) X2 Y2 W6.heap.size s t wx)
            case first =>
              first | (go_region_held3 (fun w' => w'.cell? ⟨W6.heap.size, 0, none⟩ = some (.slice a5 X.length c5) ∧ w'.cell? ⟨W6.heap.size, 1, none⟩ = some (.slice a6 Y.length c6) ∧ w'.cell? ⟨b, i * 11, none⟩ = some (.int .i64 wh) ∧ w'.cell? ⟨b, i * 11 + 1, none⟩ = some (.int .i64 id) ∧ w'.cell? ⟨b, i * 11 + 2, none⟩ = some (.string kd) ∧ w'.cell? ⟨b, i * 11 + 3, none⟩ = some (.slice av lv cv) ∧ w'.cell? ⟨b, i * 11 + 4, none⟩ = some (.string nm) ∧ w'.cell? ⟨b, i * 11 + 5, none⟩ = some (.int .i64 pt) ∧ w'.cell? ⟨b, i * 11 + 6, none⟩ = some (.int .i64 pn) ∧ w'.cell? ⟨b, i * 11 + 7, none⟩ = some (.string ps) ∧ w'.cell? ⟨b, i * 11 + 8, none⟩ = some (.string bd) ∧ w'.cell? ⟨b, i * 11 + 9, none⟩ = some (.int .i64 fr) ∧ w'.cell? ⟨b, i * 11 + 10, none⟩ = some (.int .i64 tt)) (go_keep) (first | (go_at_call 6; refine (cD _ (by first | exact b_drew (Below.refl _ wr) | exact b_alloc (b_drew (Below.refl _ wr)) _)).mono ?_; rintro e D2 ⟨yn, yt, M2, rfl, ⟨hM2, hO2, hT2, hg2⟩, hB2'⟩; obtain ⟨a7, c7, hv7⟩ := own_slice hO2.1; obtain ⟨a8, c8, hv8⟩ := own_slice hT2; subst hv7 hv8; have hb2 : Hid (Below wr.heap.size wr D2) := on1K (by first | exact b_drew (Below.refl _ wr) | exact b_alloc (b_drew (Below.refl _ wr)) _) hB2' (Nat.le_refl _); obtain ⟨z0, z1, z2, z3, z4, z5, z6, z7, z8, z9, z10, z11, z12⟩ := HC.out D2 hb2.out; simp only at z2 z3 z4 z5 z6 z7 z8 z9 z10 z11 z12; have hn5 := HN.out D2 hb2.out; (try (have kb : D2.heap[wr.heap.size]? = some (.cells #[.slice none 0 0, .slice none 0 0] 25 (0, 0)) := (hB2'.block _ (by simp)).trans (heap_alloc_new wr.drew _); have y5 : D2.cell? ⟨wr.heap.size, 0, none⟩ = some (.slice none 0 0) := cell_at kb rfl; have y6 : D2.cell? ⟨wr.heap.size, 1, none⟩ = some (.slice none 0 0) := cell_at kb rfl; have f5 : D2.frozen? ⟨wr.heap.size, 0, none⟩ = false := frz_at kb; have f6 : D2.frozen? ⟨wr.heap.size, 1, none⟩ = false := frz_at kb; replace kb := Lib.hid kb)); clear hB2'; have HP := Lib.hid (And.intro hM2 (And.intro hO2 (And.intro hT2 hg2))); clear hM2 hO2 hT2 hg2))) | fail
              all_goals
                go_wp2
                go_meet
                have hq5 := (hb2.out.block _ hqw).trans HK.out.1
                first
                  | with_reducible exact emC_alloc HP.out.2.1 HP.out.2.2.1 HP.out.1 HP.out.2.2.2 hq5 hb2.out
                  | with_reducible exact emC_set kb.out hn3 (Nat.le_refl _) HP.out.2.1 HP.out.2.2.1 HP.out.1 HP.out.2.2.2 hq5 hb2.out
            case rest =>
            obtain ⟨p2, yn, yt, M2, rfl, rfl, r1, r2, r3, r4, r5, r6, r7⟩ := hcut
            obtain ⟨a7, c7, hv7⟩ := own_slice r2.1
            obtain ⟨a8, c8, hv8⟩ := own_slice r3
            subst hv7 hv8
            have z0 : wc.cell? ⟨p2, 0, none⟩ = some (.slice a7 M2.length c7) := cell_at r1 rfl
            have z1 : wc.cell? ⟨p2, 1, none⟩ = some (.slice a8 Y2.length c8) := cell_at r1 rfl
            have t0 : wc.cell? ⟨W6.heap.size, 0, none⟩ = some (.slice a5 X.length c5) := cell_at r6 rfl
            have t1 : wc.cell? ⟨W6.heap.size, 1, none⟩ = some (.slice a6 Y.length c6) := cell_at r6 rfl
            have f0 : wc.frozen? ⟨W6.heap.size, 0, none⟩ = false := frz_at r6
            have f1 : wc.frozen? ⟨W6.heap.size, 1, none⟩ = false := frz_at r6
            have HE2 : Hid (BkI W8 LT (cN N) T W6.heap.size (i + 1) ((wc.setCell ⟨W6.heap.size, 0, none⟩ (.slice a7 M2.length c7)).setCell ⟨W6.heap.size, 1, none⟩ (.slice a8 Y2.length c8))) := bk_step HK.out.2.2 r2 r3 r4 r5 r6 r7 HK.out.2.1
            clear r1 r2 r3 r4 r5 r6 r7 x0 x1 x2 x3 x4 x5 x6 x7 x8 x9 x10 x11 x12 cD HK HC HN
            go_wp2
            refine ⟨⟨i + 1, hlt, ?_, HE2.out⟩, ?_⟩
            · go_num
            · simp [intOf]
              omega
          · obtain rfl : i = LT.length := by omega
            obtain ⟨hXe, hYe⟩ := bk_end m3 (Nat.le_refl _)
            have hYs := hYe.symm
            subst hYs
            have hIX := m2 wr (grown_of_below (Below.refl _ _) _)
            obtain ⟨a5, c5, hv5, _⟩ := (m2 wr (grown_of_below (Below.refl _ _) _)).1
            obtain ⟨a6, c6, hv6, _⟩ := (m2 wr (grown_of_below (Below.refl _ _) _)).2
            subst hv5 hv6
            have hBr : Below W1.heap.size W1 wr := below_grown HB8.out.1 m5 HB8.out.1.size (fun k hk => by injection hk with hk; subst hk; exact HB8.out.2)
            have hbr := on1K HB1.out hBr (Nat.le_refl _)
            obtain ⟨r60, r120, _, _⟩ := gErr_lens m4
            obtain ⟨s60, s120, _, _⟩ := gErr_lens hgT
            have cS := same_eq hIX.1 hIX.2 (HG.out.1.on hbr) (HG.out.2.1.on hbr) hXe m4 hgT (fun n hn => by have := gErr_rc8 m4 n hn; omega) (gErr_sz m4).1 (gErr_sz m4).2 zN r60 s60 r120
            obtain ⟨y0, y1, y2, y3⟩ := HX.out wr hBr
            have p0 := cell_at (i := 0) m1 rfl
            have p1 := cell_at (i := 1) m1 rfl
            clear m1 m2 m3 m4 m5 hIX hXe hBr r60 r120 s60 s120 v0 v1 v2 v3
            go_wp2_with (first | (go_at_call 7; refine cS.mono ?_; rintro e W9 ⟨rfl, hB9⟩))
            go_ret
            exact ⟨rfl, on1K hbr hB9 (Nat.le_refl _)⟩
      · have cA := all_no (HG.out.1.on hbt) (HG.out.2.1.on hbt) zN zT lN lT (HG.out.2.2.2.2.on hbt) zL lL hA
        clear hBt hA
        go_wp2_with (first | (go_at_call 8; refine cA.mono ?_; rintro e W6 ⟨k6, z6, hz6, rfl, hB6⟩))
        go_ret
        exact ⟨rfl, b_alloc (on1K hbt hB6 (Nat.le_refl _)) _⟩
end Go.Proofs.Ytidmfdbckpficaa
