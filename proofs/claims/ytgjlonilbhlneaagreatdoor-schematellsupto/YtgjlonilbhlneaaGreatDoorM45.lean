/-
  The walk of the law SchemaTells: a right schema, a bond of the name found, a kind of it found.
-/
import Derived.Test.YtgjlonilbhlneaaGreatDoorM43
import Derived.Deep.RegionHeld3
import Derived.Deep.QuietTactic
import Derived.BigQuiet
namespace Go.Proofs.YtgjlonilbhlneaaGreatDoor
open Go.RowKit
set_option linter.unusedVariables false
set_option linter.unusedSimpArgs false

set_option maxHeartbeats 16000000 in
set_option maxRecDepth 100000 in
theorem tells_g11 {vk vb : Value} {L : List Kd} {B : List Bd} {t s : Nm} {w : World} (hK : IsK w vk L) (hP : Parts w L) (hz : SzK L) (hb : IsB w vb B) (hzb : SzB B) (ht : t.length ≤ 10000000) (hE : EV w) (hH : Hnd w) (hse : (sErr L B).2 = 0) {j : Nat} {x : Bd} (hbi : idxB s B 0 = (j : Int)) (hbx : B[j]? = some x) {i : Nat} {q : Kd} (hki : idxK s L 0 = (i : Int)) (hkq : L[i]? = some q) (hqn : q.nm = s) :
    Calls Tryz.prog 3 #[.agg #[vk, vb], .string (bs t), .string (bs s)] w fun e w' => e = .returned (.bool true) ∧ Below w.heap.size w w' := by
  obtain ⟨at', zz, P0, B0, hSm, cRd, cPs⟩ := both_read t ht
  obtain ⟨W0, hW0⟩ : ∃ W0, W0 = w.alloc (.cells #[vk, vb] 25) := ⟨_, rfl⟩
  have hB0 : Below w.heap.size w W0 := by rw [hW0]; exact b_alloc (Below.refl _ _) (Nat.le_refl _) _
  have n0 : W0.heap[w.heap.size]? = some (.cells #[vk, vb] 25 (0, 0)) := by rw [hW0]; exact heap_alloc_new w _
  have HBw : Hid (∀ W, Below W0.heap.size W0 W → Below w.heap.size w W) := fun W h => on1 hB0 h (Nat.le_refl _)
  have HX : Hid (∀ W, Below W0.heap.size W0 W → W.cell? ⟨w.heap.size, 0, none⟩ = some vk ∧ W.cell? ⟨w.heap.size, 1, none⟩ = some vb) := fun W h => ⟨cellB ((h.block _ (Array.getElem?_eq_some_iff.1 n0).1).trans n0) rfl, cellB ((h.block _ (Array.getElem?_eq_some_iff.1 n0).1).trans n0) rfl⟩
  have HZ0 : Hid (w.heap.size < W0.heap.size) := (Array.getElem?_eq_some_iff.1 n0).1
  obtain ⟨ak, ck, evk, _⟩ := hK.sln
  obtain ⟨ab, cb, evb, hbl⟩ := hb.sln
  subst evk evb
  have HHd : Hid (∀ W, Below W0.heap.size W0 W → Hnd W) := fun W h => (on1 hB0 h (Nat.le_refl _)).cell (p := ⟨0, 0, none⟩) (World.block_lt_of_cell? w _ hH) |>.trans hH
  have c5 := Lib.hid (fun W (h : Below W0.heap.size W0 W) => rschema_any (hK.on (HBw.out W h)) (hP.on (HBw.out W h)) hz (hb.on (HBw.out W h)) hzb)
  have c6 := Lib.hid (fun W (h : Below W0.heap.size W0 W) => scheck_any (hK.on (HBw.out W h)) (hP.on (HBw.out W h)) hz (hb.on (HBw.out W h)) hzb)
  have c7 := Lib.hid (fun (x : Int) W (h : Below W0.heap.size W0 W) => error_any x W (HHd.out W h))
  have c11 := Lib.hid (fun W (h : Below W0.heap.size W0 W) => cPs W (hE.on (HBw.out W h)))
  have c14 := Lib.hid (fun W (h : Below W0.heap.size W0 W) => sbond_any s (hK.on (HBw.out W h)) (hP.on (HBw.out W h)) hz (hb.on (HBw.out W h)) hzb)
  have c17 := Lib.hid (fun W (h : Below W0.heap.size W0 W) => sfrom_any s (hK.on (HBw.out W h)) (hP.on (HBw.out W h)) hz (hb.on (HBw.out W h)) hzb)
  have HG : Hid (IsK w (.slice ak L.length ck) L ∧ Parts w L ∧ IsB w (.slice ab B.length cb) B) := ⟨hK, hP, hb⟩
  obtain ⟨who, hwho⟩ : ∃ who, who = (sErr L B).1 := ⟨_, rfl⟩
  obtain ⟨hks, hGB, hB12⟩ := sErr_good.1 hse
  obtain ⟨hGd, hL12⟩ := ksErr_good.1 hks
  have c8 := Lib.hid (fun W (h : Below W0.heap.size W0 W) => stext_any (HG.out.1.on (HBw.out W h)) (HG.out.2.1.on (HBw.out W h)) (HG.out.2.2.on (HBw.out W h)) hse)
  have c9 := Lib.hid (fun W (h : Below W0.heap.size W0 W) => sprint_ok (HG.out.1.on (HBw.out W h)) (HG.out.2.1.on (HBw.out W h)) hz (HG.out.2.2.on (HBw.out W h)) hzb (hE.on (HBw.out W h)).tw hse)
  have c70 : ∀ W (h : Below W0.heap.size W0 W), Calls Tryz.prog 7 #[.nilIface, .int .i64 0] W fun e w' => e = .returned (.bool true) ∧ Below W.heap.size W w' := fun W h => c7.out 0 W h
  have c13 := Lib.hid (fun W (h : Below W0.heap.size W0 W) => rbond_any (HG.out.2.2.on (HBw.out W h)) hB12 s)
  have c15 := Lib.hid (fun W (h : Below W0.heap.size W0 W) => rkind_any (HG.out.1.on (HBw.out W h)) hL12 s)
  rw [hbi] at c13
  rw [hki] at c15
  have hbt : bdTell L B s = (x, 0) := by
    unfold bdTell bdAt
    rw [if_pos hse, hbi, if_neg (by omega), Int.toNat_natCast, hbx]
  rw [hbt] at c14
  obtain ⟨bb, ob, rfl, hbbl, y0, y1, y2, y3, y4⟩ := isB_at HG.out.2.2 j x hbx
  have hjB : j < B.length := (List.getElem?_eq_some_iff.1 hbx).1
  have hfe : frE L B s = 0 := by unfold frE nmErr; rw [if_pos hse, if_pos hks, hki, if_neg (by omega)]
  have HKn : Hid (nms (kin L s) = nms (kinF L s)) := by
    show _ = _
    unfold kin nmAt
    rw [hki, Int.toNat_natCast, kinOf_at hGd.right hkq, hqn]
    rfl
  have c16 := Lib.hid (fun W (h : Below W0.heap.size W0 W) (s' : Nm) => ris_at (HG.out.1.on (HBw.out W h)) (HG.out.2.1.on (HBw.out W h)) hGd.small hL12 hGd.right hkq s')
  rw [hqn] at c16
  have HFe := Lib.hid hfe
  have hB12' : (B.length : Int) ≤ 12 := by omega
  obtain ⟨TT, hTT⟩ : ∃ TT, TT = sText L B := ⟨_, rfl⟩
  rw [← hTT] at c8 c9
  rw [← hwho, hse] at c5 c6
  clear hfe hbt hwho hTT hse hks hGB hGd hL12 hbl
  clear hki hkq hqn
  clear hbi
  go_enter Tryz.func3, Tryz.ntmps3
  go_upto_region 1 with fail
  rw [← hW0]
  clear hW0 hB0 n0 hK hP hb hE hH cPs
  obtain ⟨x0, x1⟩ := HX.out W0 (Below.refl _ _)
  go_wp2_with (first | (go_at_call 5; refine (c5.out _ (Below.refl _ _)).mono ?_; rintro e W1 ⟨rfl, hb1⟩; refine Hid.out ?_))
  refine Lib.hid ?_
  have hBW1 := on1 (Below.refl _ _) hb1 (Nat.le_refl _)
  obtain ⟨x0W1, x1W1⟩ := HX.out W1 hBW1
  clear hb1
  go_wp2_with (first | (go_at_call 6; refine (c6.out _ hBW1).mono ?_; rintro e W2 ⟨rfl, hb1⟩; refine Hid.out ?_))
  refine Lib.hid ?_
  have hBW2 := on1 hBW1 hb1 (Nat.le_refl _)
  obtain ⟨x0W2, x1W2⟩ := HX.out W2 hBW2
  clear hb1
  clear x0 x1 x0W1 x1W1
  go_wp2_with (first | (go_at_call 7; refine (c7.out 0 _ hBW2).mono ?_; rintro e W3 ⟨rfl, hb1⟩; refine Hid.out ?_))
  refine Lib.hid ?_
  have hBW3 := on1 hBW2 hb1 (Nat.le_refl _)
  obtain ⟨x0W3, x1W3⟩ := HX.out W3 hBW3
  clear hb1
  clear x0W2 x1W2
  go_wp2_with (first | (go_at_call 8; refine (c8.out _ hBW3).mono ?_; rintro e W4 ⟨rfl, hb1⟩; refine Hid.out ?_))
  refine Lib.hid ?_
  have hBW4 := on1 hBW3 hb1 (Nat.le_refl _)
  obtain ⟨x0W4, x1W4⟩ := HX.out W4 hBW4
  clear hb1
  clear x0W3 x1W3
  go_wp2_with (first | (go_at_call 9; refine (c9.out _ hBW4).mono ?_; rintro e W5 ⟨rfl, hb1⟩; refine Hid.out ?_))
  refine Lib.hid ?_
  have hBW5 := on1 hBW4 hb1 (Nat.le_refl _)
  obtain ⟨x0W5, x1W5⟩ := HX.out W5 hBW5
  clear hb1
  clear x0W4 x1W4
  go_wp2_with (first | (go_at_call 7; refine (c70 _ hBW5).mono ?_; rintro e W6 ⟨rfl, hb1⟩; refine Hid.out ?_))
  refine Lib.hid ?_
  have hBW6 := on1 hBW5 hb1 (Nat.le_refl _)
  obtain ⟨x0W6, x1W6⟩ := HX.out W6 hBW6
  clear hb1
  clear x0W5 x1W5
  go_wp2_with (first | (go_at_call 10; refine (cRd _).mono ?_; rintro e W7 ⟨a1, m1, c1, a2, m2, c2, rfl, hsx, hb1⟩; refine Hid.out ?_))
  refine Lib.hid ?_
  have hBW7 := on1 hBW6 hb1 (Nat.le_refl _)
  obtain ⟨x0W7, x1W7⟩ := HX.out W7 hBW7
  clear hb1
  clear x0W6 x1W6 x0W7 x1W7
  have hBW7a : Below W0.heap.size W0 (W7.alloc (.cells #[.slice a1 m1 c1, .slice a2 m2 c2] 25)) := on1 hBW7 (b_alloc (Below.refl _ _) (Nat.le_refl _) _) (Nat.le_refl _)
  have nW7a : (W7.alloc (.cells #[.slice a1 m1 c1, .slice a2 m2 c2] 25)).heap[W7.heap.size]? = some (.cells #[.slice a1 m1 c1, .slice a2 m2 c2] 25 (0, 0)) := heap_alloc_new _ _
  obtain ⟨W7a, hW7a⟩ : ∃ X, X = W7.alloc (.cells #[.slice a1 m1 c1, .slice a2 m2 c2] 25) := ⟨_, rfl⟩
  rw [← hW7a] at hBW7a nW7a
  have HW7a := Lib.hid hW7a
  clear hW7a
  have hsx := hsx.on (show Below W7.heap.size W7 W7a by rw [HW7a.out]; exact b_alloc (Below.refl _ _) (Nat.le_refl _) _)
  go_upto_region 10 with fail
  rw [← HW7a.out]
  go_wp2_with (first | (go_at_call 11; refine (c11.out _ hBW7a).mono ?_; rintro e W8 ⟨d1, k1, e1, d2, k2, e2, rfl, hsy, hb1⟩; refine Hid.out ?_))
  refine Lib.hid ?_
  have hsx := hsx.on hb1
  have hx8 := (hb1.block _ (Array.getElem?_eq_some_iff.1 nW7a).1).trans nW7a
  have hBW8 := on1 hBW7a hb1 (Nat.le_refl _)
  obtain ⟨x0W8, x1W8⟩ := HX.out W8 hBW8
  clear hb1
  clear x0W8 x1W8 nW7a
  have hBW8a : Below W0.heap.size W0 (W8.alloc (.cells #[.slice d1 k1 e1, .slice d2 k2 e2] 25)) := on1 hBW8 (b_alloc (Below.refl _ _) (Nat.le_refl _) _) (Nat.le_refl _)
  have nW8a : (W8.alloc (.cells #[.slice d1 k1 e1, .slice d2 k2 e2] 25)).heap[W8.heap.size]? = some (.cells #[.slice d1 k1 e1, .slice d2 k2 e2] 25 (0, 0)) := heap_alloc_new _ _
  obtain ⟨W8a, hW8a⟩ : ∃ X, X = W8.alloc (.cells #[.slice d1 k1 e1, .slice d2 k2 e2] 25) := ⟨_, rfl⟩
  rw [← hW8a] at hBW8a nW8a
  have HW8a := Lib.hid hW8a
  clear hW8a
  have hb8 : Below W8.heap.size W8 W8a := by rw [HW8a.out]; exact b_alloc (Below.refl _ _) (Nat.le_refl _) _
  have hsx := hsx.on hb8
  have hsy := hsy.on hb8
  have hx8 := (hb8.block _ (Array.getElem?_eq_some_iff.1 hx8).1).trans hx8
  clear hb8
  go_upto_region 11 with fail
  rw [← HW8a.out]
  go_wp2_with (first | (go_at_call 7; refine (c7.out zz _ hBW8a).mono ?_; rintro e W9 ⟨rfl, hb1⟩; refine Hid.out ?_))
  refine Lib.hid ?_
  have hsx := hsx.on hb1
  have hsy := hsy.on hb1
  have hx8 := (hb1.block _ (Array.getElem?_eq_some_iff.1 hx8).1).trans hx8
  have hy8 := (hb1.block _ (Array.getElem?_eq_some_iff.1 nW8a).1).trans nW8a
  have hBW9 := on1 hBW8a hb1 (Nat.le_refl _)
  obtain ⟨x0W9, x1W9⟩ := HX.out W9 hBW9
  clear hb1
  have p0 := cellB (i := 0) hx8 rfl
  have p1 := cellB (i := 1) hx8 rfl
  have q0 := cellB (i := 0) hy8 rfl
  have q1 := cellB (i := 1) hy8 rfl
  have c12 := sc_same hsy hsx hSm
  clear hx8 hy8 hsx hsy nW8a x0W9 x1W9
  go_wp2_with (first | (go_at_call 12; refine (c12).mono ?_; rintro e W10 ⟨rfl, hb1⟩; refine Hid.out ?_))
  refine Lib.hid ?_
  have hBW10 := on1 hBW9 hb1 (Nat.le_refl _)
  obtain ⟨x0W10, x1W10⟩ := HX.out W10 hBW10
  clear hb1
  clear p0 p1 q0 q1 c12
  have hBWb : Below W0.heap.size W0 (W10.alloc (.cells #[.string ⟨#[]⟩, .string ⟨#[]⟩, .string ⟨#[]⟩, .int .i64 0, .int .i64 0] 40)) := on1 hBW10 (b_alloc (Below.refl _ _) (Nat.le_refl _) _) (Nat.le_refl _)
  have nWb : (W10.alloc (.cells #[.string ⟨#[]⟩, .string ⟨#[]⟩, .string ⟨#[]⟩, .int .i64 0, .int .i64 0] 40)).heap[W10.heap.size]? = some (.cells #[.string ⟨#[]⟩, .string ⟨#[]⟩, .string ⟨#[]⟩, .int .i64 0, .int .i64 0] 40 (0, 0)) := heap_alloc_new _ _
  obtain ⟨Wb, hWb⟩ : ∃ X, X = W10.alloc (.cells #[.string ⟨#[]⟩, .string ⟨#[]⟩, .string ⟨#[]⟩, .int .i64 0, .int .i64 0] 40) := ⟨_, rfl⟩
  rw [← hWb] at hBWb nWb
  have HWb := Lib.hid hWb
  clear hWb
  obtain ⟨x0Wb, x1Wb⟩ := HX.out Wb hBWb
  clear x0W10 x1W10
  go_upto_region 15 with fail
  rw [← HWb.out]
  have hbwb := HBw.out Wb hBWb
  have y0 := (hbwb.cell (p := ⟨bb, ob + j * 5, none⟩) hbbl).trans y0
  have y1 := (hbwb.cell (p := ⟨bb, ob + j * 5 + 1, none⟩) hbbl).trans y1
  have y2 := (hbwb.cell (p := ⟨bb, ob + j * 5 + 2, none⟩) hbbl).trans y2
  have y3 := (hbwb.cell (p := ⟨bb, ob + j * 5 + 3, none⟩) hbbl).trans y3
  have y4 := (hbwb.cell (p := ⟨bb, ob + j * 5 + 4, none⟩) hbbl).trans y4
  have hjI : (j : Int) < (B.length : Int) := by omega
  have hjN : ¬ (j : Int) < 0 := by omega
  have z0 := cellB (i := 0) nWb rfl
  have z1 := cellB (i := 1) nWb rfl
  have z2 := cellB (i := 2) nWb rfl
  have z3 := cellB (i := 3) nWb rfl
  have z4 := cellB (i := 4) nWb rfl
  have v0 := frzB (i := 0) nWb
  have v1 := frzB (i := 1) nWb
  have v2 := frzB (i := 2) nWb
  have v3 := frzB (i := 3) nWb
  have v4 := frzB (i := 4) nWb
  have HW10 : Hid (Below W0.heap.size W0 W10) := hBW10
  clear hbwb
  go_upto_region 20 with (first | (go_at_call 13; refine (c13.out _ hBWb).mono ?_; rintro e w' ⟨rfl, hw⟩; have hw := hw.symm; subst hw))
  obtain ⟨Wd, hWd⟩ : ∃ X, X = ((((Wb.setCell ⟨W10.heap.size, 0, none⟩ (.string (bs x.nm))).setCell ⟨W10.heap.size, 1, none⟩ (.string (bs x.fr))).setCell ⟨W10.heap.size, 2, none⟩ (.string (bs x.tt))).setCell ⟨W10.heap.size, 3, none⟩ (.int .i64 x.mn)).setCell ⟨W10.heap.size, 4, none⟩ (.int .i64 x.mx) := ⟨_, rfl⟩
  have nWd : Wd.heap[W10.heap.size]? = some (.cells #[.string (bs x.nm), .string (bs x.fr), .string (bs x.tt), .int .i64 x.mn, .int .i64 x.mx] 40 (0, 0)) := by
    rw [hWd]
    exact (heap_setCell_same _ _ 4 _ 40 _ ((heap_setCell_same _ _ 3 _ 40 _ ((heap_setCell_same _ _ 2 _ 40 _ ((heap_setCell_same _ _ 1 _ 40 _ ((heap_setCell_same Wb _ 0 _ 40 _ nWb).trans rfl)).trans rfl)).trans rfl)).trans rfl)).trans rfl
  have hBWd : Below W0.heap.size W0 Wd := by
    rw [hWd]
    have h10 : W0.heap.size ≤ W10.heap.size := HW10.out.size
    exact ((((hBWb.setCell (p := ⟨W10.heap.size, 0, none⟩) h10 _).setCell (p := ⟨W10.heap.size, 1, none⟩) h10 _).setCell (p := ⟨W10.heap.size, 2, none⟩) h10 _).setCell (p := ⟨W10.heap.size, 3, none⟩) h10 _).setCell (p := ⟨W10.heap.size, 4, none⟩) h10 _
  rw [← hWd]
  obtain ⟨x0Wd, x1Wd⟩ := HX.out Wd hBWd
  clear hWd y0 y1 y2 y3 y4 z0 z1 z2 z3 z4 v0 v1 v2 v3 v4 x0Wb x1Wb nWb hjI hjN
  go_wp2_with (first | (go_at_call 14; refine (c14.out _ hBWd).mono ?_; rintro e W12 ⟨rfl, hb1⟩; refine Hid.out ?_))
  refine Lib.hid ?_
  have hbb := (hb1.block _ (Array.getElem?_eq_some_iff.1 nWd).1).trans nWd
  have hBW12 := on1 hBWd hb1 (Nat.le_refl _)
  obtain ⟨x0W12, x1W12⟩ := HX.out W12 hBW12
  clear hb1
  have hBWc : Below W0.heap.size W0 (W12.alloc (.cells #[.string (bs x.nm), .string (bs x.fr), .string (bs x.tt), .int .i64 x.mn, .int .i64 x.mx] 40)) := on1 hBW12 (b_alloc (Below.refl _ _) (Nat.le_refl _) _) (Nat.le_refl _)
  have nWc : (W12.alloc (.cells #[.string (bs x.nm), .string (bs x.fr), .string (bs x.tt), .int .i64 x.mn, .int .i64 x.mx] 40)).heap[W12.heap.size]? = some (.cells #[.string (bs x.nm), .string (bs x.fr), .string (bs x.tt), .int .i64 x.mn, .int .i64 x.mx] 40 (0, 0)) := heap_alloc_new _ _
  obtain ⟨Wc, hWc⟩ : ∃ X, X = W12.alloc (.cells #[.string (bs x.nm), .string (bs x.fr), .string (bs x.tt), .int .i64 x.mn, .int .i64 x.mx] 40) := ⟨_, rfl⟩
  rw [← hWc] at hBWc nWc
  have HWc := Lib.hid hWc
  clear hWc
  have hbb := ((show Below W12.heap.size W12 Wc by rw [HWc.out]; exact b_alloc (Below.refl _ _) (Nat.le_refl _) _).block _ (Array.getElem?_eq_some_iff.1 hbb).1).trans hbb
  clear x0Wd x1Wd x0W12 x1W12 nWd
  go_upto_region 21 with fail
  rw [← HWc.out]
  go_wp2_with (first | (go_at_call 7; refine (c7.out 0 _ hBWc).mono ?_; rintro e W13 ⟨rfl, hb1⟩; refine Hid.out ?_))
  refine Lib.hid ?_
  have hbb := (hb1.block _ (Array.getElem?_eq_some_iff.1 hbb).1).trans hbb
  have hcc := (hb1.block _ (Array.getElem?_eq_some_iff.1 nWc).1).trans nWc
  have hBW13 := on1 hBWc hb1 (Nat.le_refl _)
  obtain ⟨x0W13, x1W13⟩ := HX.out W13 hBW13
  clear hb1
  clear nWc
  have hiN : ¬ (i : Int) < 0 := by omega
  go_upto_region 24 with (first | (go_at_call 15; refine (c15.out _ hBW13).mono ?_; rintro e w' ⟨rfl, hw⟩; have hw := hw.symm; subst hw))
  go_wp2
  obtain ⟨i9, hi9, hz90, hz91, hz92⟩ := info_parts info9
  have VB := Lib.hid (isB_at HG.out.2.2)
  obtain ⟨KK, hKK⟩ : ∃ KK, KK = nms (kinF L s) := ⟨_, rfl⟩
  rw [← hKK] at c16 HKn
  clear hKK
  clear x0W13 x1W13
  go_loopw [26, 27] (fun f i wr => ∃ k : Nat, k ≤ B.length ∧ i = .int .i64 k ∧ wr.ownsRow W13.heap.size 9 1 f (frN KK (B.take k)).length (cellsS (frN KK (B.take k))) ∧ Below W13.heap.size W13 wr) (fun _ i _ => B.length - (intOf i).toNat)
  case atStart => exact ⟨0, Nat.zero_le _, rfl, World.ownsRow_nil _ _ _ _, Below.refl _ _⟩
  case round =>
    obtain ⟨k, hk, rfl, hrow, hBr⟩ := hrel
    have hBWr := on1 hBW13 hBr (Nat.le_refl _)
    obtain ⟨x0r, x1r⟩ := HX.out wr hBWr
    obtain ⟨af, cf, rfl⟩ := own_slice hrow
    by_cases hlt : k < B.length
    · obtain ⟨p, hp⟩ : ∃ p, B[k]? = some p := ⟨B[k], by simp [hlt]⟩
      obtain ⟨bk, ok', eab, hbk, r0, r1, r2, r3, r4⟩ := VB.out k p hp
      injection eab with eab
      injection eab with eab1 eab2 _
      have eab1 := eab1.symm
      have eab2 := eab2.symm
      subst eab1 eab2
      have hbwr := HBw.out wr hBWr
      have r0 := (hbwr.cell (p := ⟨bk, ok' + k * 5, none⟩) hbk).trans r0
      have r1 := (hbwr.cell (p := ⟨bk, ok' + k * 5 + 1, none⟩) hbk).trans r1
      have hkI : (k : Int) < (B.length : Int) := by omega
      have HRw : Hid (wr.ownsRow W13.heap.size 9 1 (.slice af (frN KK (B.take k)).length cf) (frN KK (B.take k)).length (cellsS (frN KK (B.take k))) ∧ Below W13.heap.size W13 wr ∧ bk < wr.heap.size) := ⟨hrow, hBr, Nat.lt_of_lt_of_le hbk hbwr.size⟩
      have HFl : Hid ((frN KK (B.take k)).length ≤ 12) := by
        unfold frN
        have := List.length_filter_le (fun x => hasN KK x.fr) (B.take k)
        simp only [List.length_map, List.length_take] at this ⊢
        show _ ≤ _
        omega
      have HPp := Lib.hid hp
      have c16k := c16.out wr.drew (b_drew1 hBWr) p.fr
      have HCl : Hid (∀ W2, Below wr.drew.heap.size wr.drew W2 → W2.cell? ⟨w.heap.size, 0, none⟩ = some (.slice ak L.length ck) ∧ W2.cell? ⟨w.heap.size, 1, none⟩ = some (.slice (some ⟨bk, ok', none⟩) B.length cb) ∧ W2.cell? ⟨bk, ok' + k * 5 + 1, none⟩ = some (.string (bs p.fr))) := fun W2 h2 => ⟨(HX.out W2 (on1 hBWr (b_undrew2 h2) (Nat.le_refl _))).1, (HX.out W2 (on1 hBWr (b_undrew2 h2) (Nat.le_refl _))).2, ((b_undrew2 h2).cell (p := ⟨bk, ok' + k * 5 + 1, none⟩) HRw.out.2.2).trans r1⟩
      clear r2 r3 r4 hbk hbwr hp hrow hBr
      cases hh : hasN KK p.fr
      · have HNx := Lib.hid (frN_no KK HPp.out hh)
        rw [hh] at c16k
        clear hh
        go_wp2_with fail
        first | (go_region_held3 (fun w' => w'.cell? ⟨w.heap.size, 0, none⟩ = some (.slice ak L.length ck) ∧ w'.cell? ⟨w.heap.size, 1, none⟩ = some (.slice (some ⟨bk, ok', none⟩) B.length cb) ∧ w'.cell? ⟨bk, ok' + k * 5 + 1, none⟩ = some (.string (bs p.fr))) (go_keep) (first | (go_at_call 16; refine c16k.mono ?_; rintro e W2 ⟨rfl, hb2⟩; obtain ⟨cl0, cl1, cl2⟩ := HCl.out W2 hb2))) | fail
        all_goals
          have hb2' := b_undrew2 hb2
          have HRR := Lib.hid (And.intro (own_bel HRw.out.1 hb2') (on1 HRw.out.2.1 hb2' (Nat.le_refl _)))
          go_wp2
          go_roundw
          case rel => exact ⟨k + 1, by omega, by go_num, by rw [HNx.out]; exact HRR.out.1, HRR.out.2⟩
          case measure => simp [intOf]; omega
      · have HNx := Lib.hid (frN_yes KK HPp.out hh)
        rw [hh] at c16k
        clear hh
        go_wp2_with fail
        first | (go_region_held3 (fun w' => w'.cell? ⟨w.heap.size, 0, none⟩ = some (.slice ak L.length ck) ∧ w'.cell? ⟨w.heap.size, 1, none⟩ = some (.slice (some ⟨bk, ok', none⟩) B.length cb) ∧ w'.cell? ⟨bk, ok' + k * 5 + 1, none⟩ = some (.string (bs p.fr))) (go_keep) (first | (go_at_call 16; refine c16k.mono ?_; rintro e W2 ⟨rfl, hb2⟩; obtain ⟨cl0, cl1, cl2⟩ := HCl.out W2 hb2))) | fail
        all_goals
          have hb2' := b_undrew2 hb2
          have hBW2' := on1 hBWr hb2' (Nat.le_refl _)
          obtain ⟨t0, t1⟩ := HX.out W2 hBW2'
          have r0b := (hb2'.cell (p := ⟨bk, ok' + k * 5, none⟩) HRw.out.2.2).trans r0
          have HA : Hid ((W2.alloc (.cells #[.string (bs p.nm)] 9)).ownsRow W13.heap.size 9 1 (.slice af (frN KK (B.take k)).length cf) (frN KK (B.take k)).length (cellsS (frN KK (B.take k))) ∧ Below W13.heap.size W13 (W2.alloc (.cells #[.string (bs p.nm)] 9))) := ⟨(own_bel HRw.out.1 hb2').alloc _, b_alloc (on1 HRw.out.2.1 hb2' (Nat.le_refl _)) (Nat.le_refl _) _⟩
          have HM : Hid ((frN KK (B.take k)).length + 1 ≤ maxLen ∧ ((frN KK (B.take k)).length + 1) * 16 ≤ 140737488355328) := by have := HFl.out; unfold maxLen; exact ⟨by omega, by omega⟩
          go_wp2_with (first | (at_builtin; refine wpList_append_own _ rfl (.tmp 129) (.tmp 136) 45 rfl W13.heap.size 9 i9 _ 1 16 Tryz.underlying45 hi9 hz90 hz91 hz92 rfl (by decide) (.slice af (frN KK (B.take k)).length cf) (frN KK (B.take k)).length (cellsS (frN KK (B.take k))) rfl HA.out.1 ⟨W2.heap.size, 0, none⟩ 1 1 [.string (bs p.nm)] rfl rfl (new_at _ _ _) (by simp [Value.oneCell']) HM.out.1 HM.out.2 HA.out.2.size ?_; intro v1 w1 hown1 hgrow1 _; have HRR : Hid (w1.ownsRow W13.heap.size 9 1 v1 (frN KK (B.take (k + 1))).length (cellsS (frN KK (B.take (k + 1)))) ∧ Below W13.heap.size W13 w1) := (by refine ⟨?_, HA.out.2.grown hgrow1 HA.out.2.size (fun g hg => (HA.out.1.lt g hg).1)⟩; rw [HNx.out, List.length_append, cellsS_app]; exact hown1); clear hown1 hgrow1))
          go_roundw
          case rel => exact ⟨k + 1, by omega, by go_num, HRR.out.1, HRR.out.2⟩
          case measure => simp [intOf]; omega
    · obtain rfl : k = B.length := by omega
      rw [List.take_length] at hrow
      have hb1 := hBr
      have hbb := (hb1.block _ (Array.getElem?_eq_some_iff.1 hbb).1).trans hbb
      have hcc := (hb1.block _ (Array.getElem?_eq_some_iff.1 hcc).1).trans hcc
      obtain ⟨nf, hnf⟩ : ∃ nf, nf = (frN KK (B.take B.length)).length := ⟨_, rfl⟩
      rw [← hnf]
      rw [List.take_length] at hnf
      clear hb1
      have cF := c17.out wr hBWr
      have HRow : Hid (wr.ownsRow W13.heap.size 9 1 (.slice af nf cf) (frN KK B).length (cellsS (frN KK B))) := by rw [hnf]; first | exact hrow | (simp only [List.take_length] at hrow; exact hrow)
      have HFl : Hid ((frN KK B).length ≤ 1000) := by
        unfold frN
        have := List.length_filter_le (fun x => hasN KK x.fr) B
        simp only [List.length_map] at this ⊢
        show _ ≤ _
        omega
      clear hrow hBr hnf hlt hk
      go_wp2_with (first | (go_at_call 17; refine cF.mono ?_; rintro e W14 ⟨v, rfl, hv1, _, hb1⟩; have hv := hv1 HFe.out; rw [HKn.out] at hv; obtain ⟨av, cv, rfl⟩ := own_slice hv; rw [HFe.out]; refine Hid.out ?_))
      refine Lib.hid ?_
      have hbb := (hb1.block _ (Array.getElem?_eq_some_iff.1 hbb).1).trans hbb
      have hcc := (hb1.block _ (Array.getElem?_eq_some_iff.1 hcc).1).trans hcc
      have hBW14 := on1 hBWr hb1 (Nat.le_refl _)
      have hs1 := (own_isS HRow.out).on hb1
      have hs2 := own_isS hv
      clear hb1 hv hv1 x0r x1r cF
      go_wp2_with (first | (go_at_call 7; refine (c7.out 0 _ hBW14).mono ?_; rintro e W15 ⟨rfl, hb1⟩; refine Hid.out ?_))
      refine Lib.hid ?_
      have hbb := (hb1.block _ (Array.getElem?_eq_some_iff.1 hbb).1).trans hbb
      have hcc := (hb1.block _ (Array.getElem?_eq_some_iff.1 hcc).1).trans hcc
      have hBW15 := on1 hBW14 hb1 (Nat.le_refl _)
      have c18 := texts_sameR (hs2.on hb1) (hs1.on hb1) HFl.out
      clear hb1
      go_wp2_with (first | (go_at_call 18; refine c18.mono ?_; rintro e W16 ⟨rfl, hb1⟩; refine Hid.out ?_))
      refine Lib.hid ?_
      have hbb := (hb1.block _ (Array.getElem?_eq_some_iff.1 hbb).1).trans hbb
      have hcc := (hb1.block _ (Array.getElem?_eq_some_iff.1 hcc).1).trans hcc
      have HB16 := Lib.hid (HBw.out _ (on1 hBW15 hb1 (Nat.le_refl _)))
      have b0 := cellB (i := 0) hbb rfl
      have b1 := cellB (i := 1) hbb rfl
      have b2 := cellB (i := 2) hbb rfl
      have b3 := cellB (i := 3) hbb rfl
      have b4 := cellB (i := 4) hbb rfl
      have d0 := cellB (i := 0) hcc rfl
      have d1' := cellB (i := 1) hcc rfl
      have d2' := cellB (i := 2) hcc rfl
      have d3 := cellB (i := 3) hcc rfl
      have d4 := cellB (i := 4) hcc rfl
      have heq := bond_eqx (bs x.nm) (bs x.fr) (bs x.tt) x.mn x.mx
      clear hb1 hbb hcc
      go_wp2
      go_ret
      exact ⟨rfl, HB16.out⟩
end Go.Proofs.YtgjlonilbhlneaaGreatDoor
