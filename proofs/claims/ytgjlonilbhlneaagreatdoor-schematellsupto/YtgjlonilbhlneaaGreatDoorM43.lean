/-
  The walk of the law SchemaTells: a right schema, a bond of the name not found, a kind of it not found.
-/
import Derived.Test.YtgjlonilbhlneaaGreatDoorM42
import Derived.Deep.RegionHeld3
import Derived.Deep.QuietTactic
import Derived.BigQuiet
namespace Go.Proofs.YtgjlonilbhlneaaGreatDoor
open Go.RowKit
set_option linter.unusedVariables false
set_option linter.unusedSimpArgs false

theorem ris_at {v : Value} {L : List Kd} {w : World} {i : Nat} {q : Kd} (hK : IsK w v L) (hP : Parts w L) (hS : Small L) (hn : L.length ≤ 12) (hR : Right L) (hq : L[i]? = some q) (s : Nm) :
    Calls Tryz.prog 16 #[v, .string (bs q.nm), .string (bs s)] w fun e w' => e = .returned (.bool (hasN (nms (kinF L q.nm)) s)) ∧ Below w.heap.size w w' := by
  rcases hK with ⟨_, rfl⟩ | ⟨b, off, cap, rfl, _, _, hb, hl⟩
  · cases hq
  · exact ris_some b off cap L i q s w hb hl hP hS hn hR hq
theorem frN_next (K : List Nm) {B : List Bd} {k : Nat} {p : Bd} (h : B[k]? = some p) : frN K (B.take (k + 1)) = if hasN K p.fr = true then frN K (B.take k) ++ [p.nm] else frN K (B.take k) := by
  unfold frN
  rw [takeK h, List.filter_append, List.map_append]
  by_cases hp : hasN K p.fr = true
  · rw [if_pos hp]; simp [hp]
  · rw [if_neg hp]; simp [hp]
theorem frN_yes (K : List Nm) {B : List Bd} {k : Nat} {p : Bd} (h : B[k]? = some p) (hp : hasN K p.fr = true) : frN K (B.take (k + 1)) = frN K (B.take k) ++ [p.nm] := by rw [frN_next K h, if_pos hp]
theorem frN_no (K : List Nm) {B : List Bd} {k : Nat} {p : Bd} (h : B[k]? = some p) (hp : hasN K p.fr = false) : frN K (B.take (k + 1)) = frN K (B.take k) := by rw [frN_next K h, if_neg (by rw [hp]; decide)]
theorem b_undrew2 {w W : World} (h : Below w.drew.heap.size w.drew W) : Below w.heap.size w W := ⟨h.os, h.tape, h.output, h.size, h.block⟩
set_option maxHeartbeats 16000000 in
set_option maxRecDepth 100000 in
theorem tells_g00 {vk vb : Value} {L : List Kd} {B : List Bd} {t s : Nm} {w : World} (hK : IsK w vk L) (hP : Parts w L) (hz : SzK L) (hb : IsB w vb B) (hzb : SzB B) (ht : t.length ≤ 10000000) (hE : EV w) (hH : Hnd w) (hse : (sErr L B).2 = 0) (hbi : idxB s B 0 = -1) (hki : idxK s L 0 = -1) :
    Calls Tryz.prog 3 #[.agg #[vk, vb], .string (bs t), .string (bs s)] w fun e w' => e = .returned (.bool true) ∧ Below w.heap.size w w' := by
  obtain ⟨at', zz, P0, B0, hSm, cRd, cPs⟩ := both_read t ht
  obtain ⟨W0, hW0⟩ : ∃ W0, W0 = w.alloc (.cells #[vk, vb] 25) := ⟨_, rfl⟩
  have hB0 : Below w.heap.size w W0 := by rw [hW0]; exact b_alloc (Below.refl _ _) (Nat.le_refl _) _
  have n0 : W0.heap[w.heap.size]? = some (.cells #[vk, vb] 25 (0, 0)) := by rw [hW0]; exact heap_alloc_new w _
  have HBw : Hid (∀ W, Below W0.heap.size W0 W → Below w.heap.size w W) := fun W h => on1 hB0 h (Nat.le_refl _)
  have HX : Hid (∀ W, Below W0.heap.size W0 W → W.cell? ⟨w.heap.size, 0, none⟩ = some vk ∧ W.cell? ⟨w.heap.size, 1, none⟩ = some vb) := fun W h => ⟨cellB ((h.block _ (Array.getElem?_eq_some_iff.1 n0).1).trans n0) rfl, cellB ((h.block _ (Array.getElem?_eq_some_iff.1 n0).1).trans n0) rfl⟩
  have HZ0 : Hid (w.heap.size < W0.heap.size) := (Array.getElem?_eq_some_iff.1 n0).1
  obtain ⟨ak, ck, evk, _⟩ := hK.sln
  obtain ⟨ab, cb, evb, hbl⟩ := hb.sln
  subst evk evb
  have HHd : Hid (∀ W, Below W0.heap.size W0 W → Hnd W) := fun W h => (on1 hB0 h (Nat.le_refl _)).cell (p := ⟨0, 0, none⟩) (World.block_lt_of_cell? w _ hH) |>.trans hH
  have c5 := Lib.hid (fun W (h : Below W0.heap.size W0 W) => rschema_any (hK.on (HBw.out W h)) (hP.on (HBw.out W h)) hz (hb.on (HBw.out W h)) hzb)
  have c6 := Lib.hid (fun W (h : Below W0.heap.size W0 W) => scheck_any (hK.on (HBw.out W h)) (hP.on (HBw.out W h)) hz (hb.on (HBw.out W h)) hzb)
  have c7 := Lib.hid (fun (x : Int) W (h : Below W0.heap.size W0 W) => error_any x W (HHd.out W h))
  have c11 := Lib.hid (fun W (h : Below W0.heap.size W0 W) => cPs W (hE.on (HBw.out W h)))
  have c14 := Lib.hid (fun W (h : Below W0.heap.size W0 W) => sbond_any s (hK.on (HBw.out W h)) (hP.on (HBw.out W h)) hz (hb.on (HBw.out W h)) hzb)
  have c17 := Lib.hid (fun W (h : Below W0.heap.size W0 W) => sfrom_any s (hK.on (HBw.out W h)) (hP.on (HBw.out W h)) hz (hb.on (HBw.out W h)) hzb)
  have HG : Hid (IsK w (.slice ak L.length ck) L ∧ Parts w L ∧ IsB w (.slice ab B.length cb) B) := ⟨hK, hP, hb⟩
  obtain ⟨who, hwho⟩ : ∃ who, who = (sErr L B).1 := ⟨_, rfl⟩
  obtain ⟨hks, hGB, hB12⟩ := sErr_good.1 hse
  obtain ⟨hGd, hL12⟩ := ksErr_good.1 hks
  have c8 := Lib.hid (fun W (h : Below W0.heap.size W0 W) => stext_any (HG.out.1.on (HBw.out W h)) (HG.out.2.1.on (HBw.out W h)) (HG.out.2.2.on (HBw.out W h)) hse)
  have c9 := Lib.hid (fun W (h : Below W0.heap.size W0 W) => sprint_ok (HG.out.1.on (HBw.out W h)) (HG.out.2.1.on (HBw.out W h)) hz (HG.out.2.2.on (HBw.out W h)) hzb (hE.on (HBw.out W h)).tw hse)
  have c70 : ∀ W (h : Below W0.heap.size W0 W), Calls Tryz.prog 7 #[.nilIface, .int .i64 0] W fun e w' => e = .returned (.bool true) ∧ Below W.heap.size W w' := fun W h => c7.out 0 W h
  have c13 := Lib.hid (fun W (h : Below W0.heap.size W0 W) => rbond_any (HG.out.2.2.on (HBw.out W h)) hB12 s)
  have c15 := Lib.hid (fun W (h : Below W0.heap.size W0 W) => rkind_any (HG.out.1.on (HBw.out W h)) hL12 s)
  rw [hbi] at c13
  rw [hki] at c15
  have hbt : bdTell L B s = (bdZ, 5) := by
    unfold bdTell bdAt
    rw [if_pos hse, hbi, if_pos rfl]
  rw [hbt, show bdZ.one = .agg #[.string ⟨#[]⟩, .string ⟨#[]⟩, .string ⟨#[]⟩, .int .i64 0, .int .i64 0] from rfl] at c14
  have hfe : frE L B s = 5 := by unfold frE nmErr; rw [if_pos hse, if_pos hks, hki, if_pos rfl]
  have HFe := Lib.hid hfe
  have hB12' : (B.length : Int) ≤ 12 := by omega
  obtain ⟨TT, hTT⟩ : ∃ TT, TT = sText L B := ⟨_, rfl⟩
  rw [← hTT] at c8 c9
  rw [← hwho, hse] at c5 c6
  clear hfe hbt hwho hTT hse hks hGB hGd hL12 hbl
  clear hki
  clear hbi
  go_enter Tryz.func3, Tryz.ntmps3
  go_upto_region 1 with fail
  rw [← hW0]
  clear hW0 hB0 n0 hK hP hb hE hH cPs
  obtain ⟨x0, x1⟩ := HX.out W0 (Below.refl _ _)
  go_wp2_with (first | (go_at_call 5; refine (c5.out _ (Below.refl _ _)).mono ?_; rintro e W1 ⟨rfl, hb1⟩; refine Hid.out ?_))
  refine Lib.hid ?_
  have hBW1 := on1 (Below.refl _ _) hb1 (Nat.le_refl _)
  obtain ⟨x0W1, x1W1⟩ := HX.out W1 hBW1
  clear hb1
  go_wp2_with (first | (go_at_call 6; refine (c6.out _ hBW1).mono ?_; rintro e W2 ⟨rfl, hb1⟩; refine Hid.out ?_))
  refine Lib.hid ?_
  have hBW2 := on1 hBW1 hb1 (Nat.le_refl _)
  obtain ⟨x0W2, x1W2⟩ := HX.out W2 hBW2
  clear hb1
  clear x0 x1 x0W1 x1W1
  go_wp2_with (first | (go_at_call 7; refine (c7.out 0 _ hBW2).mono ?_; rintro e W3 ⟨rfl, hb1⟩; refine Hid.out ?_))
  refine Lib.hid ?_
  have hBW3 := on1 hBW2 hb1 (Nat.le_refl _)
  obtain ⟨x0W3, x1W3⟩ := HX.out W3 hBW3
  clear hb1
  clear x0W2 x1W2
  go_wp2_with (first | (go_at_call 8; refine (c8.out _ hBW3).mono ?_; rintro e W4 ⟨rfl, hb1⟩; refine Hid.out ?_))
  refine Lib.hid ?_
  have hBW4 := on1 hBW3 hb1 (Nat.le_refl _)
  obtain ⟨x0W4, x1W4⟩ := HX.out W4 hBW4
  clear hb1
  clear x0W3 x1W3
  go_wp2_with (first | (go_at_call 9; refine (c9.out _ hBW4).mono ?_; rintro e W5 ⟨rfl, hb1⟩; refine Hid.out ?_))
  refine Lib.hid ?_
  have hBW5 := on1 hBW4 hb1 (Nat.le_refl _)
  obtain ⟨x0W5, x1W5⟩ := HX.out W5 hBW5
  clear hb1
  clear x0W4 x1W4
  go_wp2_with (first | (go_at_call 7; refine (c70 _ hBW5).mono ?_; rintro e W6 ⟨rfl, hb1⟩; refine Hid.out ?_))
  refine Lib.hid ?_
  have hBW6 := on1 hBW5 hb1 (Nat.le_refl _)
  obtain ⟨x0W6, x1W6⟩ := HX.out W6 hBW6
  clear hb1
  clear x0W5 x1W5
  go_wp2_with (first | (go_at_call 10; refine (cRd _).mono ?_; rintro e W7 ⟨a1, m1, c1, a2, m2, c2, rfl, hsx, hb1⟩; refine Hid.out ?_))
  refine Lib.hid ?_
  have hBW7 := on1 hBW6 hb1 (Nat.le_refl _)
  obtain ⟨x0W7, x1W7⟩ := HX.out W7 hBW7
  clear hb1
  clear x0W6 x1W6 x0W7 x1W7
  have hBW7a : Below W0.heap.size W0 (W7.alloc (.cells #[.slice a1 m1 c1, .slice a2 m2 c2] 25)) := on1 hBW7 (b_alloc (Below.refl _ _) (Nat.le_refl _) _) (Nat.le_refl _)
  have nW7a : (W7.alloc (.cells #[.slice a1 m1 c1, .slice a2 m2 c2] 25)).heap[W7.heap.size]? = some (.cells #[.slice a1 m1 c1, .slice a2 m2 c2] 25 (0, 0)) := heap_alloc_new _ _
  obtain ⟨W7a, hW7a⟩ : ∃ X, X = W7.alloc (.cells #[.slice a1 m1 c1, .slice a2 m2 c2] 25) := ⟨_, rfl⟩
  rw [← hW7a] at hBW7a nW7a
  have HW7a := Lib.hid hW7a
  clear hW7a
  have hsx := hsx.on (show Below W7.heap.size W7 W7a by rw [HW7a.out]; exact b_alloc (Below.refl _ _) (Nat.le_refl _) _)
  go_upto_region 10 with fail
  rw [← HW7a.out]
  go_wp2_with (first | (go_at_call 11; refine (c11.out _ hBW7a).mono ?_; rintro e W8 ⟨d1, k1, e1, d2, k2, e2, rfl, hsy, hb1⟩; refine Hid.out ?_))
  refine Lib.hid ?_
  have hsx := hsx.on hb1
  have hx8 := (hb1.block _ (Array.getElem?_eq_some_iff.1 nW7a).1).trans nW7a
  have hBW8 := on1 hBW7a hb1 (Nat.le_refl _)
  obtain ⟨x0W8, x1W8⟩ := HX.out W8 hBW8
  clear hb1
  clear x0W8 x1W8 nW7a
  have hBW8a : Below W0.heap.size W0 (W8.alloc (.cells #[.slice d1 k1 e1, .slice d2 k2 e2] 25)) := on1 hBW8 (b_alloc (Below.refl _ _) (Nat.le_refl _) _) (Nat.le_refl _)
  have nW8a : (W8.alloc (.cells #[.slice d1 k1 e1, .slice d2 k2 e2] 25)).heap[W8.heap.size]? = some (.cells #[.slice d1 k1 e1, .slice d2 k2 e2] 25 (0, 0)) := heap_alloc_new _ _
  obtain ⟨W8a, hW8a⟩ : ∃ X, X = W8.alloc (.cells #[.slice d1 k1 e1, .slice d2 k2 e2] 25) := ⟨_, rfl⟩
  rw [← hW8a] at hBW8a nW8a
  have HW8a := Lib.hid hW8a
  clear hW8a
  have hb8 : Below W8.heap.size W8 W8a := by rw [HW8a.out]; exact b_alloc (Below.refl _ _) (Nat.le_refl _) _
  have hsx := hsx.on hb8
  have hsy := hsy.on hb8
  have hx8 := (hb8.block _ (Array.getElem?_eq_some_iff.1 hx8).1).trans hx8
  clear hb8
  go_upto_region 11 with fail
  rw [← HW8a.out]
  go_wp2_with (first | (go_at_call 7; refine (c7.out zz _ hBW8a).mono ?_; rintro e W9 ⟨rfl, hb1⟩; refine Hid.out ?_))
  refine Lib.hid ?_
  have hsx := hsx.on hb1
  have hsy := hsy.on hb1
  have hx8 := (hb1.block _ (Array.getElem?_eq_some_iff.1 hx8).1).trans hx8
  have hy8 := (hb1.block _ (Array.getElem?_eq_some_iff.1 nW8a).1).trans nW8a
  have hBW9 := on1 hBW8a hb1 (Nat.le_refl _)
  obtain ⟨x0W9, x1W9⟩ := HX.out W9 hBW9
  clear hb1
  have p0 := cellB (i := 0) hx8 rfl
  have p1 := cellB (i := 1) hx8 rfl
  have q0 := cellB (i := 0) hy8 rfl
  have q1 := cellB (i := 1) hy8 rfl
  have c12 := sc_same hsy hsx hSm
  clear hx8 hy8 hsx hsy nW8a x0W9 x1W9
  go_wp2_with (first | (go_at_call 12; refine (c12).mono ?_; rintro e W10 ⟨rfl, hb1⟩; refine Hid.out ?_))
  refine Lib.hid ?_
  have hBW10 := on1 hBW9 hb1 (Nat.le_refl _)
  obtain ⟨x0W10, x1W10⟩ := HX.out W10 hBW10
  clear hb1
  clear p0 p1 q0 q1 c12
  have hBWb : Below W0.heap.size W0 (W10.alloc (.cells #[.string ⟨#[]⟩, .string ⟨#[]⟩, .string ⟨#[]⟩, .int .i64 0, .int .i64 0] 40)) := on1 hBW10 (b_alloc (Below.refl _ _) (Nat.le_refl _) _) (Nat.le_refl _)
  have nWb : (W10.alloc (.cells #[.string ⟨#[]⟩, .string ⟨#[]⟩, .string ⟨#[]⟩, .int .i64 0, .int .i64 0] 40)).heap[W10.heap.size]? = some (.cells #[.string ⟨#[]⟩, .string ⟨#[]⟩, .string ⟨#[]⟩, .int .i64 0, .int .i64 0] 40 (0, 0)) := heap_alloc_new _ _
  obtain ⟨Wb, hWb⟩ : ∃ X, X = W10.alloc (.cells #[.string ⟨#[]⟩, .string ⟨#[]⟩, .string ⟨#[]⟩, .int .i64 0, .int .i64 0] 40) := ⟨_, rfl⟩
  rw [← hWb] at hBWb nWb
  have HWb := Lib.hid hWb
  clear hWb
  obtain ⟨x0Wb, x1Wb⟩ := HX.out Wb hBWb
  clear x0W10 x1W10
  go_upto_region 15 with fail
  rw [← HWb.out]
  go_upto_region 20 with (first | (go_at_call 13; refine (c13.out _ hBWb).mono ?_; rintro e w' ⟨rfl, hw⟩; have hw := hw.symm; subst hw))
  go_wp2_with (first | (go_at_call 14; refine (c14.out _ hBWb).mono ?_; rintro e W12 ⟨rfl, hb1⟩; refine Hid.out ?_))
  refine Lib.hid ?_
  have hbb := (hb1.block _ (Array.getElem?_eq_some_iff.1 nWb).1).trans nWb
  have hBW12 := on1 hBWb hb1 (Nat.le_refl _)
  obtain ⟨x0W12, x1W12⟩ := HX.out W12 hBW12
  clear hb1
  have hBWc : Below W0.heap.size W0 (W12.alloc (.cells #[.string ⟨#[]⟩, .string ⟨#[]⟩, .string ⟨#[]⟩, .int .i64 0, .int .i64 0] 40)) := on1 hBW12 (b_alloc (Below.refl _ _) (Nat.le_refl _) _) (Nat.le_refl _)
  have nWc : (W12.alloc (.cells #[.string ⟨#[]⟩, .string ⟨#[]⟩, .string ⟨#[]⟩, .int .i64 0, .int .i64 0] 40)).heap[W12.heap.size]? = some (.cells #[.string ⟨#[]⟩, .string ⟨#[]⟩, .string ⟨#[]⟩, .int .i64 0, .int .i64 0] 40 (0, 0)) := heap_alloc_new _ _
  obtain ⟨Wc, hWc⟩ : ∃ X, X = W12.alloc (.cells #[.string ⟨#[]⟩, .string ⟨#[]⟩, .string ⟨#[]⟩, .int .i64 0, .int .i64 0] 40) := ⟨_, rfl⟩
  rw [← hWc] at hBWc nWc
  have HWc := Lib.hid hWc
  clear hWc
  have hbb := ((show Below W12.heap.size W12 Wc by rw [HWc.out]; exact b_alloc (Below.refl _ _) (Nat.le_refl _) _).block _ (Array.getElem?_eq_some_iff.1 hbb).1).trans hbb
  clear x0Wb x1Wb x0W12 x1W12 nWb
  go_upto_region 21 with fail
  rw [← HWc.out]
  go_wp2_with (first | (go_at_call 7; refine (c7.out 5 _ hBWc).mono ?_; rintro e W13 ⟨rfl, hb1⟩; refine Hid.out ?_))
  refine Lib.hid ?_
  have hbb := (hb1.block _ (Array.getElem?_eq_some_iff.1 hbb).1).trans hbb
  have hcc := (hb1.block _ (Array.getElem?_eq_some_iff.1 nWc).1).trans nWc
  have hBW13 := on1 hBWc hb1 (Nat.le_refl _)
  obtain ⟨x0W13, x1W13⟩ := HX.out W13 hBW13
  clear hb1
  clear nWc
  go_upto_region 24 with (first | (go_at_call 15; refine (c15.out _ hBW13).mono ?_; rintro e w' ⟨rfl, hw⟩; have hw := hw.symm; subst hw))
  go_wp2
  have hBl : ((B.length : Int) = 0 ∨ (0 : Int) < (B.length : Int)) := by omega
  go_loop [26, 27] (fun f i => f = .slice none 0 0 ∧ i = .int .i64 0) (fun _ _ => 0)
  case atStart => exact ⟨rfl, rfl⟩
  case round =>
    obtain ⟨rfl, rfl⟩ := hrel
    rcases hBl with h0 | h0
    all_goals
      have cF := c17.out _ hBW13
      go_wp2_with (first | (go_at_call 17; refine cF.mono ?_; rintro e W14 ⟨v, rfl, _, hv2, hb1⟩; obtain rfl := hv2 (by rw [HFe.out]; decide); rw [HFe.out]; refine Hid.out ?_))
      refine Lib.hid ?_
      have hbb := (hb1.block _ (Array.getElem?_eq_some_iff.1 hbb).1).trans hbb
      have hcc := (hb1.block _ (Array.getElem?_eq_some_iff.1 hcc).1).trans hcc
      have hBW14 := on1 hBW13 hb1 (Nat.le_refl _)
      clear hb1 x0W13 x1W13 h0 cF
      go_wp2_with (first | (go_at_call 7; refine (c7.out 5 _ hBW14).mono ?_; rintro e W15 ⟨rfl, hb1⟩; refine Hid.out ?_))
      refine Lib.hid ?_
      have hbb := (hb1.block _ (Array.getElem?_eq_some_iff.1 hbb).1).trans hbb
      have hcc := (hb1.block _ (Array.getElem?_eq_some_iff.1 hcc).1).trans hcc
      have hBW15 := on1 hBW14 hb1 (Nat.le_refl _)
      have c18 := texts_nil W15
      clear hb1
      go_wp2_with (first | (go_at_call 18; refine c18.mono ?_; rintro e W16 ⟨rfl, hb1⟩; refine Hid.out ?_))
      refine Lib.hid ?_
      have hbb := (hb1.block _ (Array.getElem?_eq_some_iff.1 hbb).1).trans hbb
      have hcc := (hb1.block _ (Array.getElem?_eq_some_iff.1 hcc).1).trans hcc
      have HB16 := Lib.hid (HBw.out _ (on1 hBW15 hb1 (Nat.le_refl _)))
      have b0 := cellB (i := 0) hbb rfl
      have b1 := cellB (i := 1) hbb rfl
      have b2 := cellB (i := 2) hbb rfl
      have b3 := cellB (i := 3) hbb rfl
      have b4 := cellB (i := 4) hbb rfl
      have d0 := cellB (i := 0) hcc rfl
      have d1' := cellB (i := 1) hcc rfl
      have d2' := cellB (i := 2) hcc rfl
      have d3 := cellB (i := 3) hcc rfl
      have d4 := cellB (i := 4) hcc rfl
      have heq := bond_eq0
      clear hb1 hbb hcc
      go_wp2
      go_ret
      exact ⟨rfl, HB16.out⟩
end Go.Proofs.YtgjlonilbhlneaaGreatDoor

/-
  The walk of the law SchemaTells: a right schema, a bond of the name found, a kind of it not found.
-/
namespace Go.Proofs.YtgjlonilbhlneaaGreatDoor
open Go.RowKit
set_option linter.unusedVariables false
set_option linter.unusedSimpArgs false

set_option maxHeartbeats 16000000 in
set_option maxRecDepth 100000 in
theorem tells_g10 {vk vb : Value} {L : List Kd} {B : List Bd} {t s : Nm} {w : World} (hK : IsK w vk L) (hP : Parts w L) (hz : SzK L) (hb : IsB w vb B) (hzb : SzB B) (ht : t.length ≤ 10000000) (hE : EV w) (hH : Hnd w) (hse : (sErr L B).2 = 0) {j : Nat} {x : Bd} (hbi : idxB s B 0 = (j : Int)) (hbx : B[j]? = some x) (hki : idxK s L 0 = -1) :
    Calls Tryz.prog 3 #[.agg #[vk, vb], .string (bs t), .string (bs s)] w fun e w' => e = .returned (.bool true) ∧ Below w.heap.size w w' := by
  obtain ⟨at', zz, P0, B0, hSm, cRd, cPs⟩ := both_read t ht
  obtain ⟨W0, hW0⟩ : ∃ W0, W0 = w.alloc (.cells #[vk, vb] 25) := ⟨_, rfl⟩
  have hB0 : Below w.heap.size w W0 := by rw [hW0]; exact b_alloc (Below.refl _ _) (Nat.le_refl _) _
  have n0 : W0.heap[w.heap.size]? = some (.cells #[vk, vb] 25 (0, 0)) := by rw [hW0]; exact heap_alloc_new w _
  have HBw : Hid (∀ W, Below W0.heap.size W0 W → Below w.heap.size w W) := fun W h => on1 hB0 h (Nat.le_refl _)
  have HX : Hid (∀ W, Below W0.heap.size W0 W → W.cell? ⟨w.heap.size, 0, none⟩ = some vk ∧ W.cell? ⟨w.heap.size, 1, none⟩ = some vb) := fun W h => ⟨cellB ((h.block _ (Array.getElem?_eq_some_iff.1 n0).1).trans n0) rfl, cellB ((h.block _ (Array.getElem?_eq_some_iff.1 n0).1).trans n0) rfl⟩
  have HZ0 : Hid (w.heap.size < W0.heap.size) := (Array.getElem?_eq_some_iff.1 n0).1
  obtain ⟨ak, ck, evk, _⟩ := hK.sln
  obtain ⟨ab, cb, evb, hbl⟩ := hb.sln
  subst evk evb
  have HHd : Hid (∀ W, Below W0.heap.size W0 W → Hnd W) := fun W h => (on1 hB0 h (Nat.le_refl _)).cell (p := ⟨0, 0, none⟩) (World.block_lt_of_cell? w _ hH) |>.trans hH
  have c5 := Lib.hid (fun W (h : Below W0.heap.size W0 W) => rschema_any (hK.on (HBw.out W h)) (hP.on (HBw.out W h)) hz (hb.on (HBw.out W h)) hzb)
  have c6 := Lib.hid (fun W (h : Below W0.heap.size W0 W) => scheck_any (hK.on (HBw.out W h)) (hP.on (HBw.out W h)) hz (hb.on (HBw.out W h)) hzb)
  have c7 := Lib.hid (fun (x : Int) W (h : Below W0.heap.size W0 W) => error_any x W (HHd.out W h))
  have c11 := Lib.hid (fun W (h : Below W0.heap.size W0 W) => cPs W (hE.on (HBw.out W h)))
  have c14 := Lib.hid (fun W (h : Below W0.heap.size W0 W) => sbond_any s (hK.on (HBw.out W h)) (hP.on (HBw.out W h)) hz (hb.on (HBw.out W h)) hzb)
  have c17 := Lib.hid (fun W (h : Below W0.heap.size W0 W) => sfrom_any s (hK.on (HBw.out W h)) (hP.on (HBw.out W h)) hz (hb.on (HBw.out W h)) hzb)
  have HG : Hid (IsK w (.slice ak L.length ck) L ∧ Parts w L ∧ IsB w (.slice ab B.length cb) B) := ⟨hK, hP, hb⟩
  obtain ⟨who, hwho⟩ : ∃ who, who = (sErr L B).1 := ⟨_, rfl⟩
  obtain ⟨hks, hGB, hB12⟩ := sErr_good.1 hse
  obtain ⟨hGd, hL12⟩ := ksErr_good.1 hks
  have c8 := Lib.hid (fun W (h : Below W0.heap.size W0 W) => stext_any (HG.out.1.on (HBw.out W h)) (HG.out.2.1.on (HBw.out W h)) (HG.out.2.2.on (HBw.out W h)) hse)
  have c9 := Lib.hid (fun W (h : Below W0.heap.size W0 W) => sprint_ok (HG.out.1.on (HBw.out W h)) (HG.out.2.1.on (HBw.out W h)) hz (HG.out.2.2.on (HBw.out W h)) hzb (hE.on (HBw.out W h)).tw hse)
  have c70 : ∀ W (h : Below W0.heap.size W0 W), Calls Tryz.prog 7 #[.nilIface, .int .i64 0] W fun e w' => e = .returned (.bool true) ∧ Below W.heap.size W w' := fun W h => c7.out 0 W h
  have c13 := Lib.hid (fun W (h : Below W0.heap.size W0 W) => rbond_any (HG.out.2.2.on (HBw.out W h)) hB12 s)
  have c15 := Lib.hid (fun W (h : Below W0.heap.size W0 W) => rkind_any (HG.out.1.on (HBw.out W h)) hL12 s)
  rw [hbi] at c13
  rw [hki] at c15
  have hbt : bdTell L B s = (x, 0) := by
    unfold bdTell bdAt
    rw [if_pos hse, hbi, if_neg (by omega), Int.toNat_natCast, hbx]
  rw [hbt] at c14
  obtain ⟨bb, ob, rfl, hbbl, y0, y1, y2, y3, y4⟩ := isB_at HG.out.2.2 j x hbx
  have hjB : j < B.length := (List.getElem?_eq_some_iff.1 hbx).1
  have hfe : frE L B s = 5 := by unfold frE nmErr; rw [if_pos hse, if_pos hks, hki, if_pos rfl]
  have HFe := Lib.hid hfe
  have hB12' : (B.length : Int) ≤ 12 := by omega
  obtain ⟨TT, hTT⟩ : ∃ TT, TT = sText L B := ⟨_, rfl⟩
  rw [← hTT] at c8 c9
  rw [← hwho, hse] at c5 c6
  clear hfe hbt hwho hTT hse hks hGB hGd hL12 hbl
  clear hki
  clear hbi
  go_enter Tryz.func3, Tryz.ntmps3
  go_upto_region 1 with fail
  rw [← hW0]
  clear hW0 hB0 n0 hK hP hb hE hH cPs
  obtain ⟨x0, x1⟩ := HX.out W0 (Below.refl _ _)
  go_wp2_with (first | (go_at_call 5; refine (c5.out _ (Below.refl _ _)).mono ?_; rintro e W1 ⟨rfl, hb1⟩; refine Hid.out ?_))
  refine Lib.hid ?_
  have hBW1 := on1 (Below.refl _ _) hb1 (Nat.le_refl _)
  obtain ⟨x0W1, x1W1⟩ := HX.out W1 hBW1
  clear hb1
  go_wp2_with (first | (go_at_call 6; refine (c6.out _ hBW1).mono ?_; rintro e W2 ⟨rfl, hb1⟩; refine Hid.out ?_))
  refine Lib.hid ?_
  have hBW2 := on1 hBW1 hb1 (Nat.le_refl _)
  obtain ⟨x0W2, x1W2⟩ := HX.out W2 hBW2
  clear hb1
  clear x0 x1 x0W1 x1W1
  go_wp2_with (first | (go_at_call 7; refine (c7.out 0 _ hBW2).mono ?_; rintro e W3 ⟨rfl, hb1⟩; refine Hid.out ?_))
  refine Lib.hid ?_
  have hBW3 := on1 hBW2 hb1 (Nat.le_refl _)
  obtain ⟨x0W3, x1W3⟩ := HX.out W3 hBW3
  clear hb1
  clear x0W2 x1W2
  go_wp2_with (first | (go_at_call 8; refine (c8.out _ hBW3).mono ?_; rintro e W4 ⟨rfl, hb1⟩; refine Hid.out ?_))
  refine Lib.hid ?_
  have hBW4 := on1 hBW3 hb1 (Nat.le_refl _)
  obtain ⟨x0W4, x1W4⟩ := HX.out W4 hBW4
  clear hb1
  clear x0W3 x1W3
  go_wp2_with (first | (go_at_call 9; refine (c9.out _ hBW4).mono ?_; rintro e W5 ⟨rfl, hb1⟩; refine Hid.out ?_))
  refine Lib.hid ?_
  have hBW5 := on1 hBW4 hb1 (Nat.le_refl _)
  obtain ⟨x0W5, x1W5⟩ := HX.out W5 hBW5
  clear hb1
  clear x0W4 x1W4
  go_wp2_with (first | (go_at_call 7; refine (c70 _ hBW5).mono ?_; rintro e W6 ⟨rfl, hb1⟩; refine Hid.out ?_))
  refine Lib.hid ?_
  have hBW6 := on1 hBW5 hb1 (Nat.le_refl _)
  obtain ⟨x0W6, x1W6⟩ := HX.out W6 hBW6
  clear hb1
  clear x0W5 x1W5
  go_wp2_with (first | (go_at_call 10; refine (cRd _).mono ?_; rintro e W7 ⟨a1, m1, c1, a2, m2, c2, rfl, hsx, hb1⟩; refine Hid.out ?_))
  refine Lib.hid ?_
  have hBW7 := on1 hBW6 hb1 (Nat.le_refl _)
  obtain ⟨x0W7, x1W7⟩ := HX.out W7 hBW7
  clear hb1
  clear x0W6 x1W6 x0W7 x1W7
  have hBW7a : Below W0.heap.size W0 (W7.alloc (.cells #[.slice a1 m1 c1, .slice a2 m2 c2] 25)) := on1 hBW7 (b_alloc (Below.refl _ _) (Nat.le_refl _) _) (Nat.le_refl _)
  have nW7a : (W7.alloc (.cells #[.slice a1 m1 c1, .slice a2 m2 c2] 25)).heap[W7.heap.size]? = some (.cells #[.slice a1 m1 c1, .slice a2 m2 c2] 25 (0, 0)) := heap_alloc_new _ _
  obtain ⟨W7a, hW7a⟩ : ∃ X, X = W7.alloc (.cells #[.slice a1 m1 c1, .slice a2 m2 c2] 25) := ⟨_, rfl⟩
  rw [← hW7a] at hBW7a nW7a
  have HW7a := Lib.hid hW7a
  clear hW7a
  have hsx := hsx.on (show Below W7.heap.size W7 W7a by rw [HW7a.out]; exact b_alloc (Below.refl _ _) (Nat.le_refl _) _)
  go_upto_region 10 with fail
  rw [← HW7a.out]
  go_wp2_with (first | (go_at_call 11; refine (c11.out _ hBW7a).mono ?_; rintro e W8 ⟨d1, k1, e1, d2, k2, e2, rfl, hsy, hb1⟩; refine Hid.out ?_))
  refine Lib.hid ?_
  have hsx := hsx.on hb1
  have hx8 := (hb1.block _ (Array.getElem?_eq_some_iff.1 nW7a).1).trans nW7a
  have hBW8 := on1 hBW7a hb1 (Nat.le_refl _)
  obtain ⟨x0W8, x1W8⟩ := HX.out W8 hBW8
  clear hb1
  clear x0W8 x1W8 nW7a
  have hBW8a : Below W0.heap.size W0 (W8.alloc (.cells #[.slice d1 k1 e1, .slice d2 k2 e2] 25)) := on1 hBW8 (b_alloc (Below.refl _ _) (Nat.le_refl _) _) (Nat.le_refl _)
  have nW8a : (W8.alloc (.cells #[.slice d1 k1 e1, .slice d2 k2 e2] 25)).heap[W8.heap.size]? = some (.cells #[.slice d1 k1 e1, .slice d2 k2 e2] 25 (0, 0)) := heap_alloc_new _ _
  obtain ⟨W8a, hW8a⟩ : ∃ X, X = W8.alloc (.cells #[.slice d1 k1 e1, .slice d2 k2 e2] 25) := ⟨_, rfl⟩
  rw [← hW8a] at hBW8a nW8a
  have HW8a := Lib.hid hW8a
  clear hW8a
  have hb8 : Below W8.heap.size W8 W8a := by rw [HW8a.out]; exact b_alloc (Below.refl _ _) (Nat.le_refl _) _
  have hsx := hsx.on hb8
  have hsy := hsy.on hb8
  have hx8 := (hb8.block _ (Array.getElem?_eq_some_iff.1 hx8).1).trans hx8
  clear hb8
  go_upto_region 11 with fail
  rw [← HW8a.out]
  go_wp2_with (first | (go_at_call 7; refine (c7.out zz _ hBW8a).mono ?_; rintro e W9 ⟨rfl, hb1⟩; refine Hid.out ?_))
  refine Lib.hid ?_
  have hsx := hsx.on hb1
  have hsy := hsy.on hb1
  have hx8 := (hb1.block _ (Array.getElem?_eq_some_iff.1 hx8).1).trans hx8
  have hy8 := (hb1.block _ (Array.getElem?_eq_some_iff.1 nW8a).1).trans nW8a
  have hBW9 := on1 hBW8a hb1 (Nat.le_refl _)
  obtain ⟨x0W9, x1W9⟩ := HX.out W9 hBW9
  clear hb1
  have p0 := cellB (i := 0) hx8 rfl
  have p1 := cellB (i := 1) hx8 rfl
  have q0 := cellB (i := 0) hy8 rfl
  have q1 := cellB (i := 1) hy8 rfl
  have c12 := sc_same hsy hsx hSm
  clear hx8 hy8 hsx hsy nW8a x0W9 x1W9
  go_wp2_with (first | (go_at_call 12; refine (c12).mono ?_; rintro e W10 ⟨rfl, hb1⟩; refine Hid.out ?_))
  refine Lib.hid ?_
  have hBW10 := on1 hBW9 hb1 (Nat.le_refl _)
  obtain ⟨x0W10, x1W10⟩ := HX.out W10 hBW10
  clear hb1
  clear p0 p1 q0 q1 c12
  have hBWb : Below W0.heap.size W0 (W10.alloc (.cells #[.string ⟨#[]⟩, .string ⟨#[]⟩, .string ⟨#[]⟩, .int .i64 0, .int .i64 0] 40)) := on1 hBW10 (b_alloc (Below.refl _ _) (Nat.le_refl _) _) (Nat.le_refl _)
  have nWb : (W10.alloc (.cells #[.string ⟨#[]⟩, .string ⟨#[]⟩, .string ⟨#[]⟩, .int .i64 0, .int .i64 0] 40)).heap[W10.heap.size]? = some (.cells #[.string ⟨#[]⟩, .string ⟨#[]⟩, .string ⟨#[]⟩, .int .i64 0, .int .i64 0] 40 (0, 0)) := heap_alloc_new _ _
  obtain ⟨Wb, hWb⟩ : ∃ X, X = W10.alloc (.cells #[.string ⟨#[]⟩, .string ⟨#[]⟩, .string ⟨#[]⟩, .int .i64 0, .int .i64 0] 40) := ⟨_, rfl⟩
  rw [← hWb] at hBWb nWb
  have HWb := Lib.hid hWb
  clear hWb
  obtain ⟨x0Wb, x1Wb⟩ := HX.out Wb hBWb
  clear x0W10 x1W10
  go_upto_region 15 with fail
  rw [← HWb.out]
  have hbwb := HBw.out Wb hBWb
  have y0 := (hbwb.cell (p := ⟨bb, ob + j * 5, none⟩) hbbl).trans y0
  have y1 := (hbwb.cell (p := ⟨bb, ob + j * 5 + 1, none⟩) hbbl).trans y1
  have y2 := (hbwb.cell (p := ⟨bb, ob + j * 5 + 2, none⟩) hbbl).trans y2
  have y3 := (hbwb.cell (p := ⟨bb, ob + j * 5 + 3, none⟩) hbbl).trans y3
  have y4 := (hbwb.cell (p := ⟨bb, ob + j * 5 + 4, none⟩) hbbl).trans y4
  have hjI : (j : Int) < (B.length : Int) := by omega
  have hjN : ¬ (j : Int) < 0 := by omega
  have z0 := cellB (i := 0) nWb rfl
  have z1 := cellB (i := 1) nWb rfl
  have z2 := cellB (i := 2) nWb rfl
  have z3 := cellB (i := 3) nWb rfl
  have z4 := cellB (i := 4) nWb rfl
  have v0 := frzB (i := 0) nWb
  have v1 := frzB (i := 1) nWb
  have v2 := frzB (i := 2) nWb
  have v3 := frzB (i := 3) nWb
  have v4 := frzB (i := 4) nWb
  have HW10 : Hid (Below W0.heap.size W0 W10) := hBW10
  clear hbwb
  go_upto_region 20 with (first | (go_at_call 13; refine (c13.out _ hBWb).mono ?_; rintro e w' ⟨rfl, hw⟩; have hw := hw.symm; subst hw))
  obtain ⟨Wd, hWd⟩ : ∃ X, X = ((((Wb.setCell ⟨W10.heap.size, 0, none⟩ (.string (bs x.nm))).setCell ⟨W10.heap.size, 1, none⟩ (.string (bs x.fr))).setCell ⟨W10.heap.size, 2, none⟩ (.string (bs x.tt))).setCell ⟨W10.heap.size, 3, none⟩ (.int .i64 x.mn)).setCell ⟨W10.heap.size, 4, none⟩ (.int .i64 x.mx) := ⟨_, rfl⟩
  have nWd : Wd.heap[W10.heap.size]? = some (.cells #[.string (bs x.nm), .string (bs x.fr), .string (bs x.tt), .int .i64 x.mn, .int .i64 x.mx] 40 (0, 0)) := by
    rw [hWd]
    exact (heap_setCell_same _ _ 4 _ 40 _ ((heap_setCell_same _ _ 3 _ 40 _ ((heap_setCell_same _ _ 2 _ 40 _ ((heap_setCell_same _ _ 1 _ 40 _ ((heap_setCell_same Wb _ 0 _ 40 _ nWb).trans rfl)).trans rfl)).trans rfl)).trans rfl)).trans rfl
  have hBWd : Below W0.heap.size W0 Wd := by
    rw [hWd]
    have h10 : W0.heap.size ≤ W10.heap.size := HW10.out.size
    exact ((((hBWb.setCell (p := ⟨W10.heap.size, 0, none⟩) h10 _).setCell (p := ⟨W10.heap.size, 1, none⟩) h10 _).setCell (p := ⟨W10.heap.size, 2, none⟩) h10 _).setCell (p := ⟨W10.heap.size, 3, none⟩) h10 _).setCell (p := ⟨W10.heap.size, 4, none⟩) h10 _
  rw [← hWd]
  obtain ⟨x0Wd, x1Wd⟩ := HX.out Wd hBWd
  clear hWd y0 y1 y2 y3 y4 z0 z1 z2 z3 z4 v0 v1 v2 v3 v4 x0Wb x1Wb nWb hjI hjN
  go_wp2_with (first | (go_at_call 14; refine (c14.out _ hBWd).mono ?_; rintro e W12 ⟨rfl, hb1⟩; refine Hid.out ?_))
  refine Lib.hid ?_
  have hbb := (hb1.block _ (Array.getElem?_eq_some_iff.1 nWd).1).trans nWd
  have hBW12 := on1 hBWd hb1 (Nat.le_refl _)
  obtain ⟨x0W12, x1W12⟩ := HX.out W12 hBW12
  clear hb1
  have hBWc : Below W0.heap.size W0 (W12.alloc (.cells #[.string (bs x.nm), .string (bs x.fr), .string (bs x.tt), .int .i64 x.mn, .int .i64 x.mx] 40)) := on1 hBW12 (b_alloc (Below.refl _ _) (Nat.le_refl _) _) (Nat.le_refl _)
  have nWc : (W12.alloc (.cells #[.string (bs x.nm), .string (bs x.fr), .string (bs x.tt), .int .i64 x.mn, .int .i64 x.mx] 40)).heap[W12.heap.size]? = some (.cells #[.string (bs x.nm), .string (bs x.fr), .string (bs x.tt), .int .i64 x.mn, .int .i64 x.mx] 40 (0, 0)) := heap_alloc_new _ _
  obtain ⟨Wc, hWc⟩ : ∃ X, X = W12.alloc (.cells #[.string (bs x.nm), .string (bs x.fr), .string (bs x.tt), .int .i64 x.mn, .int .i64 x.mx] 40) := ⟨_, rfl⟩
  rw [← hWc] at hBWc nWc
  have HWc := Lib.hid hWc
  clear hWc
  have hbb := ((show Below W12.heap.size W12 Wc by rw [HWc.out]; exact b_alloc (Below.refl _ _) (Nat.le_refl _) _).block _ (Array.getElem?_eq_some_iff.1 hbb).1).trans hbb
  clear x0Wd x1Wd x0W12 x1W12 nWd
  go_upto_region 21 with fail
  rw [← HWc.out]
  go_wp2_with (first | (go_at_call 7; refine (c7.out 0 _ hBWc).mono ?_; rintro e W13 ⟨rfl, hb1⟩; refine Hid.out ?_))
  refine Lib.hid ?_
  have hbb := (hb1.block _ (Array.getElem?_eq_some_iff.1 hbb).1).trans hbb
  have hcc := (hb1.block _ (Array.getElem?_eq_some_iff.1 nWc).1).trans nWc
  have hBW13 := on1 hBWc hb1 (Nat.le_refl _)
  obtain ⟨x0W13, x1W13⟩ := HX.out W13 hBW13
  clear hb1
  clear nWc
  go_upto_region 24 with (first | (go_at_call 15; refine (c15.out _ hBW13).mono ?_; rintro e w' ⟨rfl, hw⟩; have hw := hw.symm; subst hw))
  go_wp2
  have hBl : ((0 : Int) < (B.length : Int)) := by omega
  go_loop [26, 27] (fun f i => f = .slice none 0 0 ∧ i = .int .i64 0) (fun _ _ => 0)
  case atStart => exact ⟨rfl, rfl⟩
  case round =>
    obtain ⟨rfl, rfl⟩ := hrel
    have h0 := hBl
    all_goals
      have cF := c17.out _ hBW13
      go_wp2_with (first | (go_at_call 17; refine cF.mono ?_; rintro e W14 ⟨v, rfl, _, hv2, hb1⟩; obtain rfl := hv2 (by rw [HFe.out]; decide); rw [HFe.out]; refine Hid.out ?_))
      refine Lib.hid ?_
      have hbb := (hb1.block _ (Array.getElem?_eq_some_iff.1 hbb).1).trans hbb
      have hcc := (hb1.block _ (Array.getElem?_eq_some_iff.1 hcc).1).trans hcc
      have hBW14 := on1 hBW13 hb1 (Nat.le_refl _)
      clear hb1 x0W13 x1W13 h0 cF
      go_wp2_with (first | (go_at_call 7; refine (c7.out 5 _ hBW14).mono ?_; rintro e W15 ⟨rfl, hb1⟩; refine Hid.out ?_))
      refine Lib.hid ?_
      have hbb := (hb1.block _ (Array.getElem?_eq_some_iff.1 hbb).1).trans hbb
      have hcc := (hb1.block _ (Array.getElem?_eq_some_iff.1 hcc).1).trans hcc
      have hBW15 := on1 hBW14 hb1 (Nat.le_refl _)
      have c18 := texts_nil W15
      clear hb1
      go_wp2_with (first | (go_at_call 18; refine c18.mono ?_; rintro e W16 ⟨rfl, hb1⟩; refine Hid.out ?_))
      refine Lib.hid ?_
      have hbb := (hb1.block _ (Array.getElem?_eq_some_iff.1 hbb).1).trans hbb
      have hcc := (hb1.block _ (Array.getElem?_eq_some_iff.1 hcc).1).trans hcc
      have HB16 := Lib.hid (HBw.out _ (on1 hBW15 hb1 (Nat.le_refl _)))
      have b0 := cellB (i := 0) hbb rfl
      have b1 := cellB (i := 1) hbb rfl
      have b2 := cellB (i := 2) hbb rfl
      have b3 := cellB (i := 3) hbb rfl
      have b4 := cellB (i := 4) hbb rfl
      have d0 := cellB (i := 0) hcc rfl
      have d1' := cellB (i := 1) hcc rfl
      have d2' := cellB (i := 2) hcc rfl
      have d3 := cellB (i := 3) hcc rfl
      have d4 := cellB (i := 4) hcc rfl
      have heq := bond_eqx (bs x.nm) (bs x.fr) (bs x.tt) x.mn x.mx
      clear hb1 hbb hcc
      go_wp2
      go_ret
      exact ⟨rfl, HB16.out⟩
end Go.Proofs.YtgjlonilbhlneaaGreatDoor
