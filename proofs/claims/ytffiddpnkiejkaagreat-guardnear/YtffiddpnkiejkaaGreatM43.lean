/-
  GuardNear where the ops can be done.
-/
import Derived.Test.YtffiddpnkiejkaaGreatM42
namespace Go.Proofs.YtffiddpnkiejkaaGreat
open Go.RowKit
set_option linter.unusedVariables false
set_option linter.unusedSimpArgs false

set_option maxHeartbeats 16000000 in
set_option maxRecDepth 100000 in
theorem near_yes {vs vg vl : Value} {L : List Kd} {B : List Bd} {N : List Nd} {T : List Te} {O : List Opx} {w : World} (hs : IsSc w vs L B) (hg : IsG w vg N T) (hl : IsO w vl O) (zl : ∀ o ∈ O, OpSz o) (lO : O.length ≤ maxLen) (h : AllOk N T O) :
    Calls Tryz.prog 3 #[vs, vg, vl] w fun e w' => e = .returned (.bool true) ∧ Below w.heap.size w w' := by
  have HP : Hid (IsSc w vs L B ∧ IsG w vg N T ∧ IsO w vl O ∧ AllOk N T O) := ⟨hs, hg, hl, h⟩
  obtain ⟨a1, n1, c1, b1, m1, d1, rfl⟩ := isSc_sl hs
  obtain ⟨vn, vt, rfl, hN, hT, zN, zT, lN, lT⟩ := hg
  have HN : Hid (IsN w vn N ∧ IsT w vt T) := ⟨hN, hT⟩
  obtain ⟨an, cn, rfl, _, hn⟩ := hN
  obtain ⟨am, cm, rfl, _, hm⟩ := hT
  have HLN : Hid (N = [] ∨ ∃ b off, an = some ⟨b, off, none⟩ ∧ b < w.heap.size ∧ LiesN w b off N) := hn
  have HLT : Hid (T = [] ∨ ∃ b off, am = some ⟨b, off, none⟩ ∧ b < w.heap.size ∧ LiesT w b off T) := hm
  obtain ⟨a3, n3, c3, rfl⟩ := isO_sl hl
  have hl60 := gErr_len h.2.1
  obtain ⟨h60, h120⟩ := hl60
  obtain ⟨W0, hW0⟩ : ∃ W0, W0 = box2 w #[.slice a1 n1 c1, .slice b1 m1 d1] 25 #[.slice an N.length cn, .slice am T.length cm] 29 := ⟨_, rfl⟩
  have HB0 : Hid (Below w.heap.size w W0) := by rw [hW0]; exact box2_below _ _ _ _ _
  have x0 : W0.cell? ⟨w.heap.size, 0, none⟩ = some (.slice a1 n1 c1) := by rw [hW0]; exact box2_a _ _ _ _ _ rfl
  have x1 : W0.cell? ⟨w.heap.size, 1, none⟩ = some (.slice b1 m1 d1) := by rw [hW0]; exact box2_a _ _ _ _ _ rfl
  have x2 : W0.cell? ⟨w.heap.size + 1, 0, none⟩ = some (.slice an N.length cn) := by rw [hW0]; exact box2_b _ _ _ _ _ rfl
  have x3 : W0.cell? ⟨w.heap.size + 1, 1, none⟩ = some (.slice am T.length cm) := by rw [hW0]; exact box2_b _ _ _ _ _ rfl
  have hs0 : W0.heap.size = w.heap.size + 2 := by rw [hW0]; exact box2_size _ _ _ _ _
  have HC : Hid (∀ W, Below W0.heap.size W0 W → Below w.heap.size w W ∧ (W.cell? ⟨w.heap.size, 0, none⟩ = some (.slice a1 n1 c1) ∧ W.cell? ⟨w.heap.size, 1, none⟩ = some (.slice b1 m1 d1)) ∧ W.cell? ⟨w.heap.size + 1, 0, none⟩ = some (.slice an N.length cn) ∧ W.cell? ⟨w.heap.size + 1, 1, none⟩ = some (.slice am T.length cm) ∧ w.heap.size + 1 < W.heap.size) := fun W hB =>
    ⟨on1K HB0.out hB (Nat.le_refl _), ⟨(hB.cell (p := ⟨w.heap.size, 0, none⟩) (by show w.heap.size < _; omega)).trans x0, (hB.cell (p := ⟨w.heap.size, 1, none⟩) (by show w.heap.size < _; omega)).trans x1⟩, (hB.cell (p := ⟨w.heap.size + 1, 0, none⟩) (by show w.heap.size + 1 < _; omega)).trans x2, (hB.cell (p := ⟨w.heap.size + 1, 1, none⟩) (by show w.heap.size + 1 < _; omega)).trans x3, by have := hB.size; omega⟩
  have cF := fc_any W0
  have HT : Hid (∀ W, Below w.heap.size w W → Calls Tryz.prog 5 #[.agg #[.slice an N.length cn, .slice am T.length cm], .slice a3 n3 c3] W fun e w' => ∃ v L', e = .returned (.tuple #[v, .nilIface]) ∧ IsI w' v L' ∧ (∀ x, x ∈ L' ↔ x ∈ touA T O) ∧ L'.length ≤ 5000 ∧ L'.Pairwise (· < ·) ∧ Below W.heap.size W w') := fun W hB => touched_yes (HN.out.1.on hB) (HN.out.2.on hB) zN zT (HP.out.2.2.1.on hB) zl h
  have HA : Hid (∀ W, Below w.heap.size w W → Calls Tryz.prog 6 #[.agg #[.slice an N.length cn, .slice am T.length cm], .slice a3 n3 c3] W fun e w' => ∃ a l c b m d M, e = .returned (.tuple #[.agg #[.slice a l c, .slice b m d], .int .i64 0, .nilIface]) ∧ cN M = resN N T O ∧ OwnNs w' W.heap.size (.slice a l c) M ∧ OwnTs w' W.heap.size (.slice b m d) (resT N T O) ∧ gErr M (resT N T O) = 0 ∧ Below W.heap.size W w') := fun W hB => all_yes (HN.out.1.on hB) (HN.out.2.on hB) zN zT (HP.out.2.2.1.on hB) zl h
  have HG : Hid (∀ W, Below w.heap.size w W → Calls Tryz.prog 12 #[.agg #[.slice a1 n1 c1, .slice b1 m1 d1], .agg #[.slice an N.length cn, .slice am T.length cm], .slice a3 n3 c3] W fun e w' => ∃ a c e2 F, e = .returned (.tuple #[.slice a (F : List Ft).length c, e2]) ∧ IsX w' (.slice a F.length c) F ∧ (∀ f ∈ F, f.id ∈ touA T O ∨ f.wh = 4) ∧ Below W.heap.size W w') := fun W hB => gd_near (HP.out.1.on hB) (HP.out.2.1.on hB) (HP.out.2.2.1.on hB) zl lO h
  clear hs hl zl lO h x0 x1 x2 x3 hs0 hn hm zN zT lN lT
  go_enter Tryz.func3, Tryz.ntmps3
  go_upto_region 1 with fail
  unfold box2 at hW0
  rw [← hW0]
  clear hW0
  unfold oGW fcW at cF
  go_wp2_with (first
    | (go_at_call 5; have hq := HB1; refine cT.mono ?_; rintro e W2 ⟨v2, L2, rfl, hI2, hm2, hl2, _, hB2⟩; have hB02 := on1K HB1.out hB2 (Nat.le_refl _); obtain ⟨hb2, _, z2, z3, _⟩ := HC.out W2 hB02; have cA := HA.out W2 hb2; have H2 := Lib.hid (And.intro hI2 (And.intro hm2 (And.intro hl2 hB02))); clear hI2 hm2 hl2 hB2 hB02 hb2 hq)
    | (go_at_call 5; refine cF.mono ?_; rintro e W1 ⟨bf, cf, rfl, y0, hB1⟩; obtain ⟨hb1, _, y2, y3, _⟩ := HC.out W1 hB1; have cT := HT.out W1 hb1; have HB1 := Lib.hid hB1; clear hb1 hB1 cF)
    | (go_at_call 6; refine cA.mono ?_; rintro e W3 ⟨a, l, c, b, m, d, M, rfl, hM, o1, o2, g4, hB3⟩; refine Hid.out ?_))
  refine Lib.hid ?_
  obtain ⟨W4, hW4⟩ : ∃ W4, W4 = W3.alloc (.cells #[.slice a l c, .slice b m d] 29) := ⟨_, rfl⟩
  have hB4 : Below W3.heap.size W3 W4 := by rw [hW4]; exact b_alloc (Below.refl _ _) _
  have n4 : W4.heap[W3.heap.size]? = some (.cells #[.slice a l c, .slice b m d] 29 (0, 0)) := by rw [hW4]; exact heap_alloc_new W3 _
  have p0 : W4.cell? ⟨W3.heap.size, 0, none⟩ = some (.slice a l c) := cell_at n4 rfl
  have p1 : W4.cell? ⟨W3.heap.size, 1, none⟩ = some (.slice b m d) := cell_at n4 rfl
  have hs4 : W3.heap.size < W4.heap.size := by rw [hW4]; simp
  have hB24 : Below W2.heap.size W2 W4 := on1K hB3 hB4 (Nat.le_refl _)
  have hB04 : Below W0.heap.size W0 W4 := on1K H2.out.2.2.2 hB24 (Nat.le_refl _)
  have HQ : Hid (∀ W, Below W4.heap.size W4 W → Below w.heap.size w W ∧ ((W.cell? ⟨w.heap.size, 0, none⟩ = some (.slice a1 n1 c1) ∧ W.cell? ⟨w.heap.size, 1, none⟩ = some (.slice b1 m1 d1)) ∧ W.cell? ⟨w.heap.size + 1, 0, none⟩ = some (.slice an N.length cn) ∧ W.cell? ⟨w.heap.size + 1, 1, none⟩ = some (.slice am T.length cm)) ∧ (W.cell? ⟨W3.heap.size, 0, none⟩ = some (.slice a l c) ∧ W.cell? ⟨W3.heap.size, 1, none⟩ = some (.slice b m d)) ∧ IsI W v2 L2 ∧ (IsN W (.slice a l c) M ∧ IsT W (.slice b m d) (resT N T O)) ∧ w.heap.size + 1 < W.heap.size ∧ W3.heap.size < W.heap.size) := fun W hB => by
    obtain ⟨q1, ⟨q2, q3⟩, q4, q5, q6⟩ := HC.out W (on1K hB04 hB (Nat.le_refl _))
    exact ⟨q1, ⟨⟨q2, q3⟩, q4, q5⟩, ⟨(hB.cell (p := ⟨W3.heap.size, 0, none⟩) hs4).trans p0, (hB.cell (p := ⟨W3.heap.size, 1, none⟩) hs4).trans p1⟩, H2.out.1.on (on1K hB24 hB (Nat.le_refl _)), ⟨(o1.kt (.of_below hB4) (.of_below hB4)).isN.on hB, (o2.kt (.of_below hB4)).isT.on hB⟩, q6, Nat.lt_of_lt_of_le hs4 hB.size⟩
  have HM : Hid (cN M = resN N T O ∧ gErr M (resT N T O) = 0) := ⟨hM, g4⟩
  clear hM g4 o1 o2 hB3 hB4 n4 p0 p1 hB24 hB04 cA cT y0 y2 y3 z2 z3 HC HT HA
  go_upto_region 9 with fail
  rw [← hW4]
  clear hW4 hs4
  go_wp2
  go_loopw [15] (fun i wr => NrI N.length W4 i wr) (fun i _ => N.length - (intOf i).toNat)
  case atStart => exact ⟨0, Nat.zero_le _, rfl, Below.refl _ _⟩
  case round =>
    obtain ⟨k, hk, rfl, hB⟩ := hrel
    obtain ⟨WR, hWR⟩ : ∃ W, W = wr := ⟨wr, rfl⟩
    subst hWR
    obtain ⟨hbw, ⟨⟨s0, s1⟩, g0, g1⟩, ⟨o0, o1⟩, hI, ⟨hIM, hIT⟩, z1, z2⟩ := HQ.out WR hB
    by_cases hlt : k < N.length
    · obtain ⟨n, hn⟩ : ∃ n, N[k]? = some n := ⟨N[k], by simp [hlt]⟩
      rcases HLN.out with rfl | ⟨bb, off, rfl, hb, hL⟩
      · exact absurd hlt (by simp)
      obtain ⟨e0, e1, e2, hR⟩ := hL k n hn
      have d0 := (hbw.cell (p := ⟨bb, off + k * 3, none⟩) hb).trans e0
      have d1 := (hbw.cell (p := ⟨bb, off + k * 3 + 1, none⟩) hb).trans e1
      have d2 := (hbw.cell (p := ⟨bb, off + k * 3 + 2, none⟩) hb).trans e2
      have hRr := hR.on hbw
      obtain ⟨av, lv, cv, hv⟩ := hR.sl
      have hmem := List.mem_of_getElem? hn
      have hbr : bb < WR.heap.size := Nat.lt_of_lt_of_le hb hbw.size
      have hbn : ¬ bb = WR.heap.size := by omega
      have hwn : ¬ w.heap.size + 1 = WR.heap.size := by omega
      have h3n : ¬ W3.heap.size = WR.heap.size := by omega
      have HNM : Hid (n ∈ N) := hmem
      have HRR : Hid (IsR WR n.rv n.rc) := hRr
      have hrc : n.rc.length ≤ 8 := gErr_rc8 HP.out.2.2.2.2.1 n hmem
      have HRC : Hid (n.rc.length ≤ 8) := hrc
      rw [hv] at d2
      obtain ⟨WA, hWA⟩ : ∃ WA, WA = WR.alloc (.cells #[.int .i64 n.id, .string n.kd, .slice av lv cv] 34) := ⟨_, rfl⟩
      have hBA : Below WR.heap.size WR WA := by rw [hWA]; exact b_alloc (Below.refl _ _) _
      have nA : WA.heap[WR.heap.size]? = some (.cells #[.int .i64 n.id, .string n.kd, .slice av lv cv] 34 (0, 0)) := by rw [hWA]; exact heap_alloc_new WR _
      have hB4A : Below W4.heap.size W4 WA := on1K hB hBA (Nat.le_refl _)
      have hsA : WR.heap.size < WA.heap.size := by rw [hWA]; simp
      have HV : Hid (n.rv = .slice av lv cv) := hv
      have HKA : Hid (∀ W, Below WA.heap.size WA W → Below W4.heap.size W4 W ∧ (W.cell? ⟨WR.heap.size, 0, none⟩ = some (.int .i64 n.id) ∧ W.cell? ⟨WR.heap.size, 1, none⟩ = some (.string n.kd) ∧ W.cell? ⟨WR.heap.size, 2, none⟩ = some (.slice av lv cv)) ∧ IsR W (.slice av lv cv) n.rc ∧ WR.heap.size < W.heap.size) := fun W hW =>
        ⟨on1K hB4A hW (Nat.le_refl _), ⟨(hW.cell (p := ⟨WR.heap.size, 0, none⟩) hsA).trans (cell_at nA rfl), (hW.cell (p := ⟨WR.heap.size, 1, none⟩) hsA).trans (cell_at nA rfl), (hW.cell (p := ⟨WR.heap.size, 2, none⟩) hsA).trans (cell_at nA rfl)⟩, HV.out ▸ HRR.out.on (on1K hBA hW (Nat.le_refl _)), Nat.lt_of_lt_of_le hsA hW.size⟩
      obtain ⟨_, ⟨f0, f1, f2⟩, _, _⟩ := HKA.out WA (Below.refl _ _)
      have cI := rin_any (hI.on hBA) H2.out.2.2.1 n.id
      clear e0 e1 e2 hR hRr hv hmem hL hn hrc nA hI hIM hIT hbw s0 s1 o0 o1
      by_cases hi : n.id ∈ touA T O
      · have hc : L2.contains n.id = true := by
          rw [List.contains_iff_mem]; exact (H2.out.2.1 _).2 hi
        rw [hc] at cI
        have HR : Hid (NrI N.length W4 (.int .i64 ((k + 1 : Nat) : Int)) WA) := ⟨k + 1, by omega, rfl, hB4A⟩
        clear hi hc hB hB4A hBA
        go_upto_region 15 with fail
        rw [← hWA]
        clear hWA
        go_wp2_with (first | (go_at_call 7; refine cI.mono ?_; rintro e Wx ⟨rfl, rfl⟩))
        refine ⟨?_, ?_⟩
        · first | exact HR.out | ((repeat apply Exists.intro); refine ⟨?_, rfl⟩; exact HR.out)
        · simp [intOf]
          try omega
      · have hc : L2.contains n.id = false := by
          rw [← Bool.not_eq_true, List.contains_iff_mem]; exact fun q => hi ((H2.out.2.1 _).1 q)
        rw [hc] at cI
        obtain ⟨_, ⟨_, g0A, g1A⟩, ⟨o0A, o1A⟩, _, ⟨hMA, hTA⟩, _, _⟩ := HQ.out WA hB4A
        have HI : Hid (n.id ∉ touA T O) := hi
        have cN := node_near HP.out.2.2.2 HM.out.1 HM.out.2 hMA hTA HNM.out HI.out
        clear hi hc hB hB4A hBA hMA hTA
        go_upto_region 15 with fail
        rw [← hWA]
        clear hWA d0 d1 d2 g0 g1 hbr hbn hwn h3n
        go_wp2_with (first | (go_at_call 7; refine cI.mono ?_; rintro e Wx ⟨rfl, hWx⟩; subst hWx) | (go_at_call 8; refine cN.mono ?_; rintro e W5 ⟨a5, l5, c5, rfl, hR5, hB5⟩; refine Hid.out ?_))
        refine Lib.hid ?_
        obtain ⟨WB, hWB⟩ : ∃ WB, WB = W5.alloc (.cells #[.int .i64 n.id, .string n.kd, .slice a5 l5 c5] 34) := ⟨_, rfl⟩
        have hBB : Below W5.heap.size W5 WB := by rw [hWB]; exact b_alloc (Below.refl _ _) _
        have nB : WB.heap[W5.heap.size]? = some (.cells #[.int .i64 n.id, .string n.kd, .slice a5 l5 c5] 34 (0, 0)) := by rw [hWB]; exact heap_alloc_new W5 _
        have t0 : WB.cell? ⟨W5.heap.size, 0, none⟩ = some (.int .i64 n.id) := cell_at nB rfl
        have t1 : WB.cell? ⟨W5.heap.size, 1, none⟩ = some (.string n.kd) := cell_at nB rfl
        have t2 : WB.cell? ⟨W5.heap.size, 2, none⟩ = some (.slice a5 l5 c5) := cell_at nB rfl
        have hBAB : Below Wx.heap.size Wx WB := on1K hB5 hBB (Nat.le_refl _)
        obtain ⟨_, ⟨u0, u1, u2⟩, hRB, _⟩ := HKA.out WB hBAB
        have cS := snode_same (id := n.id) (kd := n.kd) (hR5.on hBB) hRB (Nat.le_trans HRC.out (by decide))
        have HBB := Lib.hid hBAB
        clear hBB nB hBAB hRB hR5 hB5 cI cN
        go_upto_region 18 with fail
        rw [← hWB]
        clear hWB
        go_wp2_with (first | (go_at_call 9; refine cS.mono ?_; rintro e W6 ⟨rfl, hB6⟩; have HB6 := Lib.hid hB6; clear hB6))
        have HKB : Hid (∀ W, Below W6.heap.size W6 W → Below Wx.heap.size Wx W) := fun W hW => on1K HBB.out (on1K HB6.out hW (Nat.le_refl _)) (Nat.le_refl _)
        clear t0 t1 t2 u0 u1 u2 cS f0 f1 f2 g0A g1A o0A o1A
        go_loopw [21] (fun i wr => NrI T.length W6 i wr) (fun i _ => T.length - (intOf i).toNat)
        case atStart => exact ⟨0, Nat.zero_le _, rfl, Below.refl _ _⟩
        case round =>
          obtain ⟨j, hj, rfl, hB⟩ := hrel
          obtain ⟨hb4, ⟨f0, f1, f2⟩, _, zR⟩ := HKA.out wr (HKB.out wr hB)
          obtain ⟨hbw, ⟨_, g0, g1⟩, ⟨o0, o1⟩, _, ⟨hIM, hIT⟩, z1, z2⟩ := HQ.out wr hb4
          by_cases hjl : j < T.length
          · obtain ⟨t, ht⟩ : ∃ t, T[j]? = some t := ⟨T[j], by simp [hjl]⟩
            rcases HLT.out with rfl | ⟨bt, ot, rfl, hbt, hLt⟩
            · exact absurd hjl (by simp)
            obtain ⟨e0, e1, e2⟩ := hLt j t ht
            have d0 := (hbw.cell (p := ⟨bt, ot + j * 3, none⟩) hbt).trans e0
            have d1 := (hbw.cell (p := ⟨bt, ot + j * 3 + 1, none⟩) hbt).trans e1
            have d2 := (hbw.cell (p := ⟨bt, ot + j * 3 + 2, none⟩) hbt).trans e2
            obtain ⟨WT, hWT⟩ : ∃ WT, WT = wr.alloc (.cells #[.string t.bd, .int .i64 t.fr, .int .i64 t.tt] 36) := ⟨_, rfl⟩
            have hBT : Below wr.heap.size wr WT := by rw [hWT]; exact b_alloc (Below.refl _ _) _
            have nT : WT.heap[wr.heap.size]? = some (.cells #[.string t.bd, .int .i64 t.fr, .int .i64 t.tt] 36 (0, 0)) := by rw [hWT]; exact heap_alloc_new wr _
            have hsT : wr.heap.size < WT.heap.size := by rw [hWT]; simp
            have hB6T : Below W6.heap.size W6 WT := on1K hB hBT (Nat.le_refl _)
            have HKT : Hid (∀ W, Below WT.heap.size WT W → Below W6.heap.size W6 W ∧ W.cell? ⟨wr.heap.size, 0, none⟩ = some (.string t.bd) ∧ W.cell? ⟨WR.heap.size, 0, none⟩ = some (.int .i64 n.id) ∧ (W.cell? ⟨W3.heap.size, 0, none⟩ = some (.slice a l c) ∧ W.cell? ⟨W3.heap.size, 1, none⟩ = some (.slice b m d)) ∧ (W.cell? ⟨w.heap.size + 1, 0, none⟩ = some (.slice (some ⟨bb, off, none⟩) N.length cn) ∧ W.cell? ⟨w.heap.size + 1, 1, none⟩ = some (.slice (some ⟨bt, ot, none⟩) T.length cm)) ∧ (IsN W (.slice a l c) M ∧ IsT W (.slice b m d) (resT N T O)) ∧ Below w.heap.size w W) := fun W hW => by
              have hW6 := on1K hB6T hW (Nat.le_refl _)
              obtain ⟨k4, ⟨k0, _, _⟩, _, _⟩ := HKA.out W (HKB.out W hW6)
              obtain ⟨r1, ⟨_, r2, r3⟩, r4, _, r5, _, _⟩ := HQ.out W k4
              exact ⟨hW6, (hW.cell (p := ⟨wr.heap.size, 0, none⟩) hsT).trans (cell_at nT rfl), k0, r4, ⟨r2, r3⟩, r5, r1⟩
            obtain ⟨_, y0, y1, _, ⟨y2, y3⟩, _, hwT⟩ := HKT.out WT (Below.refl _ _)
            have cO := out_near0 (O := O) HP.out.2.2.2 (HN.out.1.on hwT) (HN.out.2.on hwT) HNM.out t.bd
            have HO1 : Hid (∀ W, Below WT.heap.size WT W → Calls Tryz.prog 10 #[.agg #[.slice a l c, .slice b m d], .int .i64 n.id, .string t.bd] W fun e w' => ∃ v, e = .returned (.tuple #[v, .nilIface]) ∧ IsI w' v (outs T t.bd n.id) ∧ Below W.heap.size W w') := fun W hW => by
              obtain ⟨_, _, _, _, _, ⟨i1, i2⟩, _⟩ := HKT.out W hW
              exact out_near1 HP.out.2.2.2 HM.out.1 HM.out.2 i1 i2 HNM.out HI.out t.bd
            have HLE : Hid ((outs T t.bd n.id).length ≤ 1000) := Nat.le_trans (outs_le _ _ _) (Nat.le_trans h120 (by decide))
            have hbr : bt < wr.heap.size := Nat.lt_of_lt_of_le hbt hbw.size
            have hbn : ¬ bt = wr.heap.size := by omega
            clear e0 e1 e2 hLt ht nT hBT hB6T hB hwT hIM hIT o0 o1 f0 f1 f2 hbw hb4
            go_upto_region 25 with fail
            rw [← hWT]
            clear hWT d0 d1 d2 g0 g1
            go_wp2_with (first
              | (go_at_call 10; have hq := HB7; refine cP.mono ?_; rintro e W8 ⟨v8, rfl, hI8, hB8⟩; have cE := sints_same (H7.out.1.on hB8) hI8 HLE.out; have HB8 := Lib.hid hB8; clear hI8 hB8 hq)
              | (go_at_call 10; refine cO.mono ?_; rintro e W7 ⟨v7, rfl, hI7, hB7⟩; obtain ⟨_, y4, y5, ⟨y6, y7⟩, _, _, _⟩ := HKT.out W7 hB7; have cP := HO1.out W7 hB7; have H7 := Lib.hid (And.intro hI7 hB7); have HB7 := Lib.hid hB7; clear hI7 hB7 cO)
              | (go_at_call 11; refine cE.mono ?_; rintro e W9 ⟨rfl, hB9⟩; have HB9 := Lib.hid hB9; clear hB9))
            have HR : Hid (NrI T.length W6 (.int .i64 ((j + 1 : Nat) : Int)) W9) := ⟨j + 1, by omega, rfl, (HKT.out W9 (on1K (on1K HB7.out HB8.out (Nat.le_refl _)) HB9.out (Nat.le_refl _))).1⟩
            refine ⟨?_, ?_⟩
            · first | exact HR.out | ((repeat apply Exists.intro); refine ⟨?_, rfl⟩; exact HR.out)
            · simp [intOf]
              try omega
          · have HR : Hid (NrI N.length W4 (.int .i64 ((k + 1 : Nat) : Int)) wr) := ⟨k + 1, by omega, rfl, hb4⟩
            clear hB hb4 hbw o0 o1 hIM hIT f0 f1 f2
            go_wp2
            refine ⟨?_, ?_⟩
            · first | exact HR.out | ((repeat apply Exists.intro); refine ⟨?_, rfl⟩; exact HR.out)
            · simp [intOf]
              try omega
    · have cG := HG.out WR hbw
      have HBW : Hid (Below w.heap.size w WR ∧ Below W4.heap.size W4 WR) := ⟨hbw, hB⟩
      clear hB hbw hI hIM hIT o0 o1
      go_wp2_with (first | (go_at_call 12; refine cG.mono ?_; rintro e W10 ⟨aF, cF2, e2, F, rfl, hX, hF, hB10⟩; have HX := Lib.hid (And.intro hX (And.intro hF hB10)); clear hX hF hB10))
      clear cG s0 s1 g0 g1
      go_loopw [29] (fun i wr => NrI F.length W10 i wr) (fun i _ => F.length - (intOf i).toNat)
      case atStart => exact ⟨0, Nat.zero_le _, rfl, Below.refl _ _⟩
      case round =>
        obtain ⟨j, hj, rfl, hB⟩ := hrel
        obtain ⟨hX, hF, hB10⟩ := HX.out
        obtain ⟨ao, cx, hae, hml, hx⟩ := hX
        by_cases hjl : j < F.length
        · obtain ⟨f, hf⟩ : ∃ f, F[j]? = some f := ⟨F[j], by simp [hjl]⟩
          rcases hx with rfl | ⟨bf, rfl, hbf, hcl⟩
          · exact absurd hjl (by simp)
          injection hae with ha1 ha2 ha3
          subst ha1
          obtain ⟨c0, c1⟩ := hcl j f hf
          have d0 := (hB.cell (p := ⟨bf, j * 3, none⟩) hbf).trans c0
          have d1 := (hB.cell (p := ⟨bf, j * 3 + 1, none⟩) hbf).trans c1
          have hIw : IsI wr v2 L2 := (HQ.out wr (on1K HBW.out.2 (on1K hB10 hB (Nat.le_refl _)) (Nat.le_refl _))).2.2.2.1
          have cI := rin_any hIw H2.out.2.2.1 f.id
          have hff := hF f (List.mem_of_getElem? hf)
          have HR : Hid (NrI F.length W10 (.int .i64 ((j + 1 : Nat) : Int)) wr) := ⟨j + 1, by omega, rfl, hB⟩
          have hjm : j < 9223372036854775807 := by
            have : j < maxLen := Nat.lt_of_lt_of_le hjl hml
            unfold maxLen at this; omega
          by_cases hc : L2.contains f.id = true
          · rw [hc] at cI
            clear ha2 ha3 hcl c0 c1 hIw hff hB hB10 hF hf hc hml
            go_wp2_with (first | (go_at_call 7; refine cI.mono ?_; rintro e Wx ⟨rfl, hWx⟩; subst hWx))
            refine ⟨?_, ?_⟩
            · first | exact HR.out | ((repeat apply Exists.intro); refine ⟨?_, rfl⟩; exact HR.out)
            · simp [intOf]
              try omega
          · have hc' : L2.contains f.id = false := by simpa using hc
            rw [hc'] at cI
            have h4 : f.wh = 4 := by
              rcases hff with q | q
              · exact absurd (List.contains_iff_mem.2 ((H2.out.2.1 _).2 q)) hc
              · exact q
            rw [h4] at d0
            clear ha2 ha3 hcl c0 c1 hIw hff hB hB10 hF hf hc hc' h4 hml
            go_wp2_with (first | (go_at_call 7; refine cI.mono ?_; rintro e Wx ⟨rfl, hWx⟩; subst hWx))
            refine ⟨?_, ?_⟩
            · first | exact HR.out | ((repeat apply Exists.intro); refine ⟨?_, rfl⟩; exact HR.out)
            · simp [intOf]
              try omega
        · have HE : Hid (Below w.heap.size w wr) := on1K HBW.out.1 (on1K hB10 hB (Nat.le_refl _)) (Nat.le_refl _)
          clear hB hB10 hF hae hx hml
          go_wp2
          go_ret
          exact ⟨rfl, HE.out⟩
end Go.Proofs.YtffiddpnkiejkaaGreat
