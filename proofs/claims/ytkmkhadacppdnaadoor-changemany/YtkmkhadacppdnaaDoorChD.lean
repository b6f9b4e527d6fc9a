/-
  The walk of change.setRange.
-/
import Derived.Test.YtkmkhadacppdnaaDoorChC
import Derived.BigRegion
namespace Go.Proofs.YtkmkhadacppdnaaDoor
open Go.RowKit
set_option linter.unusedVariables false
set_option linter.unusedSimpArgs false

set_option maxHeartbeats 4000000 in
set_option maxRecDepth 100000 in
theorem setRange_no {w : World} {base p : Nat} {L : List Kd} {B : List Bd} (h : OSc w base p L B) (hn : B.length ≤ 12) (c : Ch) (hc : ChIs w c) (hx : idxB c.nm B 0 = -1) :
    Calls Tryd.prog 30 #[.pointer (some ⟨p, 0, none⟩), c.one] w fun e w' => e = .returned (errV 5) ∧ Below w.heap.size w w' := by
  obtain ⟨vk, vb, hp, hX, hK, hA, hT⟩ := h
  obtain ⟨a, cp, rfl⟩ := own_slice hT
  obtain ⟨wh, nm, ⟨kn, ko, kf, vo, vf⟩, ⟨bn, bf, bt, mn, mx⟩, ⟨fn, ft, fm, fk⟩, vt, vn, vs, tn⟩ := c
  obtain ⟨ao, lo1, co, q1⟩ := hc.1.sl
  obtain ⟨af, lf1, cf, q2⟩ := hc.2.sl
  simp only at q1 q2 hx ⊢
  subst q1 q2
  obtain ⟨W0, hW0⟩ : ∃ W0, W0 = w.alloc (.cells #[.int .i64 wh, .string (bs nm), .string (bs kn), .slice ao lo1 co, .slice af lf1 cf, .string (bs bn), .string (bs bf), .string (bs bt), .int .i64 mn, .int .i64 mx, .string (bs fn), .int .i64 ft, .bool fm, .bool fk, .int .i64 vt, .int .i64 vn, .string (bs vs), .string (bs tn)] 42) := ⟨_, rfl⟩
  have hB0 : Below w.heap.size w W0 := by rw [hW0]; exact b_alloc (Below.refl _ _) _
  have n0 := heap_alloc_new w (.cells #[.int .i64 wh, .string (bs nm), .string (bs kn), .slice ao lo1 co, .slice af lf1 cf, .string (bs bn), .string (bs bf), .string (bs bt), .int .i64 mn, .int .i64 mx, .string (bs fn), .int .i64 ft, .bool fm, .bool fk, .int .i64 vt, .int .i64 vn, .string (bs vs), .string (bs tn)] 42)
  rw [← hW0] at n0
  have hX0 := (hB0.block p (Array.getElem?_eq_some_iff.1 hX).1).trans hX
  have c0 : W0.cell? ⟨p, 1, none⟩ = some (.slice a B.length cp) := cell_at hX0 rfl
  have c1 : W0.cell? ⟨w.heap.size, 1, none⟩ = some (.string (bs nm)) := cell_at n0 rfl
  have cc : ∀ W, Below W0.heap.size W0 W → Calls Tryd.prog 56 #[.slice a B.length cp, .string (bs nm)] W fun e w' => e = .returned (.int .i64 (-1)) ∧ Below W.heap.size W w' := fun W hb => by
    have := findBond_any (OwnBs.isB (base := base) (own_kt (own_kt hT (.of_below hB0)) (.of_below hb))) hn nm
    rw [hx] at this
    exact this
  have HC := Lib.hid cc
  have HB0 := Lib.hid hB0
  clear hT hK hA hX hx hX0 cc n0 hB0
  go_enter Tryd.func30, Tryd.ntmps30
  go_upto_region 1 with fail
  rw [← hW0]
  clear hW0
  go_cut [5] (fun s wx => s = .int .i64 (-1) ∧ Below W0.heap.size W0 wx)
  case first =>
    go_region_with (go_at_call 56; refine (HC.out _ (b_drewK (Below.refl _ _) 1)).mono ?_; rintro e W2 ⟨rfl, hB2⟩)
    all_goals go_wp2
    all_goals go_meet
    all_goals exact ⟨rfl, on1K (b_drewK (Below.refl _ _) 1) hB2 (Nat.le_refl _)⟩
  case rest =>
    obtain ⟨rfl, hB⟩ := hcut
    go_wp2
    go_ret
    exact ⟨rfl, on1K HB0.out hB (Nat.le_refl _)⟩
/-- The row of bonds, written to. -/
theorem osc_setR {w : World} {base p g cp j : Nat} {L : List Kd} {B : List Bd} {vk : Value} {x : Bd} (hp : base ≤ p) (hX : w.heap[p]? = some (.cells #[vk, .slice (some ⟨g, 0, none⟩) B.length cp] 25 (0, 0))) (hK : OwnKs w base vk L) (hA : Apt L) (hT : OwnBs w base (.slice (some ⟨g, 0, none⟩) B.length cp) B) (hj : B[j]? = some x) (mn mx : Int) :
    OSc ((w.setCell ⟨g, j * 5 + 3, none⟩ (.int .i64 mn)).setCell ⟨g, j * 5 + 4, none⟩ (.int .i64 mx)) base p L (B.set j { x with mn := mn, mx := mx }) ∧ Below base w ((w.setCell ⟨g, j * 5 + 3, none⟩ (.int .i64 mn)).setCell ⟨g, j * 5 + 4, none⟩ (.int .i64 mx)) := by
  have hgb : base ≤ g := (World.ownsRow.lt hT g rfl).1
  have h1 := World.ownsRow.stored hT (j * 5 + 3) (.int .i64 mn)
  have h2 := World.ownsRow.stored h1.1 (j * 5 + 4) (.int .i64 mx)
  have kk : ∀ t : TypeId, t ≠ 36 → Kt t w ((w.setCell ⟨g, j * 5 + 3, none⟩ (.int .i64 mn)).setCell ⟨g, j * 5 + 4, none⟩ (.int .i64 mx)) := fun t n1 => (Kt.of_own hT (Ne.symm n1) h1.2).trans (Kt.of_own h1.1 (Ne.symm n1) h2.2)
  refine ⟨⟨vk, _, hp, (kk 25 (by decide)).2 p _ hX, hK.kt (kk 34 (by decide)) (kk 9 (by decide)) (kk 38 (by decide)), hA, ?_⟩, ?_⟩
  · unfold OwnBs
    rw [cells_setR B j x hj mn mx, List.length_set]
    exact h2.1
  · exact ((Below.refl _ _).setCell (p := ⟨g, j * 5 + 3, none⟩) hgb _).setCell (p := ⟨g, j * 5 + 4, none⟩) hgb _
/-- The row of bonds, written to the other way round. -/
theorem osc_setR2 {w : World} {base p g cp j : Nat} {L : List Kd} {B : List Bd} {vk : Value} {x : Bd} (hp : base ≤ p) (hX : w.heap[p]? = some (.cells #[vk, .slice (some ⟨g, 0, none⟩) B.length cp] 25 (0, 0))) (hK : OwnKs w base vk L) (hA : Apt L) (hT : OwnBs w base (.slice (some ⟨g, 0, none⟩) B.length cp) B) (hj : B[j]? = some x) (mn mx : Int) :
    OSc ((w.setCell ⟨g, j * 5 + 4, none⟩ (.int .i64 mx)).setCell ⟨g, j * 5 + 3, none⟩ (.int .i64 mn)) base p L (B.set j { x with mn := mn, mx := mx }) ∧ Below base w ((w.setCell ⟨g, j * 5 + 4, none⟩ (.int .i64 mx)).setCell ⟨g, j * 5 + 3, none⟩ (.int .i64 mn)) := by
  have hgb : base ≤ g := (World.ownsRow.lt hT g rfl).1
  have h1 := World.ownsRow.stored hT (j * 5 + 4) (.int .i64 mx)
  have h2 := World.ownsRow.stored h1.1 (j * 5 + 3) (.int .i64 mn)
  have kk : ∀ t : TypeId, t ≠ 36 → Kt t w ((w.setCell ⟨g, j * 5 + 4, none⟩ (.int .i64 mx)).setCell ⟨g, j * 5 + 3, none⟩ (.int .i64 mn)) := fun t n1 => (Kt.of_own hT (Ne.symm n1) h1.2).trans (Kt.of_own h1.1 (Ne.symm n1) h2.2)
  refine ⟨⟨vk, _, hp, (kk 25 (by decide)).2 p _ hX, hK.kt (kk 34 (by decide)) (kk 9 (by decide)) (kk 38 (by decide)), hA, ?_⟩, ?_⟩
  · unfold OwnBs
    rw [cells_setR B j x hj mn mx, List.length_set, List.set_comm _ _ (by omega)]
    exact h2.1
  · exact ((Below.refl _ _).setCell (p := ⟨g, j * 5 + 4, none⟩) hgb _).setCell (p := ⟨g, j * 5 + 3, none⟩) hgb _
set_option maxHeartbeats 8000000 in
set_option maxRecDepth 100000 in
theorem setRange_yes {w : World} {base p : Nat} {L : List Kd} {B : List Bd} (h : OSc w base p L B) (hbase : base ≤ w.heap.size) (hn : B.length ≤ 12) (c : Ch) (hc : ChIs w c) (hx : ¬ idxB c.nm B 0 = -1) :
    Calls Tryd.prog 30 #[.pointer (some ⟨p, 0, none⟩), c.one] w fun e w' => e = .returned (errV 0) ∧ OSc w' base p L (setR B c.nm c.bd.mn c.bd.mx) ∧ Below base w w' := by
  obtain ⟨vk, vb, hp, hX, hK, hA, hT⟩ := h
  obtain ⟨wh, nm, ⟨kn, ko, kf, vo, vf⟩, ⟨bn, bf, bt, mn, mx⟩, ⟨fn, ft, fm, fk⟩, vt, vn, vs, tn⟩ := c
  obtain ⟨ao, lo1, co, q1⟩ := hc.1.sl
  obtain ⟨af, lf1, cf, q2⟩ := hc.2.sl
  simp only at q1 q2 hx ⊢
  subst q1 q2
  obtain ⟨W0, hW0⟩ : ∃ W0, W0 = w.alloc (.cells #[.int .i64 wh, .string (bs nm), .string (bs kn), .slice ao lo1 co, .slice af lf1 cf, .string (bs bn), .string (bs bf), .string (bs bt), .int .i64 mn, .int .i64 mx, .string (bs fn), .int .i64 ft, .bool fm, .bool fk, .int .i64 vt, .int .i64 vn, .string (bs vs), .string (bs tn)] 42) := ⟨_, rfl⟩
  have hB0 : Below w.heap.size w W0 := by rw [hW0]; exact b_alloc (Below.refl _ _) _
  have n0 := heap_alloc_new w (.cells #[.int .i64 wh, .string (bs nm), .string (bs kn), .slice ao lo1 co, .slice af lf1 cf, .string (bs bn), .string (bs bf), .string (bs bt), .int .i64 mn, .int .i64 mx, .string (bs fn), .int .i64 ft, .bool fm, .bool fk, .int .i64 vt, .int .i64 vn, .string (bs vs), .string (bs tn)] 42)
  rw [← hW0] at n0
  have hX0 := (hB0.block p (Array.getElem?_eq_some_iff.1 hX).1).trans hX
  obtain ⟨j, x, hj, hat, hq, _⟩ := idxB_has hx
  have hjl := (List.getElem?_eq_some_iff.1 hq).1
  have hsr : setR B nm mn mx = B.set j { x with mn := mn, mx := mx } := by unfold setR; rw [hat, hq]
  rw [hsr]
  rcases (hT : w.ownsRow base 36 5 vb B.length (cellsBd B)).2 with ⟨rfl, h0⟩ | ⟨g, cp, cur, rfl, _, hgw, hlc, hcm, _⟩
  · omega
  have c0 : W0.cell? ⟨p, 1, none⟩ = some (.slice (some ⟨g, 0, none⟩) B.length cp) := cell_at hX0 rfl
  have c1 : W0.cell? ⟨w.heap.size, 1, none⟩ = some (.string (bs nm)) := cell_at n0 rfl
  have cc : ∀ W, Below W0.heap.size W0 W → Calls Tryd.prog 56 #[.slice (some ⟨g, 0, none⟩) B.length cp, .string (bs nm)] W fun e w' => e = .returned (.int .i64 (j : Int)) ∧ Below W.heap.size W w' := fun W hb => by
    have := findBond_any (OwnBs.isB (base := base) (own_kt (own_kt hT (.of_below hB0)) (.of_below hb))) hn nm
    rw [hj] at this
    exact this
  have HC := Lib.hid cc
  have hwl : w.heap.size < W0.heap.size := by rw [hW0]; simp
  have hwg : g < w.heap.size := (Array.getElem?_eq_some_iff.1 hgw).1
  have hwp : p < w.heap.size := (Array.getElem?_eq_some_iff.1 hX).1
  have hgp : ¬ g = p := fun e => by rw [e, hX] at hgw; injection hgw with e3; injection e3 with _ e4; exact absurd e4 (by decide)
  have HK : Hid (Below w.heap.size w W0 ∧ base ≤ p ∧ W0.heap[p]? = some (.cells #[vk, .slice (some ⟨g, 0, none⟩) B.length cp] 25 (0, 0)) ∧ OwnKs W0 base vk L ∧ Apt L ∧ OwnBs W0 base (.slice (some ⟨g, 0, none⟩) B.length cp) B ∧ B[j]? = some x ∧ W0.heap[w.heap.size]? = some (.cells #[.int .i64 wh, .string (bs nm), .string (bs kn), .slice ao lo1 co, .slice af lf1 cf, .string (bs bn), .string (bs bf), .string (bs bt), .int .i64 mn, .int .i64 mx, .string (bs fn), .int .i64 ft, .bool fm, .bool fk, .int .i64 vt, .int .i64 vn, .string (bs vs), .string (bs tn)] 42 (0, 0))) := ⟨hB0, hp, hX0, hK.kt (.of_below hB0) (.of_below hB0) (.of_below hB0), hA, own_kt hT (.of_below hB0), hq, n0⟩
  have hjn : ¬ (j : Int) < 0 := by omega
  have hji : (j : Int) < (B.length : Int) := by omega
  clear hT hK hA hX hx hX0 cc n0 hB0 hj hat hq hsr hgw
  go_enter Tryd.func30, Tryd.ntmps30
  go_upto_region 1 with fail
  rw [← hW0]
  clear hW0
  go_cut [5] (fun s wx => s = .int .i64 (j : Int) ∧ Below W0.heap.size W0 wx)
  case first =>
    go_region_with (go_at_call 56; refine (HC.out _ (b_drewK (Below.refl _ _) 1)).mono ?_; rintro e W2 ⟨rfl, hB2⟩)
    all_goals go_wp2
    all_goals go_meet
    all_goals exact ⟨rfl, on1K (b_drewK (Below.refl _ _) 1) hB2 (Nat.le_refl _)⟩
  case rest =>
    obtain ⟨rfl, hB⟩ := hcut
    obtain ⟨k1, k2, k3, k4, k5, k6, k7, k8⟩ := HK.out
    have x3 := (hB.block p (by omega)).trans k3
    have x8 := (hB.block w.heap.size (by omega)).trans k8
    have x6 : OwnBs wc base (.slice (some ⟨g, 0, none⟩) B.length cp) B := own_kt k6 (.of_below hB)
    have d0 : wc.cell? ⟨p, 1, none⟩ = some (.slice (some ⟨g, 0, none⟩) B.length cp) := cell_at x3 rfl
    have d8 : wc.cell? ⟨w.heap.size, 8, none⟩ = some (.int .i64 mn) := cell_at x8 rfl
    have d9 : wc.cell? ⟨w.heap.size, 9, none⟩ = some (.int .i64 mx) := cell_at x8 rfl
    have cells := World.ownsRow.cells x6 (g := g) rfl
    have g3 : wc.cell? ⟨g, j * 5 + 3, none⟩ = some (.int .i64 x.mn) := by
      have := cells (j * 5 + 3) _ ((flatK bd_len B j x 3 k7 (by omega)).trans rfl)
      rw [Addr.add_lit, Nat.zero_add] at this; exact this
    have g4 : wc.cell? ⟨g, j * 5 + 4, none⟩ = some (.int .i64 x.mx) := by
      have := cells (j * 5 + 4) _ ((flatK bd_len B j x 4 k7 (by omega)).trans rfl)
      rw [Addr.add_lit, Nat.zero_add] at this; exact this
    obtain ⟨cur, hcur⟩ : ∃ cur, wc.heap[g]? = some (.cells cur 36 (0, 0)) := by
      rcases x6.2 with ⟨h0, _⟩ | ⟨g', cap', cur, h0, _, hg', _⟩
      · cases h0
      · injection h0 with e1
        injection e1 with e1
        injection e1 with e1
        subst e1
        exact ⟨cur, hg'⟩
    have z3 : wc.frozen? ⟨g, j * 5 + 3, none⟩ = false := frz_at hcur
    have z4 : wc.frozen? ⟨g, j * 5 + 4, none⟩ = false := frz_at hcur
    have HE := Lib.hid (osc_setR (w := wc.drew) (mn := mn) (mx := mx) k2 x3 (k4.kt (.of_below hB.drew) (.of_below hB.drew) (.of_below hB.drew)) k5 x6 k7)
    have HE2 := Lib.hid (osc_setR2 (w := wc.drew) (mn := mn) (mx := mx) k2 x3 (k4.kt (.of_below hB.drew) (.of_below hB.drew) (.of_below hB.drew)) k5 x6 k7)
    have HBw : Hid (Below base w wc.drew) := ((on1K k1 hB (Nat.le_refl _)).mono hbase).drew
    have hgw : ¬ g = w.heap.size := by omega
    have hpw : ¬ p = g := fun e => hgp e.symm
    have hwg' : ¬ w.heap.size = g := by omega
    clear HK HC k1 k2 k3 k4 k5 k6 k7 k8 x3 x8 x6 cells hcur hB
    go_wp2
    go_region
    all_goals go_wp2
    all_goals go_ret
    all_goals first | exact ⟨rfl, HE.out.1, HBw.out.trans HE.out.2⟩ | exact ⟨rfl, HE2.out.1, HBw.out.trans HE2.out.2⟩
end Go.Proofs.YtkmkhadacppdnaaDoor
