/-
  The walk of change.setRange.
-/
import Derived.Test.YtkmkhadacppdnaaGreatDoorM17
import Derived.BigRegion
import Derived.Test.YtkmkhadacppdnaaGreatDoorM12
namespace Go.Proofs.YtkmkhadacppdnaaGreatDoor
open Go.RowKit
set_option linter.unusedVariables false
set_option linter.unusedSimpArgs false

set_option maxHeartbeats 4000000 in
set_option maxRecDepth 100000 in
theorem setRange_no {w : World} {base p : Nat} {L : List Kd} {B : List Bd} (h : OSc w base p L B) (hn : B.length ≤ 12) (c : Ch) (hc : ChIs w c) (hx : idxB c.nm B 0 = -1) :
    Calls Tryz.prog 58 #[.pointer (some ⟨p, 0, none⟩), c.one] w fun e w' => e = .returned (errV 5) ∧ Below w.heap.size w w' := by
  obtain ⟨vk, vb, hp, hX, hK, hA, hT⟩ := h
  obtain ⟨a, cp, rfl⟩ := own_slice hT
  obtain ⟨wh, nm, ⟨kn, ko, kf, vo, vf⟩, ⟨bn, bf, bt, mn, mx⟩, ⟨fn, ft, fm, fk⟩, vt, vn, vs, tn⟩ := c
  obtain ⟨ao, lo1, co, q1⟩ := hc.1.sl
  obtain ⟨af, lf1, cf, q2⟩ := hc.2.sl
  simp only at q1 q2 hx ⊢
  subst q1 q2
  obtain ⟨W0, hW0⟩ : ∃ W0, W0 = w.alloc (.cells #[.int .i64 wh, .string (bs nm), .string (bs kn), .slice ao lo1 co, .slice af lf1 cf, .string (bs bn), .string (bs bf), .string (bs bt), .int .i64 mn, .int .i64 mx, .string (bs fn), .int .i64 ft, .bool fm, .bool fk, .int .i64 vt, .int .i64 vn, .string (bs vs), .string (bs tn)] 37) := ⟨_, rfl⟩
  have hB0 : Below w.heap.size w W0 := by rw [hW0]; exact b_alloc (Below.refl _ _) _
  have n0 := heap_alloc_new w (.cells #[.int .i64 wh, .string (bs nm), .string (bs kn), .slice ao lo1 co, .slice af lf1 cf, .string (bs bn), .string (bs bf), .string (bs bt), .int .i64 mn, .int .i64 mx, .string (bs fn), .int .i64 ft, .bool fm, .bool fk, .int .i64 vt, .int .i64 vn, .string (bs vs), .string (bs tn)] 37)
  rw [← hW0] at n0
  have hX0 := (hB0.block p (Array.getElem?_eq_some_iff.1 hX).1).trans hX
  have c0 : W0.cell? ⟨p, 1, none⟩ = some (.slice a B.length cp) := cell_at hX0 rfl
  have c1 : W0.cell? ⟨w.heap.size, 1, none⟩ = some (.string (bs nm)) := cell_at n0 rfl
  have cc : ∀ W, Below W0.heap.size W0 W → Calls Tryz.prog 83 #[.slice a B.length cp, .string (bs nm)] W fun e w' => e = .returned (.int .i64 (-1)) ∧ Below W.heap.size W w' := fun W hb => by
    have := findBond_any (OwnBs.isB (base := base) (own_kt (own_kt hT (.of_below hB0)) (.of_below hb))) hn nm
    rw [hx] at this
    exact this
  have HC := Lib.hid cc
  have HB0 := Lib.hid hB0
  clear hT hK hA hX hx hX0 cc n0 hB0
  go_enter Tryz.func58, Tryz.ntmps58
  go_upto_region 1 with fail
  rw [← hW0]
  clear hW0
  go_cut [5] (fun s wx => s = .int .i64 (-1) ∧ Below W0.heap.size W0 wx)
  case first =>
    go_region_with (go_at_call 83; refine (HC.out _ (b_drewK (Below.refl _ _) 1)).mono ?_; rintro e W2 ⟨rfl, hB2⟩)
    all_goals go_wp2
    all_goals go_meet
    all_goals exact ⟨rfl, on1K (b_drewK (Below.refl _ _) 1) hB2 (Nat.le_refl _)⟩
  case rest =>
    obtain ⟨rfl, hB⟩ := hcut
    go_wp2
    go_ret
    exact ⟨rfl, on1K HB0.out hB (Nat.le_refl _)⟩
/-- The row of bonds, written to. -/
theorem osc_setR {w : World} {base p g cp j : Nat} {L : List Kd} {B : List Bd} {vk : Value} {x : Bd} (hp : base ≤ p) (hX : w.heap[p]? = some (.cells #[vk, .slice (some ⟨g, 0, none⟩) B.length cp] 25 (0, 0))) (hK : OwnKs w base vk L) (hA : Apt L) (hT : OwnBs w base (.slice (some ⟨g, 0, none⟩) B.length cp) B) (hj : B[j]? = some x) (mn mx : Int) :
    OSc ((w.setCell ⟨g, j * 5 + 3, none⟩ (.int .i64 mn)).setCell ⟨g, j * 5 + 4, none⟩ (.int .i64 mx)) base p L (B.set j { x with mn := mn, mx := mx }) ∧ Below base w ((w.setCell ⟨g, j * 5 + 3, none⟩ (.int .i64 mn)).setCell ⟨g, j * 5 + 4, none⟩ (.int .i64 mx)) := by
  have hgb : base ≤ g := (World.ownsRow.lt hT g rfl).1
  have h1 := World.ownsRow.stored hT (j * 5 + 3) (.int .i64 mn)
  have h2 := World.ownsRow.stored h1.1 (j * 5 + 4) (.int .i64 mx)
  have kk : ∀ t : TypeId, t ≠ 31 → Kt t w ((w.setCell ⟨g, j * 5 + 3, none⟩ (.int .i64 mn)).setCell ⟨g, j * 5 + 4, none⟩ (.int .i64 mx)) := fun t n1 => (Kt.of_own hT (Ne.symm n1) h1.2).trans (Kt.of_own h1.1 (Ne.symm n1) h2.2)
  refine ⟨⟨vk, _, hp, (kk 25 (by decide)).2 p _ hX, hK.kt (kk 29 (by decide)) (kk 9 (by decide)) (kk 33 (by decide)), hA, ?_⟩, ?_⟩
  · unfold OwnBs
    rw [cells_setR B j x hj mn mx, List.length_set]
    exact h2.1
  · exact ((Below.refl _ _).setCell (p := ⟨g, j * 5 + 3, none⟩) hgb _).setCell (p := ⟨g, j * 5 + 4, none⟩) hgb _
/-- The row of bonds, written to the other way round. -/
theorem osc_setR2 {w : World} {base p g cp j : Nat} {L : List Kd} {B : List Bd} {vk : Value} {x : Bd} (hp : base ≤ p) (hX : w.heap[p]? = some (.cells #[vk, .slice (some ⟨g, 0, none⟩) B.length cp] 25 (0, 0))) (hK : OwnKs w base vk L) (hA : Apt L) (hT : OwnBs w base (.slice (some ⟨g, 0, none⟩) B.length cp) B) (hj : B[j]? = some x) (mn mx : Int) :
    OSc ((w.setCell ⟨g, j * 5 + 4, none⟩ (.int .i64 mx)).setCell ⟨g, j * 5 + 3, none⟩ (.int .i64 mn)) base p L (B.set j { x with mn := mn, mx := mx }) ∧ Below base w ((w.setCell ⟨g, j * 5 + 4, none⟩ (.int .i64 mx)).setCell ⟨g, j * 5 + 3, none⟩ (.int .i64 mn)) := by
  have hgb : base ≤ g := (World.ownsRow.lt hT g rfl).1
  have h1 := World.ownsRow.stored hT (j * 5 + 4) (.int .i64 mx)
  have h2 := World.ownsRow.stored h1.1 (j * 5 + 3) (.int .i64 mn)
  have kk : ∀ t : TypeId, t ≠ 31 → Kt t w ((w.setCell ⟨g, j * 5 + 4, none⟩ (.int .i64 mx)).setCell ⟨g, j * 5 + 3, none⟩ (.int .i64 mn)) := fun t n1 => (Kt.of_own hT (Ne.symm n1) h1.2).trans (Kt.of_own h1.1 (Ne.symm n1) h2.2)
  refine ⟨⟨vk, _, hp, (kk 25 (by decide)).2 p _ hX, hK.kt (kk 29 (by decide)) (kk 9 (by decide)) (kk 33 (by decide)), hA, ?_⟩, ?_⟩
  · unfold OwnBs
    rw [cells_setR B j x hj mn mx, List.length_set, List.set_comm _ _ (by omega)]
    exact h2.1
  · exact ((Below.refl _ _).setCell (p := ⟨g, j * 5 + 4, none⟩) hgb _).setCell (p := ⟨g, j * 5 + 3, none⟩) hgb _
set_option maxHeartbeats 8000000 in
set_option maxRecDepth 100000 in
theorem setRange_yes {w : World} {base p : Nat} {L : List Kd} {B : List Bd} (h : OSc w base p L B) (hbase : base ≤ w.heap.size) (hn : B.length ≤ 12) (c : Ch) (hc : ChIs w c) (hx : ¬ idxB c.nm B 0 = -1) :
    Calls Tryz.prog 58 #[.pointer (some ⟨p, 0, none⟩), c.one] w fun e w' => e = .returned (errV 0) ∧ OSc w' base p L (setR B c.nm c.bd.mn c.bd.mx) ∧ Below base w w' := by
  obtain ⟨vk, vb, hp, hX, hK, hA, hT⟩ := h
  obtain ⟨wh, nm, ⟨kn, ko, kf, vo, vf⟩, ⟨bn, bf, bt, mn, mx⟩, ⟨fn, ft, fm, fk⟩, vt, vn, vs, tn⟩ := c
  obtain ⟨ao, lo1, co, q1⟩ := hc.1.sl
  obtain ⟨af, lf1, cf, q2⟩ := hc.2.sl
  simp only at q1 q2 hx ⊢
  subst q1 q2
  obtain ⟨W0, hW0⟩ : ∃ W0, W0 = w.alloc (.cells #[.int .i64 wh, .string (bs nm), .string (bs kn), .slice ao lo1 co, .slice af lf1 cf, .string (bs bn), .string (bs bf), .string (bs bt), .int .i64 mn, .int .i64 mx, .string (bs fn), .int .i64 ft, .bool fm, .bool fk, .int .i64 vt, .int .i64 vn, .string (bs vs), .string (bs tn)] 37) := ⟨_, rfl⟩
  have hB0 : Below w.heap.size w W0 := by rw [hW0]; exact b_alloc (Below.refl _ _) _
  have n0 := heap_alloc_new w (.cells #[.int .i64 wh, .string (bs nm), .string (bs kn), .slice ao lo1 co, .slice af lf1 cf, .string (bs bn), .string (bs bf), .string (bs bt), .int .i64 mn, .int .i64 mx, .string (bs fn), .int .i64 ft, .bool fm, .bool fk, .int .i64 vt, .int .i64 vn, .string (bs vs), .string (bs tn)] 37)
  rw [← hW0] at n0
  have hX0 := (hB0.block p (Array.getElem?_eq_some_iff.1 hX).1).trans hX
  obtain ⟨j, x, hj, hat, hq, _⟩ := idxB_has hx
  have hjl := (List.getElem?_eq_some_iff.1 hq).1
  have hsr : setR B nm mn mx = B.set j { x with mn := mn, mx := mx } := by unfold setR; rw [hat, hq]
  rw [hsr]
  rcases (hT : w.ownsRow base 31 5 vb B.length (cellsBd B)).2 with ⟨rfl, h0⟩ | ⟨g, cp, cur, rfl, _, hgw, hlc, hcm, _⟩
  · omega
  have c0 : W0.cell? ⟨p, 1, none⟩ = some (.slice (some ⟨g, 0, none⟩) B.length cp) := cell_at hX0 rfl
  have c1 : W0.cell? ⟨w.heap.size, 1, none⟩ = some (.string (bs nm)) := cell_at n0 rfl
  have cc : ∀ W, Below W0.heap.size W0 W → Calls Tryz.prog 83 #[.slice (some ⟨g, 0, none⟩) B.length cp, .string (bs nm)] W fun e w' => e = .returned (.int .i64 (j : Int)) ∧ Below W.heap.size W w' := fun W hb => by
    have := findBond_any (OwnBs.isB (base := base) (own_kt (own_kt hT (.of_below hB0)) (.of_below hb))) hn nm
    rw [hj] at this
    exact this
  have HC := Lib.hid cc
  have hwl : w.heap.size < W0.heap.size := by rw [hW0]; simp
  have hwg : g < w.heap.size := (Array.getElem?_eq_some_iff.1 hgw).1
  have hwp : p < w.heap.size := (Array.getElem?_eq_some_iff.1 hX).1
  have hgp : ¬ g = p := fun e => by rw [e, hX] at hgw; injection hgw with e3; injection e3 with _ e4; exact absurd e4 (by decide)
  have HK : Hid (Below w.heap.size w W0 ∧ base ≤ p ∧ W0.heap[p]? = some (.cells #[vk, .slice (some ⟨g, 0, none⟩) B.length cp] 25 (0, 0)) ∧ OwnKs W0 base vk L ∧ Apt L ∧ OwnBs W0 base (.slice (some ⟨g, 0, none⟩) B.length cp) B ∧ B[j]? = some x ∧ W0.heap[w.heap.size]? = some (.cells #[.int .i64 wh, .string (bs nm), .string (bs kn), .slice ao lo1 co, .slice af lf1 cf, .string (bs bn), .string (bs bf), .string (bs bt), .int .i64 mn, .int .i64 mx, .string (bs fn), .int .i64 ft, .bool fm, .bool fk, .int .i64 vt, .int .i64 vn, .string (bs vs), .string (bs tn)] 37 (0, 0))) := ⟨hB0, hp, hX0, hK.kt (.of_below hB0) (.of_below hB0) (.of_below hB0), hA, own_kt hT (.of_below hB0), hq, n0⟩
  have hjn : ¬ (j : Int) < 0 := by omega
  have hji : (j : Int) < (B.length : Int) := by omega
  clear hT hK hA hX hx hX0 cc n0 hB0 hj hat hq hsr hgw
  go_enter Tryz.func58, Tryz.ntmps58
  go_upto_region 1 with fail
  rw [← hW0]
  clear hW0
  go_cut [5] (fun s wx => s = .int .i64 (j : Int) ∧ Below W0.heap.size W0 wx)
  case first =>
    go_region_with (go_at_call 83; refine (HC.out _ (b_drewK (Below.refl _ _) 1)).mono ?_; rintro e W2 ⟨rfl, hB2⟩)
    all_goals go_wp2
    all_goals go_meet
    all_goals exact ⟨rfl, on1K (b_drewK (Below.refl _ _) 1) hB2 (Nat.le_refl _)⟩
  case rest =>
    obtain ⟨rfl, hB⟩ := hcut
    obtain ⟨k1, k2, k3, k4, k5, k6, k7, k8⟩ := HK.out
    have x3 := (hB.block p (by omega)).trans k3
    have x8 := (hB.block w.heap.size (by omega)).trans k8
    have x6 : OwnBs wc base (.slice (some ⟨g, 0, none⟩) B.length cp) B := own_kt k6 (.of_below hB)
    have d0 : wc.cell? ⟨p, 1, none⟩ = some (.slice (some ⟨g, 0, none⟩) B.length cp) := cell_at x3 rfl
    have d8 : wc.cell? ⟨w.heap.size, 8, none⟩ = some (.int .i64 mn) := cell_at x8 rfl
    have d9 : wc.cell? ⟨w.heap.size, 9, none⟩ = some (.int .i64 mx) := cell_at x8 rfl
    have cells := World.ownsRow.cells x6 (g := g) rfl
    have g3 : wc.cell? ⟨g, j * 5 + 3, none⟩ = some (.int .i64 x.mn) := by
      have := cells (j * 5 + 3) _ ((flatK bd_len B j x 3 k7 (by omega)).trans rfl)
      rw [Addr.add_lit, Nat.zero_add] at this; exact this
    have g4 : wc.cell? ⟨g, j * 5 + 4, none⟩ = some (.int .i64 x.mx) := by
      have := cells (j * 5 + 4) _ ((flatK bd_len B j x 4 k7 (by omega)).trans rfl)
      rw [Addr.add_lit, Nat.zero_add] at this; exact this
    obtain ⟨cur, hcur⟩ : ∃ cur, wc.heap[g]? = some (.cells cur 31 (0, 0)) := by
      rcases x6.2 with ⟨h0, _⟩ | ⟨g', cap', cur, h0, _, hg', _⟩
      · cases h0
      · injection h0 with e1
        injection e1 with e1
        injection e1 with e1
        subst e1
        exact ⟨cur, hg'⟩
    have z3 : wc.frozen? ⟨g, j * 5 + 3, none⟩ = false := frz_at hcur
    have z4 : wc.frozen? ⟨g, j * 5 + 4, none⟩ = false := frz_at hcur
    have HE := Lib.hid (osc_setR (w := wc.drew) (mn := mn) (mx := mx) k2 x3 (k4.kt (.of_below hB.drew) (.of_below hB.drew) (.of_below hB.drew)) k5 x6 k7)
    have HE2 := Lib.hid (osc_setR2 (w := wc.drew) (mn := mn) (mx := mx) k2 x3 (k4.kt (.of_below hB.drew) (.of_below hB.drew) (.of_below hB.drew)) k5 x6 k7)
    have HBw : Hid (Below base w wc.drew) := ((on1K k1 hB (Nat.le_refl _)).mono hbase).drew
    have hgw : ¬ g = w.heap.size := by omega
    have hpw : ¬ p = g := fun e => hgp e.symm
    have hwg' : ¬ w.heap.size = g := by omega
    clear HK HC k1 k2 k3 k4 k5 k6 k7 k8 x3 x8 x6 cells hcur hB
    go_wp2
    go_region
    all_goals go_wp2
    all_goals go_ret
    all_goals first | exact ⟨rfl, HE.out.1, HBw.out.trans HE.out.2⟩ | exact ⟨rfl, HE2.out.1, HBw.out.trans HE2.out.2⟩
end Go.Proofs.YtkmkhadacppdnaaGreatDoor

/-
  The walk of change.dropKind.
-/
namespace Go.Proofs.YtkmkhadacppdnaaGreatDoor
open Go.RowKit
set_option linter.unusedVariables false
set_option linter.unusedSimpArgs false

/-- The first that is so. -/
def gidx {α : Type} (q : α → Bool) : List α → Nat → Int
  | [], _ => -1
  | p :: r, k => if q p = true then k else gidx q r (k + 1)
theorem gidx_has {α : Type} (q : α → Bool) (L : List α) : ∀ k : Nat, decide (0 ≤ gidx q L k) = L.any q := by
  induction L with
  | nil => intro k; rfl
  | cons p r ih =>
    intro k
    unfold gidx
    rw [List.any_cons]
    cases hq : q p
    · simpa using ih (k + 1)
    · simp
/-- Does a kind come of one? -/
def cmsQ (n : Nm) (k : Kd) : Bool := hasN k.of n
/-- Does a bond ask for one? -/
def asks (n : Nm) (x : Bd) : Bool := x.fr == n || x.tt == n
theorem usK_eq (L : List Kd) (n : Nm) : L.any (cmsQ n) = usK L n := rfl
theorem usB_eq (B : List Bd) (n : Nm) : B.any (asks n) = usB B n := rfl
set_option maxHeartbeats 1000000 in
theorem comes_any (k : Kd) (b : Nat) (n : Nm) (w : World) (hc : w.cell? ⟨b, 0, none⟩ = some (.string (bs n))) (hb : b < w.heap.size) (hs : IsS w k.vo k.of) (hl : k.of.length ≤ 4) :
    Calls Tryz.prog 74 #[k.one, .pointer (some ⟨b, 0, none⟩)] w fun e w' => e = .returned (.bool (cmsQ n k)) ∧ Below w.heap.size w w' := by
  obtain ⟨nm, of, fs, vo, vf⟩ := k
  obtain ⟨a, l, c, e⟩ := hs.sl
  simp only at e
  subst e
  have hB0 : Below w.heap.size w (w.alloc (.cells #[.string (bs nm), .slice a l c, vf] 29)) := b_alloc (Below.refl _ _) _
  have cc := contains_any (hs.on hB0) (by simp only at hl ⊢; omega) n
  unfold cmsQ
  simp only at cc ⊢
  generalize hasN of n = r at cc ⊢
  clear hs hl
  go_enter Tryz.func74, Tryz.ntmps74
  go_wp2_with (go_at_call 46; refine cc.mono ?_; rintro e w' ⟨rfl, rfl⟩)
  go_ret
  exact ⟨rfl, hB0⟩
set_option maxHeartbeats 1000000 in
theorem asks_any (x : Bd) (b : Nat) (n : Nm) (w : World) (hc : w.cell? ⟨b, 0, none⟩ = some (.string (bs n))) (hb : b < w.heap.size) :
    Calls Tryz.prog 75 #[x.one, .pointer (some ⟨b, 0, none⟩)] w fun e w' => e = .returned (.bool (asks n x)) ∧ Below w.heap.size w w' := by
  have hB0 : Below w.heap.size w (w.alloc (.cells #[.string (bs x.nm), .string (bs x.fr), .string (bs x.tt), .int .i64 x.mn, .int .i64 x.mx] 31)) := b_alloc (Below.refl _ _) _
  have hne : ¬ b = w.heap.size := by omega
  cases h1 : (x.fr == n)
  · cases h2 : (x.tt == n)
    all_goals
      go_enter Tryz.func75, Tryz.ntmps75
      go_wp2
      go_ret
      exact ⟨by simp [asks, h1, h2], hB0⟩
  · go_enter Tryz.func75, Tryz.ntmps75
    go_wp2
    go_ret
    exact ⟨by simp [asks, h1], hB0⟩
set_option maxHeartbeats 4000000 in
set_option maxRecDepth 100000 in
theorem idxC_some (b off cap : Nat) (L : List Kd) (bn : Nat) (n : Nm) (w : World) (hb : b < w.heap.size) (hL : LiesK w b off L) (hP : Parts w L) (hS : Small L) (hn : L.length ≤ 12) (hbn : bn < w.heap.size) (hc : w.cell? ⟨bn, 0, none⟩ = some (.string (bs n))) :
    Calls Tryz.prog 44 #[.slice (some ⟨b, off, none⟩) L.length cap, .func (.func 74) #[] #[.pointer (some ⟨bn, 0, none⟩)]] w fun e w' => e = .returned (.int .i64 (gidx (cmsQ n) L 0)) ∧ Below w.heap.size w w' := by
  have HPS : Hid (Parts w L ∧ Small L) := ⟨hP, hS⟩
  clear hP hS
  go_enter Tryz.func44, Tryz.ntmps44
  go_wp2
  go_loopw [8] (fun i wr => ∃ k : Nat, k ≤ L.length ∧ i = .int .i64 k ∧ gidx (cmsQ n) L 0 = gidx (cmsQ n) (L.drop k) k ∧ Below w.heap.size w wr) (fun i _ => L.length - (intOf i).toNat)
  case atStart => exact ⟨0, Nat.zero_le _, rfl, rfl, Below.refl _ _⟩
  case round =>
    obtain ⟨k, hk, rfl, hi, hB⟩ := hrel
    have HI : Hid (gidx (cmsQ n) L 0 = gidx (cmsQ n) (L.drop k) k) := hi
    clear hi
    by_cases hlt : k < L.length
    · obtain ⟨p, hp⟩ : ∃ p, L[k]? = some p := ⟨L[k], by simp [hlt]⟩
      obtain ⟨c0, c1, c2⟩ := hL k p hp
      have d0 := (hB.cell (p := ⟨b, off + k * 3, none⟩) hb).trans c0
      have d1 := (hB.cell (p := ⟨b, off + k * 3 + 1, none⟩) hb).trans c1
      have d2 := (hB.cell (p := ⟨b, off + k * 3 + 2, none⟩) hb).trans c2
      have HD : Hid (L.drop k = p :: L.drop (k + 1)) := dropK hp
      have hpm := List.mem_of_getElem? hp
      have cn := comes_any p bn n wr ((hB.cell (p := ⟨bn, 0, none⟩) hbn).trans hc) (Nat.lt_of_lt_of_le hbn hB.size) ((HPS.out.1 p hpm).1.on hB) (HPS.out.2 p hpm).1
      clear c0 c1 c2 hp hL hc hpm
      by_cases hq : cmsQ n p = true
      · have H : Hid (gidx (cmsQ n) L 0 = k) := by
          show _ = _
          rw [HI.out, HD.out]; unfold gidx; rw [if_pos hq]
        rw [hq] at cn
        clear HI HD hq
        go_wp2_with (go_at_call 74; refine cn.mono ?_; rintro e w' ⟨rfl, hB2⟩)
        go_ret
        exact ⟨ret_v (by rw [H.out]; rfl), on1K hB hB2 (Nat.le_refl _)⟩
      · have H : Hid (gidx (cmsQ n) L 0 = gidx (cmsQ n) (L.drop (k + 1)) (k + 1)) := by
          show _ = _
          rw [HI.out, HD.out]; conv => lhs; unfold gidx
          rw [if_neg hq]
        have hq' : cmsQ n p = false := by simpa using hq
        rw [hq'] at cn
        clear HI HD hq hq'
        go_wp2_with (go_at_call 74; refine cn.mono ?_; rintro e w' ⟨rfl, hB2⟩)
        go_roundw
        case rel => exact ⟨k + 1, by omega, by go_num, H.out, on1K hB hB2 (Nat.le_refl _)⟩
        case measure => simp [intOf]; omega
    · have hd : L.drop k = [] := List.drop_eq_nil_of_le (by omega)
      have H : Hid (gidx (cmsQ n) L 0 = -1) := by
        show _ = _
        rw [HI.out, hd]; rfl
      clear HI hd hL hc
      go_wp2
      go_ret
      exact ⟨ret_v (by rw [H.out]; rfl), hB⟩
theorem idxC_any {v : Value} {L : List Kd} {w : World} (h : IsK w v L) (hP : Parts w L) (hS : Small L) (hn : L.length ≤ 12) (bn : Nat) (n : Nm) (hbn : bn < w.heap.size) (hc : w.cell? ⟨bn, 0, none⟩ = some (.string (bs n))) :
    Calls Tryz.prog 44 #[v, .func (.func 74) #[] #[.pointer (some ⟨bn, 0, none⟩)]] w fun e w' => e = .returned (.int .i64 (gidx (cmsQ n) L 0)) ∧ Below w.heap.size w w' := by
  rcases h with ⟨rfl, rfl⟩ | ⟨b, off, cap, rfl, hcap, hm, hb, hl⟩
  · exact idxF_nil _ w
  · exact idxC_some b off cap L bn n w hb hl hP hS hn hbn hc
set_option maxHeartbeats 1000000 in
theorem anyK_any {v : Value} {L : List Kd} {w : World} (h : IsK w v L) (hP : Parts w L) (hS : Small L) (hn : L.length ≤ 12) (bn : Nat) (n : Nm) (hbn : bn < w.heap.size) (hc : w.cell? ⟨bn, 0, none⟩ = some (.string (bs n))) :
    Calls Tryz.prog 71 #[v, .func (.func 74) #[] #[.pointer (some ⟨bn, 0, none⟩)]] w fun e w' => e = .returned (.bool (usK L n)) ∧ Below w.heap.size w w' := by
  have c := idxC_any h hP hS hn bn n hbn hc
  have H : Hid (decide (0 ≤ gidx (cmsQ n) L 0) = usK L n) := (gidx_has _ _ _).trans (usK_eq L n)
  generalize gidx (cmsQ n) L 0 = r at c H
  clear h hP hS hn
  go_enter Tryz.func71, Tryz.ntmps71
  go_wp2_with (go_at_call 44; refine c.mono ?_; rintro e w' ⟨rfl, hB1⟩)
  go_ret
  exact ⟨ret_v (by rw [← H.out]; rfl), hB1⟩
set_option maxHeartbeats 4000000 in
set_option maxRecDepth 100000 in
theorem idxA_some (b off cap : Nat) (L : List Bd) (bn : Nat) (n : Nm) (w : World) (hb : b < w.heap.size) (hL : LiesB w b off L) (hn : L.length ≤ 12) (hbn : bn < w.heap.size) (hc : w.cell? ⟨bn, 0, none⟩ = some (.string (bs n))) :
    Calls Tryz.prog 69 #[.slice (some ⟨b, off, none⟩) L.length cap, .func (.func 75) #[] #[.pointer (some ⟨bn, 0, none⟩)]] w fun e w' => e = .returned (.int .i64 (gidx (asks n) L 0)) ∧ Below w.heap.size w w' := by
  go_enter Tryz.func69, Tryz.ntmps69
  go_wp2
  go_loopw [8] (fun i wr => ∃ k : Nat, k ≤ L.length ∧ i = .int .i64 k ∧ gidx (asks n) L 0 = gidx (asks n) (L.drop k) k ∧ Below w.heap.size w wr) (fun i _ => L.length - (intOf i).toNat)
  case atStart => exact ⟨0, Nat.zero_le _, rfl, rfl, Below.refl _ _⟩
  case round =>
    obtain ⟨k, hk, rfl, hi, hB⟩ := hrel
    have HI : Hid (gidx (asks n) L 0 = gidx (asks n) (L.drop k) k) := hi
    clear hi
    by_cases hlt : k < L.length
    · obtain ⟨p, hp⟩ : ∃ p, L[k]? = some p := ⟨L[k], by simp [hlt]⟩
      obtain ⟨c0, c1, c2, c3, c4⟩ := hL k p hp
      have d0 := (hB.cell (p := ⟨b, off + k * 5, none⟩) hb).trans c0
      have d1 := (hB.cell (p := ⟨b, off + k * 5 + 1, none⟩) hb).trans c1
      have d2 := (hB.cell (p := ⟨b, off + k * 5 + 2, none⟩) hb).trans c2
      have d3 := (hB.cell (p := ⟨b, off + k * 5 + 3, none⟩) hb).trans c3
      have d4 := (hB.cell (p := ⟨b, off + k * 5 + 4, none⟩) hb).trans c4
      have HD : Hid (L.drop k = p :: L.drop (k + 1)) := dropK hp
      have cn := asks_any p bn n wr ((hB.cell (p := ⟨bn, 0, none⟩) hbn).trans hc) (Nat.lt_of_lt_of_le hbn hB.size)
      clear c0 c1 c2 c3 c4 hp hL hc
      by_cases hq : asks n p = true
      · have H : Hid (gidx (asks n) L 0 = k) := by
          show _ = _
          rw [HI.out, HD.out]; unfold gidx; rw [if_pos hq]
        rw [hq] at cn
        clear HI HD hq
        go_wp2_with (go_at_call 75; refine cn.mono ?_; rintro e w' ⟨rfl, hB2⟩)
        go_ret
        exact ⟨ret_v (by rw [H.out]; rfl), on1K hB hB2 (Nat.le_refl _)⟩
      · have H : Hid (gidx (asks n) L 0 = gidx (asks n) (L.drop (k + 1)) (k + 1)) := by
          show _ = _
          rw [HI.out, HD.out]; conv => lhs; unfold gidx
          rw [if_neg hq]
        have hq' : asks n p = false := by simpa using hq
        rw [hq'] at cn
        clear HI HD hq hq'
        go_wp2_with (go_at_call 75; refine cn.mono ?_; rintro e w' ⟨rfl, hB2⟩)
        go_roundw
        case rel => exact ⟨k + 1, by omega, by go_num, H.out, on1K hB hB2 (Nat.le_refl _)⟩
        case measure => simp [intOf]; omega
    · have hd : L.drop k = [] := List.drop_eq_nil_of_le (by omega)
      have H : Hid (gidx (asks n) L 0 = -1) := by
        show _ = _
        rw [HI.out, hd]; rfl
      clear HI hd hL hc
      go_wp2
      go_ret
      exact ⟨ret_v (by rw [H.out]; rfl), hB⟩
theorem idxA_any {v : Value} {L : List Bd} {w : World} (h : IsB w v L) (hn : L.length ≤ 12) (bn : Nat) (n : Nm) (hbn : bn < w.heap.size) (hc : w.cell? ⟨bn, 0, none⟩ = some (.string (bs n))) :
    Calls Tryz.prog 69 #[v, .func (.func 75) #[] #[.pointer (some ⟨bn, 0, none⟩)]] w fun e w' => e = .returned (.int .i64 (gidx (asks n) L 0)) ∧ Below w.heap.size w w' := by
  rcases h with ⟨rfl, rfl⟩ | ⟨b, off, cap, rfl, hcap, hm, hb, hl⟩
  · exact idxFB_nil _ w
  · exact idxA_some b off cap L bn n w hb hl hn hbn hc
set_option maxHeartbeats 1000000 in
theorem anyB_any {v : Value} {L : List Bd} {w : World} (h : IsB w v L) (hn : L.length ≤ 12) (bn : Nat) (n : Nm) (hbn : bn < w.heap.size) (hc : w.cell? ⟨bn, 0, none⟩ = some (.string (bs n))) :
    Calls Tryz.prog 76 #[v, .func (.func 75) #[] #[.pointer (some ⟨bn, 0, none⟩)]] w fun e w' => e = .returned (.bool (usB L n)) ∧ Below w.heap.size w w' := by
  have c := idxA_any h hn bn n hbn hc
  have H : Hid (decide (0 ≤ gidx (asks n) L 0) = usB L n) := (gidx_has _ _ _).trans (usB_eq L n)
  generalize gidx (asks n) L 0 = r at c H
  clear h hn
  go_enter Tryz.func76, Tryz.ntmps76
  go_wp2_with (go_at_call 69; refine c.mono ?_; rintro e w' ⟨rfl, hB1⟩)
  go_ret
  exact ⟨ret_v (by rw [← H.out]; rfl), hB1⟩
end Go.Proofs.YtkmkhadacppdnaaGreatDoor
