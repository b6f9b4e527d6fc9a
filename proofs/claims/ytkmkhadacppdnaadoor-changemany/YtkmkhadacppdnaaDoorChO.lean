/-
  The walk of change.write: all but a kind and a bond that are added.
-/
import Derived.Test.YtkmkhadacppdnaaDoorChN
namespace Go.Proofs.YtkmkhadacppdnaaDoor
open Go.RowKit
set_option linter.unusedVariables false
set_option linter.unusedSimpArgs false

theorem WrP.from {w W w' : World} {base p : Nat} {ex : Int} {K : List Kd} {B : List Bd} {e : Ending} (h : WrP W base p ex K B e w') (hB : Below base w W) : WrP w base p ex K B e w' := ⟨h.1, h.2.1, hB.trans h.2.2⟩
set_option maxHeartbeats 4000000 in
set_option maxRecDepth 100000 in
theorem write_2 {w : World} {base p : Nat} {L : List Kd} {B : List Bd} (h : OSc w base p L B) (hbase : base ≤ w.heap.size) (hs : (sErr L B).2 = 0) (c : Ch) (hc : ChIs w c) (hz : ChSz c) (hw : c.wh = 2) :
    Calls Tryd.prog 15 #[.pointer (some ⟨p, 0, none⟩), c.one] w (WrP w base p (e2 L B c.nm) (L.eraseIdx (nmAt L c.nm)) (B)) := by
  obtain ⟨wh, nm, ⟨kn, ko, kf, vo, vf⟩, ⟨bn, bf, bt, mn, mx⟩, ⟨fn, ft, fm, fk⟩, vt, vn, vs, tn⟩ := c
  obtain ⟨ao, lo1, co, q1⟩ := hc.1.sl
  obtain ⟨af, lf1, cf, q2⟩ := hc.2.sl
  simp only at q1 q2 hw ⊢
  subst q1 q2
  obtain ⟨W0, hW0⟩ : ∃ W0, W0 = w.alloc (.cells #[.int .i64 wh, .string (bs nm), .string (bs kn), .slice ao lo1 co, .slice af lf1 cf, .string (bs bn), .string (bs bf), .string (bs bt), .int .i64 mn, .int .i64 mx, .string (bs fn), .int .i64 ft, .bool fm, .bool fk, .int .i64 vt, .int .i64 vn, .string (bs vs), .string (bs tn)] 42) := ⟨_, rfl⟩
  have hB0 : Below w.heap.size w W0 := by rw [hW0]; exact b_alloc (Below.refl _ _) _
  have n0 := heap_alloc_new w (.cells #[.int .i64 wh, .string (bs nm), .string (bs kn), .slice ao lo1 co, .slice af lf1 cf, .string (bs bn), .string (bs bf), .string (bs bt), .int .i64 mn, .int .i64 mx, .string (bs fn), .int .i64 ft, .bool fm, .bool fk, .int .i64 vt, .int .i64 vn, .string (bs vs), .string (bs tn)] 42)
  rw [← hW0] at n0
  subst hw
  have hk := dropKind_any (h.on hB0) (Nat.le_trans hbase hB0.size) hs nm
  (try dsimp only [Ch.one] at hk)
  generalize hex : (e2 L B nm) = ex at hk ⊢
  have d0 : W0.cell? ⟨w.heap.size, 0, none⟩ = some (.int .i64 2) := cell_at n0 rfl
  have d1 : W0.cell? ⟨w.heap.size, 1, none⟩ = some (.string (bs nm)) := cell_at n0 rfl
  have HN := Lib.hid n0
  have HB0 := Lib.hid hB0
  clear h hs hz n0 hB0 hex hc
  go_enter Tryd.func15, Tryd.ntmps15
  go_upto_region 1 with fail
  rw [← hW0]
  clear hW0
  go_wp2_with (first | (go_at_call 25; refine hk.mono ?_; rintro e w1 ⟨rfl, hk1⟩))
  go_ret
  exact ⟨rfl, hk1.1, (HB0.out.mono hbase).trans hk1.2⟩
set_option maxHeartbeats 4000000 in
set_option maxRecDepth 100000 in
theorem write_3 {w : World} {base p : Nat} {L : List Kd} {B : List Bd} (h : OSc w base p L B) (hbase : base ≤ w.heap.size) (hs : (sErr L B).2 = 0) (c : Ch) (hc : ChIs w c) (hz : ChSz c) (hw : c.wh = 3) :
    Calls Tryd.prog 15 #[.pointer (some ⟨p, 0, none⟩), c.one] w (WrP w base p (e3 L c) (setFs L c.nm (insA (fdsAt L c.nm) c.fd)) (B)) := by
  obtain ⟨wh, nm, ⟨kn, ko, kf, vo, vf⟩, ⟨bn, bf, bt, mn, mx⟩, ⟨fn, ft, fm, fk⟩, vt, vn, vs, tn⟩ := c
  obtain ⟨ao, lo1, co, q1⟩ := hc.1.sl
  obtain ⟨af, lf1, cf, q2⟩ := hc.2.sl
  simp only at q1 q2 hw ⊢
  subst q1 q2
  obtain ⟨W0, hW0⟩ : ∃ W0, W0 = w.alloc (.cells #[.int .i64 wh, .string (bs nm), .string (bs kn), .slice ao lo1 co, .slice af lf1 cf, .string (bs bn), .string (bs bf), .string (bs bt), .int .i64 mn, .int .i64 mx, .string (bs fn), .int .i64 ft, .bool fm, .bool fk, .int .i64 vt, .int .i64 vn, .string (bs vs), .string (bs tn)] 42) := ⟨_, rfl⟩
  have hB0 : Below w.heap.size w W0 := by rw [hW0]; exact b_alloc (Below.refl _ _) _
  have n0 := heap_alloc_new w (.cells #[.int .i64 wh, .string (bs nm), .string (bs kn), .slice ao lo1 co, .slice af lf1 cf, .string (bs bn), .string (bs bf), .string (bs bt), .int .i64 mn, .int .i64 mx, .string (bs fn), .int .i64 ft, .bool fm, .bool fk, .int .i64 vt, .int .i64 vn, .string (bs vs), .string (bs tn)] 42)
  rw [← hW0] at n0
  subst hw
  have hk := addField_any (h.on hB0) (Nat.le_trans hbase hB0.size) hs ⟨3, nm, ⟨kn, ko, kf, .slice ao lo1 co, .slice af lf1 cf⟩, ⟨bn, bf, bt, mn, mx⟩, ⟨fn, ft, fm, fk⟩, vt, vn, vs, tn⟩ (hc.on hB0) hz
  (try dsimp only [Ch.one] at hk)
  generalize hex : (e3 L ⟨3, nm, ⟨kn, ko, kf, .slice ao lo1 co, .slice af lf1 cf⟩, ⟨bn, bf, bt, mn, mx⟩, ⟨fn, ft, fm, fk⟩, vt, vn, vs, tn⟩) = ex at hk ⊢
  have d0 : W0.cell? ⟨w.heap.size, 0, none⟩ = some (.int .i64 3) := cell_at n0 rfl
  have d1 : W0.cell? ⟨w.heap.size, 1, none⟩ = some (.string (bs nm)) := cell_at n0 rfl
  have HN := Lib.hid n0
  have HB0 := Lib.hid hB0
  clear h hs hz n0 hB0 hex hc
  go_enter Tryd.func15, Tryd.ntmps15
  go_upto_region 1 with fail
  rw [← hW0]
  clear hW0
  go_wp2_with (first | (refine wpList_load_row rfl 42 (.tmp 3) rfl w.heap.size rfl 42 _ (0, 0) _ HN.out Tryd.underlying42 rfl info37 ?_) | (go_at_call 26; refine hk.mono ?_; rintro e w1 ⟨rfl, hk1⟩))
  go_ret
  exact ⟨rfl, hk1.1, (HB0.out.mono hbase).trans hk1.2⟩
set_option maxHeartbeats 4000000 in
set_option maxRecDepth 100000 in
theorem write_4 {w : World} {base p : Nat} {L : List Kd} {B : List Bd} (h : OSc w base p L B) (hbase : base ≤ w.heap.size) (hs : (sErr L B).2 = 0) (c : Ch) (hc : ChIs w c) (hz : ChSz c) (hw : c.wh = 4) :
    Calls Tryd.prog 15 #[.pointer (some ⟨p, 0, none⟩), c.one] w (WrP w base p (e4 L c.nm c.fd.nm) (setFs L c.nm ((fdsAt L c.nm).eraseIdx (lo c.fd.nm (fdsAt L c.nm)))) (B)) := by
  obtain ⟨wh, nm, ⟨kn, ko, kf, vo, vf⟩, ⟨bn, bf, bt, mn, mx⟩, ⟨fn, ft, fm, fk⟩, vt, vn, vs, tn⟩ := c
  obtain ⟨ao, lo1, co, q1⟩ := hc.1.sl
  obtain ⟨af, lf1, cf, q2⟩ := hc.2.sl
  simp only at q1 q2 hw ⊢
  subst q1 q2
  obtain ⟨W0, hW0⟩ : ∃ W0, W0 = w.alloc (.cells #[.int .i64 wh, .string (bs nm), .string (bs kn), .slice ao lo1 co, .slice af lf1 cf, .string (bs bn), .string (bs bf), .string (bs bt), .int .i64 mn, .int .i64 mx, .string (bs fn), .int .i64 ft, .bool fm, .bool fk, .int .i64 vt, .int .i64 vn, .string (bs vs), .string (bs tn)] 42) := ⟨_, rfl⟩
  have hB0 : Below w.heap.size w W0 := by rw [hW0]; exact b_alloc (Below.refl _ _) _
  have n0 := heap_alloc_new w (.cells #[.int .i64 wh, .string (bs nm), .string (bs kn), .slice ao lo1 co, .slice af lf1 cf, .string (bs bn), .string (bs bf), .string (bs bt), .int .i64 mn, .int .i64 mx, .string (bs fn), .int .i64 ft, .bool fm, .bool fk, .int .i64 vt, .int .i64 vn, .string (bs vs), .string (bs tn)] 42)
  rw [← hW0] at n0
  subst hw
  have hk := dropField_any (h.on hB0) (Nat.le_trans hbase hB0.size) hs ⟨4, nm, ⟨kn, ko, kf, .slice ao lo1 co, .slice af lf1 cf⟩, ⟨bn, bf, bt, mn, mx⟩, ⟨fn, ft, fm, fk⟩, vt, vn, vs, tn⟩ (hc.on hB0)
  (try dsimp only [Ch.one] at hk)
  generalize hex : (e4 L nm fn) = ex at hk ⊢
  have d0 : W0.cell? ⟨w.heap.size, 0, none⟩ = some (.int .i64 4) := cell_at n0 rfl
  have d1 : W0.cell? ⟨w.heap.size, 1, none⟩ = some (.string (bs nm)) := cell_at n0 rfl
  have HN := Lib.hid n0
  have HB0 := Lib.hid hB0
  clear h hs hz n0 hB0 hex hc
  go_enter Tryd.func15, Tryd.ntmps15
  go_upto_region 1 with fail
  rw [← hW0]
  clear hW0
  go_wp2_with (first | (refine wpList_load_row rfl 42 (.tmp 3) rfl w.heap.size rfl 42 _ (0, 0) _ HN.out Tryd.underlying42 rfl info37 ?_) | (go_at_call 27; refine hk.mono ?_; rintro e w1 ⟨rfl, hk1⟩))
  go_ret
  exact ⟨rfl, hk1.1, (HB0.out.mono hbase).trans hk1.2⟩
set_option maxHeartbeats 4000000 in
set_option maxRecDepth 100000 in
theorem write_6 {w : World} {base p : Nat} {L : List Kd} {B : List Bd} (h : OSc w base p L B) (hbase : base ≤ w.heap.size) (hs : (sErr L B).2 = 0) (c : Ch) (hc : ChIs w c) (hz : ChSz c) (hw : c.wh = 6) :
    Calls Tryd.prog 15 #[.pointer (some ⟨p, 0, none⟩), c.one] w (WrP w base p (e6 B c.nm) (L) (B.eraseIdx (bAt B c.nm))) := by
  obtain ⟨wh, nm, ⟨kn, ko, kf, vo, vf⟩, ⟨bn, bf, bt, mn, mx⟩, ⟨fn, ft, fm, fk⟩, vt, vn, vs, tn⟩ := c
  obtain ⟨ao, lo1, co, q1⟩ := hc.1.sl
  obtain ⟨af, lf1, cf, q2⟩ := hc.2.sl
  simp only at q1 q2 hw ⊢
  subst q1 q2
  obtain ⟨W0, hW0⟩ : ∃ W0, W0 = w.alloc (.cells #[.int .i64 wh, .string (bs nm), .string (bs kn), .slice ao lo1 co, .slice af lf1 cf, .string (bs bn), .string (bs bf), .string (bs bt), .int .i64 mn, .int .i64 mx, .string (bs fn), .int .i64 ft, .bool fm, .bool fk, .int .i64 vt, .int .i64 vn, .string (bs vs), .string (bs tn)] 42) := ⟨_, rfl⟩
  have hB0 : Below w.heap.size w W0 := by rw [hW0]; exact b_alloc (Below.refl _ _) _
  have n0 := heap_alloc_new w (.cells #[.int .i64 wh, .string (bs nm), .string (bs kn), .slice ao lo1 co, .slice af lf1 cf, .string (bs bn), .string (bs bf), .string (bs bt), .int .i64 mn, .int .i64 mx, .string (bs fn), .int .i64 ft, .bool fm, .bool fk, .int .i64 vt, .int .i64 vn, .string (bs vs), .string (bs tn)] 42)
  rw [← hW0] at n0
  subst hw
  have hk := dropBond_any (h.on hB0) (Nat.le_trans hbase hB0.size) hs nm
  (try dsimp only [Ch.one] at hk)
  generalize hex : (e6 B nm) = ex at hk ⊢
  have d0 : W0.cell? ⟨w.heap.size, 0, none⟩ = some (.int .i64 6) := cell_at n0 rfl
  have d1 : W0.cell? ⟨w.heap.size, 1, none⟩ = some (.string (bs nm)) := cell_at n0 rfl
  have HN := Lib.hid n0
  have HB0 := Lib.hid hB0
  clear h hs hz n0 hB0 hex hc
  go_enter Tryd.func15, Tryd.ntmps15
  go_upto_region 1 with fail
  rw [← hW0]
  clear hW0
  go_wp2_with (first | (go_at_call 28; refine hk.mono ?_; rintro e w1 ⟨rfl, hk1⟩))
  go_ret
  exact ⟨rfl, hk1.1, (HB0.out.mono hbase).trans hk1.2⟩
set_option maxHeartbeats 4000000 in
set_option maxRecDepth 100000 in
theorem write_7 {w : World} {base p : Nat} {L : List Kd} {B : List Bd} (h : OSc w base p L B) (hbase : base ≤ w.heap.size) (hs : (sErr L B).2 = 0) (c : Ch) (hc : ChIs w c) (hz : ChSz c) (hw : c.wh = 7) :
    Calls Tryd.prog 15 #[.pointer (some ⟨p, 0, none⟩), c.one] w (WrP w base p (e7 L c.nm c.fd.nm c.tn) (setFs L c.nm (rnF (fdsAt L c.nm) c.fd.nm c.tn)) (B)) := by
  obtain ⟨wh, nm, ⟨kn, ko, kf, vo, vf⟩, ⟨bn, bf, bt, mn, mx⟩, ⟨fn, ft, fm, fk⟩, vt, vn, vs, tn⟩ := c
  obtain ⟨ao, lo1, co, q1⟩ := hc.1.sl
  obtain ⟨af, lf1, cf, q2⟩ := hc.2.sl
  simp only at q1 q2 hw ⊢
  subst q1 q2
  obtain ⟨W0, hW0⟩ : ∃ W0, W0 = w.alloc (.cells #[.int .i64 wh, .string (bs nm), .string (bs kn), .slice ao lo1 co, .slice af lf1 cf, .string (bs bn), .string (bs bf), .string (bs bt), .int .i64 mn, .int .i64 mx, .string (bs fn), .int .i64 ft, .bool fm, .bool fk, .int .i64 vt, .int .i64 vn, .string (bs vs), .string (bs tn)] 42) := ⟨_, rfl⟩
  have hB0 : Below w.heap.size w W0 := by rw [hW0]; exact b_alloc (Below.refl _ _) _
  have n0 := heap_alloc_new w (.cells #[.int .i64 wh, .string (bs nm), .string (bs kn), .slice ao lo1 co, .slice af lf1 cf, .string (bs bn), .string (bs bf), .string (bs bt), .int .i64 mn, .int .i64 mx, .string (bs fn), .int .i64 ft, .bool fm, .bool fk, .int .i64 vt, .int .i64 vn, .string (bs vs), .string (bs tn)] 42)
  rw [← hW0] at n0
  subst hw
  have hk := renameField_any (h.on hB0) (Nat.le_trans hbase hB0.size) hs ⟨7, nm, ⟨kn, ko, kf, .slice ao lo1 co, .slice af lf1 cf⟩, ⟨bn, bf, bt, mn, mx⟩, ⟨fn, ft, fm, fk⟩, vt, vn, vs, tn⟩ (hc.on hB0) hz
  (try dsimp only [Ch.one] at hk)
  generalize hex : (e7 L nm fn tn) = ex at hk ⊢
  have d0 : W0.cell? ⟨w.heap.size, 0, none⟩ = some (.int .i64 7) := cell_at n0 rfl
  have d1 : W0.cell? ⟨w.heap.size, 1, none⟩ = some (.string (bs nm)) := cell_at n0 rfl
  have HN := Lib.hid n0
  have HB0 := Lib.hid hB0
  clear h hs hz n0 hB0 hex hc
  go_enter Tryd.func15, Tryd.ntmps15
  go_upto_region 1 with fail
  rw [← hW0]
  clear hW0
  go_wp2_with (first | (refine wpList_load_row rfl 42 (.tmp 3) rfl w.heap.size rfl 42 _ (0, 0) _ HN.out Tryd.underlying42 rfl info37 ?_) | (go_at_call 29; refine hk.mono ?_; rintro e w1 ⟨rfl, hk1⟩))
  go_ret
  exact ⟨rfl, hk1.1, (HB0.out.mono hbase).trans hk1.2⟩
set_option maxHeartbeats 4000000 in
set_option maxRecDepth 100000 in
theorem write_8 {w : World} {base p : Nat} {L : List Kd} {B : List Bd} (h : OSc w base p L B) (hbase : base ≤ w.heap.size) (hs : (sErr L B).2 = 0) (c : Ch) (hc : ChIs w c) (hz : ChSz c) (hw : c.wh = 8) :
    Calls Tryd.prog 15 #[.pointer (some ⟨p, 0, none⟩), c.one] w (WrP w base p (e6 B c.nm) (L) (setR B c.nm c.bd.mn c.bd.mx)) := by
  obtain ⟨wh, nm, ⟨kn, ko, kf, vo, vf⟩, ⟨bn, bf, bt, mn, mx⟩, ⟨fn, ft, fm, fk⟩, vt, vn, vs, tn⟩ := c
  obtain ⟨ao, lo1, co, q1⟩ := hc.1.sl
  obtain ⟨af, lf1, cf, q2⟩ := hc.2.sl
  simp only at q1 q2 hw ⊢
  subst q1 q2
  obtain ⟨W0, hW0⟩ : ∃ W0, W0 = w.alloc (.cells #[.int .i64 wh, .string (bs nm), .string (bs kn), .slice ao lo1 co, .slice af lf1 cf, .string (bs bn), .string (bs bf), .string (bs bt), .int .i64 mn, .int .i64 mx, .string (bs fn), .int .i64 ft, .bool fm, .bool fk, .int .i64 vt, .int .i64 vn, .string (bs vs), .string (bs tn)] 42) := ⟨_, rfl⟩
  have hB0 : Below w.heap.size w W0 := by rw [hW0]; exact b_alloc (Below.refl _ _) _
  have n0 := heap_alloc_new w (.cells #[.int .i64 wh, .string (bs nm), .string (bs kn), .slice ao lo1 co, .slice af lf1 cf, .string (bs bn), .string (bs bf), .string (bs bt), .int .i64 mn, .int .i64 mx, .string (bs fn), .int .i64 ft, .bool fm, .bool fk, .int .i64 vt, .int .i64 vn, .string (bs vs), .string (bs tn)] 42)
  rw [← hW0] at n0
  subst hw
  have hk := setRange_any (h.on hB0) (Nat.le_trans hbase hB0.size) hs ⟨8, nm, ⟨kn, ko, kf, .slice ao lo1 co, .slice af lf1 cf⟩, ⟨bn, bf, bt, mn, mx⟩, ⟨fn, ft, fm, fk⟩, vt, vn, vs, tn⟩ (hc.on hB0)
  (try dsimp only [Ch.one] at hk)
  generalize hex : (e6 B nm) = ex at hk ⊢
  have d0 : W0.cell? ⟨w.heap.size, 0, none⟩ = some (.int .i64 8) := cell_at n0 rfl
  have d1 : W0.cell? ⟨w.heap.size, 1, none⟩ = some (.string (bs nm)) := cell_at n0 rfl
  have HN := Lib.hid n0
  have HB0 := Lib.hid hB0
  clear h hs hz n0 hB0 hex hc
  go_enter Tryd.func15, Tryd.ntmps15
  go_upto_region 1 with fail
  rw [← hW0]
  clear hW0
  go_wp2_with (first | (refine wpList_load_row rfl 42 (.tmp 3) rfl w.heap.size rfl 42 _ (0, 0) _ HN.out Tryd.underlying42 rfl info37 ?_) | (go_at_call 30; refine hk.mono ?_; rintro e w1 ⟨rfl, hk1⟩))
  go_ret
  exact ⟨rfl, hk1.1, (HB0.out.mono hbase).trans hk1.2⟩
set_option maxHeartbeats 4000000 in
set_option maxRecDepth 100000 in
theorem write_0 {w : World} {base p : Nat} {K L : List Kd} {B B' : List Bd} (h : OSc w base p L B) (hbase : base ≤ w.heap.size) (c : Ch) (hc : ChIs w c) (h1 : ¬ c.wh = 1) (h2 : ¬ c.wh = 2) (h3 : ¬ c.wh = 3) (h4 : ¬ c.wh = 4) (h5 : ¬ c.wh = 5) (h6 : ¬ c.wh = 6) (h7 : ¬ c.wh = 7) (h8 : ¬ c.wh = 8) :
    Calls Tryd.prog 15 #[.pointer (some ⟨p, 0, none⟩), c.one] w (WrP w base p 1 K B') := by
  obtain ⟨wh, nm, ⟨kn, ko, kf, vo, vf⟩, ⟨bn, bf, bt, mn, mx⟩, ⟨fn, ft, fm, fk⟩, vt, vn, vs, tn⟩ := c
  obtain ⟨ao, lo1, co, q1⟩ := hc.1.sl
  obtain ⟨af, lf1, cf, q2⟩ := hc.2.sl
  simp only at q1 q2 h1 h2 h3 h4 h5 h6 h7 h8 ⊢
  subst q1 q2
  obtain ⟨W0, hW0⟩ : ∃ W0, W0 = w.alloc (.cells #[.int .i64 wh, .string (bs nm), .string (bs kn), .slice ao lo1 co, .slice af lf1 cf, .string (bs bn), .string (bs bf), .string (bs bt), .int .i64 mn, .int .i64 mx, .string (bs fn), .int .i64 ft, .bool fm, .bool fk, .int .i64 vt, .int .i64 vn, .string (bs vs), .string (bs tn)] 42) := ⟨_, rfl⟩
  have hB0 : Below w.heap.size w W0 := by rw [hW0]; exact b_alloc (Below.refl _ _) _
  have n0 := heap_alloc_new w (.cells #[.int .i64 wh, .string (bs nm), .string (bs kn), .slice ao lo1 co, .slice af lf1 cf, .string (bs bn), .string (bs bf), .string (bs bt), .int .i64 mn, .int .i64 mx, .string (bs fn), .int .i64 ft, .bool fm, .bool fk, .int .i64 vt, .int .i64 vn, .string (bs vs), .string (bs tn)] 42)
  rw [← hW0] at n0
  have g1 : (wh == 1) = false := by simpa using h1
  have g2 : (wh == 2) = false := by simpa using h2
  have g3 : (wh == 3) = false := by simpa using h3
  have g4 : (wh == 4) = false := by simpa using h4
  have g5 : (wh == 5) = false := by simpa using h5
  have g6 : (wh == 6) = false := by simpa using h6
  have g7 : (wh == 7) = false := by simpa using h7
  have g8 : (wh == 8) = false := by simpa using h8
  have d0 : W0.cell? ⟨w.heap.size, 0, none⟩ = some (.int .i64 wh) := cell_at n0 rfl
  have HB0 := Lib.hid hB0
  clear h n0 hB0 hc h1 h2 h3 h4 h5 h6 h7 h8
  go_enter Tryd.func15, Tryd.ntmps15
  go_upto_region 1 with fail
  rw [← hW0]
  clear hW0
  go_wp2
  go_ret
  exact ⟨rfl, fun e => absurd e (by decide), HB0.out.mono hbase⟩
end Go.Proofs.YtkmkhadacppdnaaDoor
