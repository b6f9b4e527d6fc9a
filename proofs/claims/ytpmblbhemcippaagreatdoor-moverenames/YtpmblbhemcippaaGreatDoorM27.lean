/-
  What each change does, in one word each.
-/
import Derived.Test.YtpmblbhemcippaaGreatDoorM22
import Derived.Test.YtpmblbhemcippaaGreatDoorM25
import Derived.Test.YtpmblbhemcippaaGreatDoorM26
namespace Go.Proofs.YtpmblbhemcippaaGreatDoor
open Go.RowKit
set_option linter.unusedVariables false
set_option linter.unusedSimpArgs false

def WrP (w : World) (base p : Nat) (ex : Int) (K : List Kd) (B : List Bd) (e : Ending) (w' : World) : Prop :=
  e = .returned (errV ex) ∧ (ex = 0 → ∃ M, OSc w' base p M B ∧ M.map kq3 = K.map kq3) ∧ Below base w w'
theorem WrP.no {w w' : World} {base p : Nat} {ex r : Int} {K : List Kd} {B : List Bd} {e : Ending} (hbase : base ≤ w.heap.size) (hr : r = ex) (hne : ¬ ex = 0) (h : e = .returned (errV r) ∧ Below w.heap.size w w') : WrP w base p ex K B e w' :=
  ⟨by rw [← hr]; exact h.1, fun h0 => absurd h0 hne, h.2.mono hbase⟩
theorem WrP.yes {w w' : World} {base p : Nat} {ex : Int} {K : List Kd} {B : List Bd} {e : Ending} (hr : ex = 0) (h : e = .returned (errV 0) ∧ (∃ M, OSc w' base p M B ∧ M.map kq3 = K.map kq3) ∧ Below base w w') : WrP w base p ex K B e w' :=
  ⟨by rw [hr]; exact h.1, fun _ => h.2.1, h.2.2⟩

theorem good_of {L : List Kd} {B : List Bd} (h : (sErr L B).2 = 0) : Good L ∧ L.length ≤ 12 ∧ B.length ≤ 12 := by
  obtain ⟨h1, _, h3⟩ := sErr_good.1 h
  obtain ⟨g1, g2⟩ := ksErr_good.1 h1
  exact ⟨g1, g2, h3⟩
theorem dropKind_any {w : World} {base p : Nat} {L : List Kd} {B : List Bd} (h : OSc w base p L B) (hbase : base ≤ w.heap.size) (hs : (sErr L B).2 = 0) (n : Nm) :
    Calls Tryz.prog 72 #[.pointer (some ⟨p, 0, none⟩), .string (bs n)] w (WrP w base p (e2 L B n) (L.eraseIdx (nmAt L n)) B) := by
  obtain ⟨hG, hl, hb⟩ := good_of hs
  by_cases hx : idxK n L 0 = -1
  · have e : e2 L B n = 5 := by unfold e2; rw [if_pos hx]
    exact (dropKind_no h hl n hx).mono fun e' w' h' => WrP.no hbase e.symm (by rw [e]; decide) h'
  · by_cases hu : usK L n = true
    · have e : e2 L B n = 6 := by unfold e2; rw [if_neg hx, if_pos hu]
      exact (dropKind_us h hl hG.small hb n hx (.inl hu)).mono fun e' w' h' => WrP.no hbase e.symm (by rw [e]; decide) h'
    · have hu' : usK L n = false := by simpa using hu
      by_cases hv : usB B n = true
      · have e : e2 L B n = 6 := by unfold e2; rw [if_neg hx, if_neg hu, if_pos hv]
        exact (dropKind_us h hl hG.small hb n hx (.inr ⟨hu', hv⟩)).mono fun e' w' h' => WrP.no hbase e.symm (by rw [e]; decide) h'
      · have e : e2 L B n = 0 := by unfold e2; rw [if_neg hx, if_neg hu, if_neg hv]
        exact (dropKind_yes h hbase hl hG.small hb n hx hu' (by simpa using hv)).mono fun e' w' h' => WrP.yes e ⟨h'.1, ⟨_, h'.2.1, rfl⟩, h'.2.2⟩
theorem addField_any {w : World} {base p : Nat} {L : List Kd} {B : List Bd} (h : OSc w base p L B) (hbase : base ≤ w.heap.size) (hs : (sErr L B).2 = 0) (c : Ch) (hc : ChIs w c) (hz : ChSz c) :
    Calls Tryz.prog 73 #[.pointer (some ⟨p, 0, none⟩), c.one] w (WrP w base p (e3 L c) (setFs L c.nm (insA (fdsAt L c.nm) c.fd)) B) := by
  obtain ⟨hG, hl, hb⟩ := good_of hs
  by_cases hx : idxK c.nm L 0 = -1
  · have e : e3 L c = 5 := by unfold e3; rw [if_pos hx]
    exact (addField_none h hl c hc hx).mono fun e' w' h' => WrP.no hbase e.symm (by rw [e]; decide) h'
  · obtain ⟨j, q, hj, hat, hq, _⟩ := nmAt_has hx
    rw [fdsAt_eq hat hq]
    by_cases hf : fnd c.fd.nm q.fs = true
    · have e : e3 L c = 7 := by unfold e3; rw [if_neg hx, fdsAt_eq hat hq, if_pos hf]
      exact (addField_has h hl hG c hc hj hq hf).mono fun e' w' h' => WrP.no hbase e.symm (by rw [e]; decide) h'
    · have hf' : fnd c.fd.nm q.fs = false := by simpa using hf
      have e : e3 L c = adE c.fd c.vt c.vn c.vs := by unfold e3; rw [if_neg hx, fdsAt_eq hat hq, if_neg hf]
      by_cases ha : adE c.fd c.vt c.vn c.vs = 0
      · exact (addField_ok h hbase hl hG c hc hz.2.2.2.2.1 hj hat hq hf' ha).mono fun e' w' h' => WrP.yes (e.trans ha) h'
      · exact (addField_bad h hl hG c hc hz.2.2.2.2.1 hj hq hf' ha).mono fun e' w' h' => WrP.no hbase e.symm (by rw [e]; exact ha) h'
theorem e4_cases (L : List Kd) (n f : Nm) : e4 L n f = 0 ∨ e4 L n f = 5 := by
  unfold e4
  split
  · exact .inr rfl
  · split
    · exact .inl rfl
    · exact .inr rfl
theorem dropField_any {w : World} {base p : Nat} {L : List Kd} {B : List Bd} (h : OSc w base p L B) (hbase : base ≤ w.heap.size) (hs : (sErr L B).2 = 0) (c : Ch) (hc : ChIs w c) :
    Calls Tryz.prog 74 #[.pointer (some ⟨p, 0, none⟩), c.one] w (WrP w base p (e4 L c.nm c.fd.nm) (setFs L c.nm ((fdsAt L c.nm).eraseIdx (lo c.fd.nm (fdsAt L c.nm)))) B) := by
  obtain ⟨hG, hl, hb⟩ := good_of hs
  rcases e4_cases L c.nm c.fd.nm with e | e
  · exact (dropField_yes h hbase hl hG c hc e).mono fun e' w' h' => WrP.yes e h'
  · exact (dropField_no h hl hG c hc e).mono fun e' w' h' => WrP.no hbase e.symm (by rw [e]; decide) h'
theorem renameField_any {w : World} {base p : Nat} {L : List Kd} {B : List Bd} (h : OSc w base p L B) (hbase : base ≤ w.heap.size) (hs : (sErr L B).2 = 0) (c : Ch) (hc : ChIs w c) (hz : ChSz c) :
    Calls Tryz.prog 76 #[.pointer (some ⟨p, 0, none⟩), c.one] w (WrP w base p (e7 L c.nm c.fd.nm c.tn) (setFs L c.nm (rnF (fdsAt L c.nm) c.fd.nm c.tn)) B) := by
  obtain ⟨hG, hl, hb⟩ := good_of hs
  rcases e4_cases L c.nm c.fd.nm with e | e
  · by_cases hn : nErr c.tn = 0
    · by_cases hf : fnd c.tn (fdsAt L c.nm) = true
      · have e' : e7 L c.nm c.fd.nm c.tn = 7 := by unfold e7; rw [if_pos e, if_pos hn, if_pos hf]
        exact (renameField_has h hl hG c hc hz.2.2.2.2.2 e hn hf).mono fun _ w' h' => WrP.no hbase e'.symm (by rw [e']; decide) h'
      · have e' : e7 L c.nm c.fd.nm c.tn = 0 := by unfold e7; rw [if_pos e, if_pos hn, if_neg hf]
        exact (renameField_ok h hbase hl hG c hc hz.2.2.2.2.2 e hn (by simpa using hf)).mono fun _ w' h' => WrP.yes e' h'
    · have e' : e7 L c.nm c.fd.nm c.tn = nErr c.tn := by unfold e7; rw [if_pos e, if_neg hn]
      exact (renameField_bad h hl hG c hc hz.2.2.2.2.2 e hn).mono fun _ w' h' => WrP.no hbase e'.symm (by rw [e']; exact hn) h'
  · have e' : e7 L c.nm c.fd.nm c.tn = 5 := by unfold e7; rw [e]; rfl
    exact (renameField_no h hl hG c hc e).mono fun _ w' h' => WrP.no hbase e'.symm (by rw [e']; decide) h'
theorem dropBond_any {w : World} {base p : Nat} {L : List Kd} {B : List Bd} (h : OSc w base p L B) (hbase : base ≤ w.heap.size) (hs : (sErr L B).2 = 0) (n : Nm) :
    Calls Tryz.prog 75 #[.pointer (some ⟨p, 0, none⟩), .string (bs n)] w (WrP w base p (e6 B n) L (B.eraseIdx (bAt B n))) := by
  obtain ⟨hG, hl, hb⟩ := good_of hs
  by_cases hx : idxB n B 0 = -1
  · have e : e6 B n = 5 := by unfold e6; rw [if_pos hx]
    exact (dropBond_no h hb n hx).mono fun e' w' h' => WrP.no hbase e.symm (by rw [e]; decide) h'
  · have e : e6 B n = 0 := by unfold e6; rw [if_neg hx]
    exact (dropBond_yes h hbase hb n hx).mono fun e' w' h' => WrP.yes e ⟨h'.1, ⟨_, h'.2.1, rfl⟩, h'.2.2⟩
theorem setRange_any {w : World} {base p : Nat} {L : List Kd} {B : List Bd} (h : OSc w base p L B) (hbase : base ≤ w.heap.size) (hs : (sErr L B).2 = 0) (c : Ch) (hc : ChIs w c) :
    Calls Tryz.prog 77 #[.pointer (some ⟨p, 0, none⟩), c.one] w (WrP w base p (e6 B c.nm) L (setR B c.nm c.bd.mn c.bd.mx)) := by
  obtain ⟨hG, hl, hb⟩ := good_of hs
  by_cases hx : idxB c.nm B 0 = -1
  · have e : e6 B c.nm = 5 := by unfold e6; rw [if_pos hx]
    exact (setRange_no h hb c hc hx).mono fun e' w' h' => WrP.no hbase e.symm (by rw [e]; decide) h'
  · have e : e6 B c.nm = 0 := by unfold e6; rw [if_neg hx]
    exact (setRange_yes h hbase hb c hc hx).mono fun e' w' h' => WrP.yes e ⟨h'.1, ⟨_, h'.2.1, rfl⟩, h'.2.2⟩
end Go.Proofs.YtpmblbhemcippaaGreatDoor

/-
  The walk of change.write: all but a kind and a bond that are added.
-/
namespace Go.Proofs.YtpmblbhemcippaaGreatDoor
open Go.RowKit
set_option linter.unusedVariables false
set_option linter.unusedSimpArgs false

theorem WrP.from {w W w' : World} {base p : Nat} {ex : Int} {K : List Kd} {B : List Bd} {e : Ending} (h : WrP W base p ex K B e w') (hB : Below base w W) : WrP w base p ex K B e w' := ⟨h.1, h.2.1, hB.trans h.2.2⟩
set_option maxHeartbeats 4000000 in
set_option maxRecDepth 100000 in
theorem write_2 {w : World} {base p : Nat} {L : List Kd} {B : List Bd} (h : OSc w base p L B) (hbase : base ≤ w.heap.size) (hs : (sErr L B).2 = 0) (c : Ch) (hc : ChIs w c) (hz : ChSz c) (hw : c.wh = 2) :
    Calls Tryz.prog 49 #[.pointer (some ⟨p, 0, none⟩), c.one] w (WrP w base p (e2 L B c.nm) (L.eraseIdx (nmAt L c.nm)) (B)) := by
  obtain ⟨wh, nm, ⟨kn, ko, kf, vo, vf⟩, ⟨bn, bf, bt, mn, mx⟩, ⟨fn, ft, fm, fk⟩, vt, vn, vs, tn⟩ := c
  obtain ⟨ao, lo1, co, q1⟩ := hc.1.sl
  obtain ⟨af, lf1, cf, q2⟩ := hc.2.sl
  simp only at q1 q2 hw ⊢
  subst q1 q2
  obtain ⟨W0, hW0⟩ : ∃ W0, W0 = w.alloc (.cells #[.int .i64 wh, .string (bs nm), .string (bs kn), .slice ao lo1 co, .slice af lf1 cf, .string (bs bn), .string (bs bf), .string (bs bt), .int .i64 mn, .int .i64 mx, .string (bs fn), .int .i64 ft, .bool fm, .bool fk, .int .i64 vt, .int .i64 vn, .string (bs vs), .string (bs tn)] 38) := ⟨_, rfl⟩
  have hB0 : Below w.heap.size w W0 := by rw [hW0]; exact b_alloc (Below.refl _ _) _
  have n0 := heap_alloc_new w (.cells #[.int .i64 wh, .string (bs nm), .string (bs kn), .slice ao lo1 co, .slice af lf1 cf, .string (bs bn), .string (bs bf), .string (bs bt), .int .i64 mn, .int .i64 mx, .string (bs fn), .int .i64 ft, .bool fm, .bool fk, .int .i64 vt, .int .i64 vn, .string (bs vs), .string (bs tn)] 38)
  rw [← hW0] at n0
  subst hw
  have hk := dropKind_any (h.on hB0) (Nat.le_trans hbase hB0.size) hs nm
  (try dsimp only [Ch.one] at hk)
  generalize hex : (e2 L B nm) = ex at hk ⊢
  have d0 : W0.cell? ⟨w.heap.size, 0, none⟩ = some (.int .i64 2) := cell_at n0 rfl
  have d1 : W0.cell? ⟨w.heap.size, 1, none⟩ = some (.string (bs nm)) := cell_at n0 rfl
  have HN := Lib.hid n0
  have HB0 := Lib.hid hB0
  clear h hs hz n0 hB0 hex hc
  go_enter Tryz.func49, Tryz.ntmps49
  go_upto_region 1 with fail
  rw [← hW0]
  clear hW0
  go_wp2_with (first | (go_at_call 72; refine hk.mono ?_; rintro e w1 ⟨rfl, hk1⟩))
  go_ret
  exact ⟨rfl, hk1.1, (HB0.out.mono hbase).trans hk1.2⟩
set_option maxHeartbeats 4000000 in
set_option maxRecDepth 100000 in
theorem write_3 {w : World} {base p : Nat} {L : List Kd} {B : List Bd} (h : OSc w base p L B) (hbase : base ≤ w.heap.size) (hs : (sErr L B).2 = 0) (c : Ch) (hc : ChIs w c) (hz : ChSz c) (hw : c.wh = 3) :
    Calls Tryz.prog 49 #[.pointer (some ⟨p, 0, none⟩), c.one] w (WrP w base p (e3 L c) (setFs L c.nm (insA (fdsAt L c.nm) c.fd)) (B)) := by
  obtain ⟨wh, nm, ⟨kn, ko, kf, vo, vf⟩, ⟨bn, bf, bt, mn, mx⟩, ⟨fn, ft, fm, fk⟩, vt, vn, vs, tn⟩ := c
  obtain ⟨ao, lo1, co, q1⟩ := hc.1.sl
  obtain ⟨af, lf1, cf, q2⟩ := hc.2.sl
  simp only at q1 q2 hw ⊢
  subst q1 q2
  obtain ⟨W0, hW0⟩ : ∃ W0, W0 = w.alloc (.cells #[.int .i64 wh, .string (bs nm), .string (bs kn), .slice ao lo1 co, .slice af lf1 cf, .string (bs bn), .string (bs bf), .string (bs bt), .int .i64 mn, .int .i64 mx, .string (bs fn), .int .i64 ft, .bool fm, .bool fk, .int .i64 vt, .int .i64 vn, .string (bs vs), .string (bs tn)] 38) := ⟨_, rfl⟩
  have hB0 : Below w.heap.size w W0 := by rw [hW0]; exact b_alloc (Below.refl _ _) _
  have n0 := heap_alloc_new w (.cells #[.int .i64 wh, .string (bs nm), .string (bs kn), .slice ao lo1 co, .slice af lf1 cf, .string (bs bn), .string (bs bf), .string (bs bt), .int .i64 mn, .int .i64 mx, .string (bs fn), .int .i64 ft, .bool fm, .bool fk, .int .i64 vt, .int .i64 vn, .string (bs vs), .string (bs tn)] 38)
  rw [← hW0] at n0
  subst hw
  have hk := addField_any (h.on hB0) (Nat.le_trans hbase hB0.size) hs ⟨3, nm, ⟨kn, ko, kf, .slice ao lo1 co, .slice af lf1 cf⟩, ⟨bn, bf, bt, mn, mx⟩, ⟨fn, ft, fm, fk⟩, vt, vn, vs, tn⟩ (hc.on hB0) hz
  (try dsimp only [Ch.one] at hk)
  generalize hex : (e3 L ⟨3, nm, ⟨kn, ko, kf, .slice ao lo1 co, .slice af lf1 cf⟩, ⟨bn, bf, bt, mn, mx⟩, ⟨fn, ft, fm, fk⟩, vt, vn, vs, tn⟩) = ex at hk ⊢
  have d0 : W0.cell? ⟨w.heap.size, 0, none⟩ = some (.int .i64 3) := cell_at n0 rfl
  have d1 : W0.cell? ⟨w.heap.size, 1, none⟩ = some (.string (bs nm)) := cell_at n0 rfl
  have HN := Lib.hid n0
  have HB0 := Lib.hid hB0
  clear h hs hz n0 hB0 hex hc
  go_enter Tryz.func49, Tryz.ntmps49
  go_upto_region 1 with fail
  rw [← hW0]
  clear hW0
  go_wp2_with (first | (refine wpList_load_row rfl 38 (.tmp 3) rfl w.heap.size rfl 38 _ (0, 0) _ HN.out Tryz.underlying38 rfl info37 ?_) | (go_at_call 73; refine hk.mono ?_; rintro e w1 ⟨rfl, hk1⟩))
  go_ret
  exact ⟨rfl, hk1.1, (HB0.out.mono hbase).trans hk1.2⟩
set_option maxHeartbeats 4000000 in
set_option maxRecDepth 100000 in
theorem write_4 {w : World} {base p : Nat} {L : List Kd} {B : List Bd} (h : OSc w base p L B) (hbase : base ≤ w.heap.size) (hs : (sErr L B).2 = 0) (c : Ch) (hc : ChIs w c) (hz : ChSz c) (hw : c.wh = 4) :
    Calls Tryz.prog 49 #[.pointer (some ⟨p, 0, none⟩), c.one] w (WrP w base p (e4 L c.nm c.fd.nm) (setFs L c.nm ((fdsAt L c.nm).eraseIdx (lo c.fd.nm (fdsAt L c.nm)))) (B)) := by
  obtain ⟨wh, nm, ⟨kn, ko, kf, vo, vf⟩, ⟨bn, bf, bt, mn, mx⟩, ⟨fn, ft, fm, fk⟩, vt, vn, vs, tn⟩ := c
  obtain ⟨ao, lo1, co, q1⟩ := hc.1.sl
  obtain ⟨af, lf1, cf, q2⟩ := hc.2.sl
  simp only at q1 q2 hw ⊢
  subst q1 q2
  obtain ⟨W0, hW0⟩ : ∃ W0, W0 = w.alloc (.cells #[.int .i64 wh, .string (bs nm), .string (bs kn), .slice ao lo1 co, .slice af lf1 cf, .string (bs bn), .string (bs bf), .string (bs bt), .int .i64 mn, .int .i64 mx, .string (bs fn), .int .i64 ft, .bool fm, .bool fk, .int .i64 vt, .int .i64 vn, .string (bs vs), .string (bs tn)] 38) := ⟨_, rfl⟩
  have hB0 : Below w.heap.size w W0 := by rw [hW0]; exact b_alloc (Below.refl _ _) _
  have n0 := heap_alloc_new w (.cells #[.int .i64 wh, .string (bs nm), .string (bs kn), .slice ao lo1 co, .slice af lf1 cf, .string (bs bn), .string (bs bf), .string (bs bt), .int .i64 mn, .int .i64 mx, .string (bs fn), .int .i64 ft, .bool fm, .bool fk, .int .i64 vt, .int .i64 vn, .string (bs vs), .string (bs tn)] 38)
  rw [← hW0] at n0
  subst hw
  have hk := dropField_any (h.on hB0) (Nat.le_trans hbase hB0.size) hs ⟨4, nm, ⟨kn, ko, kf, .slice ao lo1 co, .slice af lf1 cf⟩, ⟨bn, bf, bt, mn, mx⟩, ⟨fn, ft, fm, fk⟩, vt, vn, vs, tn⟩ (hc.on hB0)
  (try dsimp only [Ch.one] at hk)
  generalize hex : (e4 L nm fn) = ex at hk ⊢
  have d0 : W0.cell? ⟨w.heap.size, 0, none⟩ = some (.int .i64 4) := cell_at n0 rfl
  have d1 : W0.cell? ⟨w.heap.size, 1, none⟩ = some (.string (bs nm)) := cell_at n0 rfl
  have HN := Lib.hid n0
  have HB0 := Lib.hid hB0
  clear h hs hz n0 hB0 hex hc
  go_enter Tryz.func49, Tryz.ntmps49
  go_upto_region 1 with fail
  rw [← hW0]
  clear hW0
  go_wp2_with (first | (refine wpList_load_row rfl 38 (.tmp 3) rfl w.heap.size rfl 38 _ (0, 0) _ HN.out Tryz.underlying38 rfl info37 ?_) | (go_at_call 74; refine hk.mono ?_; rintro e w1 ⟨rfl, hk1⟩))
  go_ret
  exact ⟨rfl, hk1.1, (HB0.out.mono hbase).trans hk1.2⟩
set_option maxHeartbeats 4000000 in
set_option maxRecDepth 100000 in
theorem write_6 {w : World} {base p : Nat} {L : List Kd} {B : List Bd} (h : OSc w base p L B) (hbase : base ≤ w.heap.size) (hs : (sErr L B).2 = 0) (c : Ch) (hc : ChIs w c) (hz : ChSz c) (hw : c.wh = 6) :
    Calls Tryz.prog 49 #[.pointer (some ⟨p, 0, none⟩), c.one] w (WrP w base p (e6 B c.nm) (L) (B.eraseIdx (bAt B c.nm))) := by
  obtain ⟨wh, nm, ⟨kn, ko, kf, vo, vf⟩, ⟨bn, bf, bt, mn, mx⟩, ⟨fn, ft, fm, fk⟩, vt, vn, vs, tn⟩ := c
  obtain ⟨ao, lo1, co, q1⟩ := hc.1.sl
  obtain ⟨af, lf1, cf, q2⟩ := hc.2.sl
  simp only at q1 q2 hw ⊢
  subst q1 q2
  obtain ⟨W0, hW0⟩ : ∃ W0, W0 = w.alloc (.cells #[.int .i64 wh, .string (bs nm), .string (bs kn), .slice ao lo1 co, .slice af lf1 cf, .string (bs bn), .string (bs bf), .string (bs bt), .int .i64 mn, .int .i64 mx, .string (bs fn), .int .i64 ft, .bool fm, .bool fk, .int .i64 vt, .int .i64 vn, .string (bs vs), .string (bs tn)] 38) := ⟨_, rfl⟩
  have hB0 : Below w.heap.size w W0 := by rw [hW0]; exact b_alloc (Below.refl _ _) _
  have n0 := heap_alloc_new w (.cells #[.int .i64 wh, .string (bs nm), .string (bs kn), .slice ao lo1 co, .slice af lf1 cf, .string (bs bn), .string (bs bf), .string (bs bt), .int .i64 mn, .int .i64 mx, .string (bs fn), .int .i64 ft, .bool fm, .bool fk, .int .i64 vt, .int .i64 vn, .string (bs vs), .string (bs tn)] 38)
  rw [← hW0] at n0
  subst hw
  have hk := dropBond_any (h.on hB0) (Nat.le_trans hbase hB0.size) hs nm
  (try dsimp only [Ch.one] at hk)
  generalize hex : (e6 B nm) = ex at hk ⊢
  have d0 : W0.cell? ⟨w.heap.size, 0, none⟩ = some (.int .i64 6) := cell_at n0 rfl
  have d1 : W0.cell? ⟨w.heap.size, 1, none⟩ = some (.string (bs nm)) := cell_at n0 rfl
  have HN := Lib.hid n0
  have HB0 := Lib.hid hB0
  clear h hs hz n0 hB0 hex hc
  go_enter Tryz.func49, Tryz.ntmps49
  go_upto_region 1 with fail
  rw [← hW0]
  clear hW0
  go_wp2_with (first | (go_at_call 75; refine hk.mono ?_; rintro e w1 ⟨rfl, hk1⟩))
  go_ret
  exact ⟨rfl, hk1.1, (HB0.out.mono hbase).trans hk1.2⟩
set_option maxHeartbeats 4000000 in
set_option maxRecDepth 100000 in
theorem write_7 {w : World} {base p : Nat} {L : List Kd} {B : List Bd} (h : OSc w base p L B) (hbase : base ≤ w.heap.size) (hs : (sErr L B).2 = 0) (c : Ch) (hc : ChIs w c) (hz : ChSz c) (hw : c.wh = 7) :
    Calls Tryz.prog 49 #[.pointer (some ⟨p, 0, none⟩), c.one] w (WrP w base p (e7 L c.nm c.fd.nm c.tn) (setFs L c.nm (rnF (fdsAt L c.nm) c.fd.nm c.tn)) (B)) := by
  obtain ⟨wh, nm, ⟨kn, ko, kf, vo, vf⟩, ⟨bn, bf, bt, mn, mx⟩, ⟨fn, ft, fm, fk⟩, vt, vn, vs, tn⟩ := c
  obtain ⟨ao, lo1, co, q1⟩ := hc.1.sl
  obtain ⟨af, lf1, cf, q2⟩ := hc.2.sl
  simp only at q1 q2 hw ⊢
  subst q1 q2
  obtain ⟨W0, hW0⟩ : ∃ W0, W0 = w.alloc (.cells #[.int .i64 wh, .string (bs nm), .string (bs kn), .slice ao lo1 co, .slice af lf1 cf, .string (bs bn), .string (bs bf), .string (bs bt), .int .i64 mn, .int .i64 mx, .string (bs fn), .int .i64 ft, .bool fm, .bool fk, .int .i64 vt, .int .i64 vn, .string (bs vs), .string (bs tn)] 38) := ⟨_, rfl⟩
  have hB0 : Below w.heap.size w W0 := by rw [hW0]; exact b_alloc (Below.refl _ _) _
  have n0 := heap_alloc_new w (.cells #[.int .i64 wh, .string (bs nm), .string (bs kn), .slice ao lo1 co, .slice af lf1 cf, .string (bs bn), .string (bs bf), .string (bs bt), .int .i64 mn, .int .i64 mx, .string (bs fn), .int .i64 ft, .bool fm, .bool fk, .int .i64 vt, .int .i64 vn, .string (bs vs), .string (bs tn)] 38)
  rw [← hW0] at n0
  subst hw
  have hk := renameField_any (h.on hB0) (Nat.le_trans hbase hB0.size) hs ⟨7, nm, ⟨kn, ko, kf, .slice ao lo1 co, .slice af lf1 cf⟩, ⟨bn, bf, bt, mn, mx⟩, ⟨fn, ft, fm, fk⟩, vt, vn, vs, tn⟩ (hc.on hB0) hz
  (try dsimp only [Ch.one] at hk)
  generalize hex : (e7 L nm fn tn) = ex at hk ⊢
  have d0 : W0.cell? ⟨w.heap.size, 0, none⟩ = some (.int .i64 7) := cell_at n0 rfl
  have d1 : W0.cell? ⟨w.heap.size, 1, none⟩ = some (.string (bs nm)) := cell_at n0 rfl
  have HN := Lib.hid n0
  have HB0 := Lib.hid hB0
  clear h hs hz n0 hB0 hex hc
  go_enter Tryz.func49, Tryz.ntmps49
  go_upto_region 1 with fail
  rw [← hW0]
  clear hW0
  go_wp2_with (first | (refine wpList_load_row rfl 38 (.tmp 3) rfl w.heap.size rfl 38 _ (0, 0) _ HN.out Tryz.underlying38 rfl info37 ?_) | (go_at_call 76; refine hk.mono ?_; rintro e w1 ⟨rfl, hk1⟩))
  go_ret
  exact ⟨rfl, hk1.1, (HB0.out.mono hbase).trans hk1.2⟩
set_option maxHeartbeats 4000000 in
set_option maxRecDepth 100000 in
theorem write_8 {w : World} {base p : Nat} {L : List Kd} {B : List Bd} (h : OSc w base p L B) (hbase : base ≤ w.heap.size) (hs : (sErr L B).2 = 0) (c : Ch) (hc : ChIs w c) (hz : ChSz c) (hw : c.wh = 8) :
    Calls Tryz.prog 49 #[.pointer (some ⟨p, 0, none⟩), c.one] w (WrP w base p (e6 B c.nm) (L) (setR B c.nm c.bd.mn c.bd.mx)) := by
  obtain ⟨wh, nm, ⟨kn, ko, kf, vo, vf⟩, ⟨bn, bf, bt, mn, mx⟩, ⟨fn, ft, fm, fk⟩, vt, vn, vs, tn⟩ := c
  obtain ⟨ao, lo1, co, q1⟩ := hc.1.sl
  obtain ⟨af, lf1, cf, q2⟩ := hc.2.sl
  simp only at q1 q2 hw ⊢
  subst q1 q2
  obtain ⟨W0, hW0⟩ : ∃ W0, W0 = w.alloc (.cells #[.int .i64 wh, .string (bs nm), .string (bs kn), .slice ao lo1 co, .slice af lf1 cf, .string (bs bn), .string (bs bf), .string (bs bt), .int .i64 mn, .int .i64 mx, .string (bs fn), .int .i64 ft, .bool fm, .bool fk, .int .i64 vt, .int .i64 vn, .string (bs vs), .string (bs tn)] 38) := ⟨_, rfl⟩
  have hB0 : Below w.heap.size w W0 := by rw [hW0]; exact b_alloc (Below.refl _ _) _
  have n0 := heap_alloc_new w (.cells #[.int .i64 wh, .string (bs nm), .string (bs kn), .slice ao lo1 co, .slice af lf1 cf, .string (bs bn), .string (bs bf), .string (bs bt), .int .i64 mn, .int .i64 mx, .string (bs fn), .int .i64 ft, .bool fm, .bool fk, .int .i64 vt, .int .i64 vn, .string (bs vs), .string (bs tn)] 38)
  rw [← hW0] at n0
  subst hw
  have hk := setRange_any (h.on hB0) (Nat.le_trans hbase hB0.size) hs ⟨8, nm, ⟨kn, ko, kf, .slice ao lo1 co, .slice af lf1 cf⟩, ⟨bn, bf, bt, mn, mx⟩, ⟨fn, ft, fm, fk⟩, vt, vn, vs, tn⟩ (hc.on hB0)
  (try dsimp only [Ch.one] at hk)
  generalize hex : (e6 B nm) = ex at hk ⊢
  have d0 : W0.cell? ⟨w.heap.size, 0, none⟩ = some (.int .i64 8) := cell_at n0 rfl
  have d1 : W0.cell? ⟨w.heap.size, 1, none⟩ = some (.string (bs nm)) := cell_at n0 rfl
  have HN := Lib.hid n0
  have HB0 := Lib.hid hB0
  clear h hs hz n0 hB0 hex hc
  go_enter Tryz.func49, Tryz.ntmps49
  go_upto_region 1 with fail
  rw [← hW0]
  clear hW0
  go_wp2_with (first | (refine wpList_load_row rfl 38 (.tmp 3) rfl w.heap.size rfl 38 _ (0, 0) _ HN.out Tryz.underlying38 rfl info37 ?_) | (go_at_call 77; refine hk.mono ?_; rintro e w1 ⟨rfl, hk1⟩))
  go_ret
  exact ⟨rfl, hk1.1, (HB0.out.mono hbase).trans hk1.2⟩
set_option maxHeartbeats 4000000 in
set_option maxRecDepth 100000 in
theorem write_0 {w : World} {base p : Nat} {K L : List Kd} {B B' : List Bd} (h : OSc w base p L B) (hbase : base ≤ w.heap.size) (c : Ch) (hc : ChIs w c) (h1 : ¬ c.wh = 1) (h2 : ¬ c.wh = 2) (h3 : ¬ c.wh = 3) (h4 : ¬ c.wh = 4) (h5 : ¬ c.wh = 5) (h6 : ¬ c.wh = 6) (h7 : ¬ c.wh = 7) (h8 : ¬ c.wh = 8) :
    Calls Tryz.prog 49 #[.pointer (some ⟨p, 0, none⟩), c.one] w (WrP w base p 1 K B') := by
  obtain ⟨wh, nm, ⟨kn, ko, kf, vo, vf⟩, ⟨bn, bf, bt, mn, mx⟩, ⟨fn, ft, fm, fk⟩, vt, vn, vs, tn⟩ := c
  obtain ⟨ao, lo1, co, q1⟩ := hc.1.sl
  obtain ⟨af, lf1, cf, q2⟩ := hc.2.sl
  simp only at q1 q2 h1 h2 h3 h4 h5 h6 h7 h8 ⊢
  subst q1 q2
  obtain ⟨W0, hW0⟩ : ∃ W0, W0 = w.alloc (.cells #[.int .i64 wh, .string (bs nm), .string (bs kn), .slice ao lo1 co, .slice af lf1 cf, .string (bs bn), .string (bs bf), .string (bs bt), .int .i64 mn, .int .i64 mx, .string (bs fn), .int .i64 ft, .bool fm, .bool fk, .int .i64 vt, .int .i64 vn, .string (bs vs), .string (bs tn)] 38) := ⟨_, rfl⟩
  have hB0 : Below w.heap.size w W0 := by rw [hW0]; exact b_alloc (Below.refl _ _) _
  have n0 := heap_alloc_new w (.cells #[.int .i64 wh, .string (bs nm), .string (bs kn), .slice ao lo1 co, .slice af lf1 cf, .string (bs bn), .string (bs bf), .string (bs bt), .int .i64 mn, .int .i64 mx, .string (bs fn), .int .i64 ft, .bool fm, .bool fk, .int .i64 vt, .int .i64 vn, .string (bs vs), .string (bs tn)] 38)
  rw [← hW0] at n0
  have g1 : (wh == 1) = false := by simpa using h1
  have g2 : (wh == 2) = false := by simpa using h2
  have g3 : (wh == 3) = false := by simpa using h3
  have g4 : (wh == 4) = false := by simpa using h4
  have g5 : (wh == 5) = false := by simpa using h5
  have g6 : (wh == 6) = false := by simpa using h6
  have g7 : (wh == 7) = false := by simpa using h7
  have g8 : (wh == 8) = false := by simpa using h8
  have d0 : W0.cell? ⟨w.heap.size, 0, none⟩ = some (.int .i64 wh) := cell_at n0 rfl
  have HB0 := Lib.hid hB0
  clear h n0 hB0 hc h1 h2 h3 h4 h5 h6 h7 h8
  go_enter Tryz.func49, Tryz.ntmps49
  go_upto_region 1 with fail
  rw [← hW0]
  clear hW0
  go_wp2
  go_ret
  exact ⟨rfl, fun e => absurd e (by decide), HB0.out.mono hbase⟩
end Go.Proofs.YtpmblbhemcippaaGreatDoor
