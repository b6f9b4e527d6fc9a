/-
  The walk of change.renameField.
-/
import Derived.Test.YtpmblbhemcippaaGreatDoorM24
namespace Go.Proofs.YtpmblbhemcippaaGreatDoor
open Go.RowKit
set_option linter.unusedVariables false
set_option linter.unusedSimpArgs false

set_option maxHeartbeats 4000000 in
set_option maxRecDepth 100000 in
theorem renameField_no {w : World} {base p : Nat} {L : List Kd} {B : List Bd} (h : OSc w base p L B) (hn : L.length ≤ 12) (hG : Good L) (c : Ch) (hc : ChIs w c) (hx : e4 L c.nm c.fd.nm = 5) :
    Calls Tryz.prog 76 #[.pointer (some ⟨p, 0, none⟩), c.one] w fun e w' => e = .returned (errV 5) ∧ Below w.heap.size w w' := by
  obtain ⟨wh, nm, ⟨kn, ko, kf, vo, vf⟩, ⟨bn, bf, bt, mn, mx⟩, ⟨fn, ft, fm, fk⟩, vt, vn, vs, tn⟩ := c
  obtain ⟨ao, lo1, co, q1⟩ := hc.1.sl
  obtain ⟨af, lf1, cf, q2⟩ := hc.2.sl
  simp only at q1 q2 hx ⊢
  subst q1 q2
  obtain ⟨W0, hW0⟩ : ∃ W0, W0 = w.alloc (.cells #[.int .i64 wh, .string (bs nm), .string (bs kn), .slice ao lo1 co, .slice af lf1 cf, .string (bs bn), .string (bs bf), .string (bs bt), .int .i64 mn, .int .i64 mx, .string (bs fn), .int .i64 ft, .bool fm, .bool fk, .int .i64 vt, .int .i64 vn, .string (bs vs), .string (bs tn)] 38) := ⟨_, rfl⟩
  have hB0 : Below w.heap.size w W0 := by rw [hW0]; exact b_alloc (Below.refl _ _) _
  have n0 := heap_alloc_new w (.cells #[.int .i64 wh, .string (bs nm), .string (bs kn), .slice ao lo1 co, .slice af lf1 cf, .string (bs bn), .string (bs bf), .string (bs bt), .int .i64 mn, .int .i64 mx, .string (bs fn), .int .i64 ft, .bool fm, .bool fk, .int .i64 vt, .int .i64 vn, .string (bs vs), .string (bs tn)] 38)
  rw [← hW0] at n0
  have cow : Calls Tryz.prog 113 #[.pointer (some ⟨p, 0, none⟩), (⟨wh, nm, ⟨kn, ko, kf, .slice ao lo1 co, .slice af lf1 cf⟩, ⟨bn, bf, bt, mn, mx⟩, ⟨fn, ft, fm, fk⟩, vt, vn, vs, tn⟩ : Ch).one] W0 fun e w' => e = .returned (.tuple #[.pointer none, .int .i64 0, .iface 71 (.int .i64 5)]) ∧ Below W0.heap.size W0 w' := by
    by_cases hi : idxK nm L 0 = -1
    · exact ownField_none (h.on hB0) hn _ (hc.on hB0) hi
    · obtain ⟨j, q, hj, hat, hq, _⟩ := nmAt_has hi
      have hf : fnd fn q.fs = false := by
        unfold e4 at hx
        rw [if_neg hi, fdsAt_eq hat hq] at hx
        cases hb : fnd fn q.fs
        · rfl
        · rw [hb] at hx; exact absurd hx (by decide)
      obtain ⟨vk, vb, hp, hX, hK, hA, hT⟩ := h.on hB0
      obtain ⟨gk, cp, rfl⟩ := hK.at (Nat.lt_of_le_of_lt (Nat.zero_le _) (List.getElem?_eq_some_iff.1 hq).1)
      have := ownField_some (B := B) hp hX hK hn hG ⟨wh, nm, ⟨kn, ko, kf, .slice ao lo1 co, .slice af lf1 cf⟩, ⟨bn, bf, bt, mn, mx⟩, ⟨fn, ft, fm, fk⟩, vt, vn, vs, tn⟩ (hc.on hB0) hj hq
      simp only [hf] at this
      exact this
  dsimp only [Ch.one] at cow
  have HB0 := Lib.hid hB0
  have HN := Lib.hid n0
  clear h hx n0 hB0 hG
  go_enter Tryz.func76, Tryz.ntmps76
  go_upto_region 1 with fail
  rw [← hW0]
  clear hW0
  go_wp2_with (first | (refine wpList_load_row rfl 38 (.tmp 3) rfl w.heap.size rfl 38 _ (0, 0) _ HN.out Tryz.underlying38 rfl info37 ?_) | (go_at_call 113; refine cow.mono ?_; rintro e w1 ⟨rfl, hB1⟩))
  go_ret
  exact ⟨rfl, on1K HB0.out hB1 (Nat.le_refl _)⟩
set_option maxHeartbeats 8000000 in
set_option maxRecDepth 100000 in
theorem renameField_bad {w : World} {base p : Nat} {L : List Kd} {B : List Bd} (h : OSc w base p L B) (hn : L.length ≤ 12) (hG : Good L) (c : Ch) (hc : ChIs w c) (hz : c.tn.length ≤ maxLen) (hx : e4 L c.nm c.fd.nm = 0) (hne : ¬ nErr c.tn = 0) :
    Calls Tryz.prog 76 #[.pointer (some ⟨p, 0, none⟩), c.one] w fun e w' => e = .returned (errV (nErr c.tn)) ∧ Below w.heap.size w w' := by
  obtain ⟨wh, nm, ⟨kn, ko, kf, vo, vf⟩, ⟨bn, bf, bt, mn, mx⟩, ⟨fn, ft, fm, fk⟩, vt, vn, vs, tn⟩ := c
  obtain ⟨ao, lo1, co, q1⟩ := hc.1.sl
  obtain ⟨af, lf1, cf, q2⟩ := hc.2.sl
  simp only at q1 q2 hz hx hne ⊢
  subst q1 q2
  obtain ⟨W0, hW0⟩ : ∃ W0, W0 = w.alloc (.cells #[.int .i64 wh, .string (bs nm), .string (bs kn), .slice ao lo1 co, .slice af lf1 cf, .string (bs bn), .string (bs bf), .string (bs bt), .int .i64 mn, .int .i64 mx, .string (bs fn), .int .i64 ft, .bool fm, .bool fk, .int .i64 vt, .int .i64 vn, .string (bs vs), .string (bs tn)] 38) := ⟨_, rfl⟩
  have hB0 : Below w.heap.size w W0 := by rw [hW0]; exact b_alloc (Below.refl _ _) _
  have n0 := heap_alloc_new w (.cells #[.int .i64 wh, .string (bs nm), .string (bs kn), .slice ao lo1 co, .slice af lf1 cf, .string (bs bn), .string (bs bf), .string (bs bt), .int .i64 mn, .int .i64 mx, .string (bs fn), .int .i64 ft, .bool fm, .bool fk, .int .i64 vt, .int .i64 vn, .string (bs vs), .string (bs tn)] 38)
  rw [← hW0] at n0
  have hi : ¬ idxK nm L 0 = -1 := fun e => by unfold e4 at hx; rw [if_pos e] at hx; exact absurd hx (by decide)
  obtain ⟨j, q, hj, hat, hq, _⟩ := nmAt_has hi
  have hf : fnd fn q.fs = true := by
    unfold e4 at hx
    rw [if_neg hi, fdsAt_eq hat hq] at hx
    cases hb : fnd fn q.fs
    · rw [hb] at hx; exact absurd hx (by decide)
    · rfl
  have hjl := (List.getElem?_eq_some_iff.1 hq).1
  obtain ⟨vk, vb, hp, hX, hK, hA, hT⟩ := h.on hB0
  obtain ⟨gk, cp, rfl⟩ := hK.at (Nat.lt_of_le_of_lt (Nat.zero_le _) hjl)
  have cow := ownField_some (B := B) hp hX hK hn hG ⟨wh, nm, ⟨kn, ko, kf, .slice ao lo1 co, .slice af lf1 cf⟩, ⟨bn, bf, bt, mn, mx⟩, ⟨fn, ft, fm, fk⟩, vt, vn, vs, tn⟩ (hc.on hB0) hj hq
  simp only [hf] at cow
  have cow : Calls Tryz.prog 113 #[.pointer (some ⟨p, 0, none⟩), (⟨wh, nm, ⟨kn, ko, kf, .slice ao lo1 co, .slice af lf1 cf⟩, ⟨bn, bf, bt, mn, mx⟩, ⟨fn, ft, fm, fk⟩, vt, vn, vs, tn⟩ : Ch).one] W0 fun e w' => e = .returned (.tuple #[.pointer (some ⟨gk, j * 3, none⟩), .int .i64 (lo fn q.fs), .nilIface]) ∧ Below W0.heap.size W0 w' := cow
  dsimp only [Ch.one] at cow
  have hml := fnd_lt hf
  have hs := hG.srt q (List.mem_of_getElem? hq)
  have hFq := (hK.2 q (List.mem_of_getElem? hq)).2
  have hwl : w.heap.size < W0.heap.size := by rw [hW0]; simp
  have hpl : p < W0.heap.size := (Array.getElem?_eq_some_iff.1 hX).1
  have HCn : Hid (∀ W, Calls Tryz.prog 7 #[.string (bs tn)] W fun e w' => e = .returned (errV (nErr tn)) ∧ w' = W) := fun W => by
    have := name_any (bs tn) W (by rw [bs_size]; exact hz)
    simp only [bs_data] at this
    exact this
  have HX : Hid (∀ W, Below W0.heap.size W0 W → W.cell? ⟨gk, j * 3 + 2, none⟩ = some q.vf ∧ W.cell? ⟨w.heap.size, 17, none⟩ = some (.string (bs tn))) := fun W hb => by
    have nn := (hb.block _ hwl).trans n0
    exact ⟨(hK.kt (.of_below hb) (.of_below hb) (.of_below hb)).cell2 hq, cell_at nn rfl⟩
  have HCb : Hid (∀ W, Calls Tryz.prog 7 #[.string (bs tn)] W fun e w' => e = .returned (.iface 71 (.int .i64 (nErr tn))) ∧ w' = W) := fun W => by have := HCn.out W; rw [errV_ne hne] at this; exact this
  rw [errV_ne hne]
  generalize nErr tn = r at *
  generalize lo fn q.fs = m at *
  have HN := Lib.hid n0
  have HB0 := Lib.hid hB0
  clear hX hK hA hT hFq h hx n0 hB0 hG hj hat hq hf hi hml hs hp HCn
  go_enter Tryz.func76, Tryz.ntmps76
  go_upto_region 1 with fail
  rw [← hW0]
  clear hW0
  go_wp2_with (first | (refine wpList_load_row rfl 38 (.tmp 3) rfl w.heap.size rfl 38 _ (0, 0) _ HN.out Tryz.underlying38 rfl info37 ?_) | (go_at_call 113; refine cow.mono ?_; rintro e w1 ⟨rfl, hB1⟩; obtain ⟨g0, g1⟩ := HX.out w1 hB1) | (go_at_call 7; refine (HCb.out _).mono ?_; rintro e w2 ⟨rfl, rfl⟩))
  go_ret
  exact ⟨rfl, on1K HB0.out hB1 (Nat.le_refl _)⟩
set_option maxHeartbeats 8000000 in
set_option maxRecDepth 100000 in
theorem renameField_has {w : World} {base p : Nat} {L : List Kd} {B : List Bd} (h : OSc w base p L B) (hn : L.length ≤ 12) (hG : Good L) (c : Ch) (hc : ChIs w c) (hz : c.tn.length ≤ maxLen) (hx : e4 L c.nm c.fd.nm = 0) (hne : nErr c.tn = 0) (hh : fnd c.tn (fdsAt L c.nm) = true) :
    Calls Tryz.prog 76 #[.pointer (some ⟨p, 0, none⟩), c.one] w fun e w' => e = .returned (errV 7) ∧ Below w.heap.size w w' := by
  obtain ⟨wh, nm, ⟨kn, ko, kf, vo, vf⟩, ⟨bn, bf, bt, mn, mx⟩, ⟨fn, ft, fm, fk⟩, vt, vn, vs, tn⟩ := c
  obtain ⟨ao, lo1, co, q1⟩ := hc.1.sl
  obtain ⟨af, lf1, cf, q2⟩ := hc.2.sl
  simp only at q1 q2 hz hx hne hh ⊢
  subst q1 q2
  obtain ⟨W0, hW0⟩ : ∃ W0, W0 = w.alloc (.cells #[.int .i64 wh, .string (bs nm), .string (bs kn), .slice ao lo1 co, .slice af lf1 cf, .string (bs bn), .string (bs bf), .string (bs bt), .int .i64 mn, .int .i64 mx, .string (bs fn), .int .i64 ft, .bool fm, .bool fk, .int .i64 vt, .int .i64 vn, .string (bs vs), .string (bs tn)] 38) := ⟨_, rfl⟩
  have hB0 : Below w.heap.size w W0 := by rw [hW0]; exact b_alloc (Below.refl _ _) _
  have n0 := heap_alloc_new w (.cells #[.int .i64 wh, .string (bs nm), .string (bs kn), .slice ao lo1 co, .slice af lf1 cf, .string (bs bn), .string (bs bf), .string (bs bt), .int .i64 mn, .int .i64 mx, .string (bs fn), .int .i64 ft, .bool fm, .bool fk, .int .i64 vt, .int .i64 vn, .string (bs vs), .string (bs tn)] 38)
  rw [← hW0] at n0
  have hi : ¬ idxK nm L 0 = -1 := fun e => by unfold e4 at hx; rw [if_pos e] at hx; exact absurd hx (by decide)
  obtain ⟨j, q, hj, hat, hq, _⟩ := nmAt_has hi
  have hf : fnd fn q.fs = true := by
    unfold e4 at hx
    rw [if_neg hi, fdsAt_eq hat hq] at hx
    cases hb : fnd fn q.fs
    · rw [hb] at hx; exact absurd hx (by decide)
    · rfl
  have hjl := (List.getElem?_eq_some_iff.1 hq).1
  obtain ⟨vk, vb, hp, hX, hK, hA, hT⟩ := h.on hB0
  obtain ⟨gk, cp, rfl⟩ := hK.at (Nat.lt_of_le_of_lt (Nat.zero_le _) hjl)
  have cow := ownField_some (B := B) hp hX hK hn hG ⟨wh, nm, ⟨kn, ko, kf, .slice ao lo1 co, .slice af lf1 cf⟩, ⟨bn, bf, bt, mn, mx⟩, ⟨fn, ft, fm, fk⟩, vt, vn, vs, tn⟩ (hc.on hB0) hj hq
  simp only [hf] at cow
  have cow : Calls Tryz.prog 113 #[.pointer (some ⟨p, 0, none⟩), (⟨wh, nm, ⟨kn, ko, kf, .slice ao lo1 co, .slice af lf1 cf⟩, ⟨bn, bf, bt, mn, mx⟩, ⟨fn, ft, fm, fk⟩, vt, vn, vs, tn⟩ : Ch).one] W0 fun e w' => e = .returned (.tuple #[.pointer (some ⟨gk, j * 3, none⟩), .int .i64 (lo fn q.fs), .nilIface]) ∧ Below W0.heap.size W0 w' := cow
  dsimp only [Ch.one] at cow
  have hml := fnd_lt hf
  have hs := hG.srt q (List.mem_of_getElem? hq)
  have hFq := (hK.2 q (List.mem_of_getElem? hq)).2
  have hwl : w.heap.size < W0.heap.size := by rw [hW0]; simp
  have hpl : p < W0.heap.size := (Array.getElem?_eq_some_iff.1 hX).1
  have HCn : Hid (∀ W, Calls Tryz.prog 7 #[.string (bs tn)] W fun e w' => e = .returned (errV (nErr tn)) ∧ w' = W) := fun W => by
    have := name_any (bs tn) W (by rw [bs_size]; exact hz)
    simp only [bs_data] at this
    exact this
  have HX : Hid (∀ W, Below W0.heap.size W0 W → W.cell? ⟨gk, j * 3 + 2, none⟩ = some q.vf ∧ W.cell? ⟨w.heap.size, 17, none⟩ = some (.string (bs tn))) := fun W hb => by
    have nn := (hb.block _ hwl).trans n0
    exact ⟨(hK.kt (.of_below hb) (.of_below hb) (.of_below hb)).cell2 hq, cell_at nn rfl⟩
  rw [fdsAt_eq hat hq] at hh
  have HCb : Hid (∀ W, Calls Tryz.prog 7 #[.string (bs tn)] W fun e w' => e = .returned .nilIface ∧ w' = W) := fun W => by have := HCn.out W; rw [hne, errV_0] at this; exact this
  obtain ⟨aq, cq, eq1⟩ := own_slice hFq
  have HCf : Hid (∀ W, Below W0.heap.size W0 W → Calls Tryz.prog 110 #[.slice aq q.fs.length cq, .string (bs tn)] W fun e w' => e = .returned (.tuple #[.int .i64 (lo tn q.fs), .bool true]) ∧ Below W.heap.size W w') := fun W hb => by
    have := findField_any ((own_isF hFq).on hb) hs.1 (by omega) tn
    rw [eq1, hh] at this
    exact this
  rw [eq1] at HX
  generalize lo fn q.fs = m at *
  generalize lo tn q.fs = m2 at *
  have HN := Lib.hid n0
  have HB0 := Lib.hid hB0
  clear hX hK hA hT hFq h hx n0 hB0 hG hj hat hq hf hi hml hs hp HCn hne hh eq1
  go_enter Tryz.func76, Tryz.ntmps76
  go_upto_region 1 with fail
  rw [← hW0]
  clear hW0
  go_wp2_with (first | (refine wpList_load_row rfl 38 (.tmp 3) rfl w.heap.size rfl 38 _ (0, 0) _ HN.out Tryz.underlying38 rfl info37 ?_) | (go_at_call 113; refine cow.mono ?_; rintro e w1 ⟨rfl, hB1⟩; obtain ⟨g0, g1⟩ := HX.out w1 hB1) | (go_at_call 7; refine (HCb.out _).mono ?_; rintro e w2 ⟨rfl, rfl⟩))
  go_cut [9, 10] (fun s t wx => s = .int .i64 (m2 : Int) ∧ t = .bool true ∧ Below W0.heap.size W0 wx)
  case first =>
    go_region_with (go_at_call 110; refine (HCf.out _ (b_drewK hB1 1)).mono ?_; rintro e W2 ⟨rfl, hB2⟩)
    all_goals go_wp2
    all_goals go_meet
    all_goals exact ⟨rfl, rfl, on1K (b_drewK hB1 1) hB2 (Nat.le_refl _)⟩
  case rest =>
    obtain ⟨rfl, rfl, hB3⟩ := hcut
    go_wp2
    go_ret
    exact ⟨rfl, on1K HB0.out hB3 (Nat.le_refl _)⟩
end Go.Proofs.YtpmblbhemcippaaGreatDoor

/-
  The walk of change.renameField.
-/
namespace Go.Proofs.YtpmblbhemcippaaGreatDoor
open Go.RowKit
set_option linter.unusedVariables false
set_option linter.unusedSimpArgs false

theorem OSc.open {w : World} {base p : Nat} {L : List Kd} {B : List Bd} {vk vb : Value} (h : OSc w base p L B) (hX : w.heap[p]? = some (.cells #[vk, vb] 46 (0, 0))) : OwnKs w base vk L ∧ Apt L ∧ OwnBs w base vb B := by
  obtain ⟨vk', vb', _, h2, h3, h4, h5⟩ := h
  rw [hX] at h2
  injection h2 with e
  injection e with e
  have e2 : [vk, vb] = [vk', vb'] := congrArg Array.toList e
  injection e2 with e3 e4
  injection e4 with e4
  subst e3 e4
  exact ⟨h3, h4, h5⟩
theorem srt_erase {l : List Fd} (h : Srt l) (i : Nat) : Srt (l.eraseIdx i) := List.Pairwise.sublist (List.eraseIdx_sublist l i) h
theorem rn_mid {w W : World} {base p gk cp j m F b0 : Nat} {L : List Kd} {B : List Bd} {vb : Value} {q : Kd} {cs fc : Array Value} (hp : base ≤ p) (hX : W.heap[p]? = some (.cells #[.slice (some ⟨gk, 0, none⟩) L.length cp, vb] 46 (0, 0))) (hK : OwnKs W base (.slice (some ⟨gk, 0, none⟩) L.length cp) L) (hA : Apt L) (hT : OwnBs W base vb B) (hbase : base ≤ W.heap.size) (hq : L[j]? = some q)
    (hF : W.heap[F]? = some (.cells fc 28 (0, 0))) (hFn : ∀ g, q.vf.ownBlock = some g → g ≠ F) (hc : W.heap[b0]? = some (.cells cs 38 (0, 0))) (hB : Below base w W) {w2 : World} {v1 : Value} (h2 : w2.ownsRow base 28 4 v1 (q.fs.eraseIdx m).length (cellsF (q.fs.eraseIdx m))) (h3 : W.grownBy w2 q.vf.ownBlock) (h4 : v1.ownBlock = q.vf.ownBlock) :
    (w2.cell? ⟨gk, j * 3 + 2, none⟩ = some q.vf ∧ w2.frozen? ⟨gk, j * 3 + 2, none⟩ = false) ∧ OSc (w2.setCell ⟨gk, j * 3 + 2, none⟩ v1) base p (L.set j ⟨q.nm, q.of, q.fs.eraseIdx m, q.vo, v1⟩) B ∧ (w2.setCell ⟨gk, j * 3 + 2, none⟩ v1).heap[p]? = some (.cells #[.slice (some ⟨gk, 0, none⟩) L.length cp, vb] 46 (0, 0)) ∧ (w2.setCell ⟨gk, j * 3 + 2, none⟩ v1).heap[F]? = some (.cells fc 28 (0, 0)) ∧ (w2.setCell ⟨gk, j * 3 + 2, none⟩ v1).heap[b0]? = some (.cells cs 38 (0, 0)) ∧ Below base w (w2.setCell ⟨gk, j * 3 + 2, none⟩ v1) := by
  obtain ⟨r1, r2, r3⟩ := osc_setF hp hX hK hA hT hbase hq h3 h2 (.inl h4)
  have hFq := (hK.2 q (List.mem_of_getElem? hq)).2
  obtain ⟨cur, hgk⟩ : ∃ cur, W.heap[gk]? = some (.cells cur 32 (0, 0)) := by
    rcases hK.1.2 with ⟨h0, _⟩ | ⟨g', cap', cur, h0, _, hg', _⟩
    · cases h0
    · injection h0 with e1
      injection e1 with e1
      injection e1 with e1
      subst e1
      exact ⟨cur, hg'⟩
  have ne : ∀ (b : Nat) (ds : Array Value) (t : TypeId), W.heap[b]? = some (.cells ds t (0, 0)) → t ≠ 32 → b ≠ gk := fun b ds t hb ht e => by
    rw [e, hgk] at hb
    injection hb with e3
    injection e3 with _ e4
    exact ht e4.symm
  have k1 : ∀ t : TypeId, t ≠ 28 → Kt t W w2 := fun t n1 => Kt.of_own hFq (Ne.symm n1) h3
  refine ⟨r1, r2, ?_, ?_, ?_, hB.trans r3⟩
  · exact (heap_setCell_other w2 ⟨gk, j * 3 + 2, none⟩ p v1 (ne p _ 46 hX (by decide))).trans ((k1 46 (by decide)).2 p _ hX)
  · exact (heap_setCell_other w2 ⟨gk, j * 3 + 2, none⟩ F v1 (ne F _ 28 hF (by decide))).trans ((h3.block F (Array.getElem?_eq_some_iff.1 hF).1 (fun e => hFn F e.symm rfl)).trans hF)
  · exact (heap_setCell_other w2 ⟨gk, j * 3 + 2, none⟩ b0 v1 (ne b0 _ 38 hc (by decide))).trans ((k1 38 (by decide)).2 b0 _ hc)
set_option maxHeartbeats 8000000 in
set_option maxRecDepth 100000 in
theorem renameField_ok {w : World} {base p : Nat} {L : List Kd} {B : List Bd} (h : OSc w base p L B) (hbase : base ≤ w.heap.size) (hn : L.length ≤ 12) (hG : Good L) (c : Ch) (hc : ChIs w c) (hz : c.tn.length ≤ maxLen) (hx : e4 L c.nm c.fd.nm = 0) (hne : nErr c.tn = 0) (hh : fnd c.tn (fdsAt L c.nm) = false) :
    Calls Tryz.prog 76 #[.pointer (some ⟨p, 0, none⟩), c.one] w fun e w' => e = .returned (errV 0) ∧ (∃ M, OSc w' base p M B ∧ M.map kq3 = (setFs L c.nm (rnF (fdsAt L c.nm) c.fd.nm c.tn)).map kq3) ∧ Below base w w' := by
  obtain ⟨wh, nm, ⟨kn, ko, kf, vo, vf⟩, ⟨bn, bf, bt, mn, mx⟩, ⟨fn, ft, fm, fk⟩, vt, vn, vs, tn⟩ := c
  obtain ⟨ao, lo1, co, q1⟩ := hc.1.sl
  obtain ⟨af, lf1, cf, q2⟩ := hc.2.sl
  simp only at q1 q2 hz hx hne hh ⊢
  subst q1 q2
  obtain ⟨W0, hW0⟩ : ∃ W0, W0 = w.alloc (.cells #[.int .i64 wh, .string (bs nm), .string (bs kn), .slice ao lo1 co, .slice af lf1 cf, .string (bs bn), .string (bs bf), .string (bs bt), .int .i64 mn, .int .i64 mx, .string (bs fn), .int .i64 ft, .bool fm, .bool fk, .int .i64 vt, .int .i64 vn, .string (bs vs), .string (bs tn)] 38) := ⟨_, rfl⟩
  have hB0 : Below w.heap.size w W0 := by rw [hW0]; exact b_alloc (Below.refl _ _) _
  have n0 := heap_alloc_new w (.cells #[.int .i64 wh, .string (bs nm), .string (bs kn), .slice ao lo1 co, .slice af lf1 cf, .string (bs bn), .string (bs bf), .string (bs bt), .int .i64 mn, .int .i64 mx, .string (bs fn), .int .i64 ft, .bool fm, .bool fk, .int .i64 vt, .int .i64 vn, .string (bs vs), .string (bs tn)] 38)
  rw [← hW0] at n0
  have hi : ¬ idxK nm L 0 = -1 := fun e => by unfold e4 at hx; rw [if_pos e] at hx; exact absurd hx (by decide)
  obtain ⟨j, q, hj, hat, hq, _⟩ := nmAt_has hi
  have hf : fnd fn q.fs = true := by
    unfold e4 at hx
    rw [if_neg hi, fdsAt_eq hat hq] at hx
    cases hb : fnd fn q.fs
    · rw [hb] at hx; exact absurd hx (by decide)
    · rfl
  have hjl := (List.getElem?_eq_some_iff.1 hq).1
  obtain ⟨vk, vb, hp, hX, hK, hA, hT⟩ := h.on hB0
  obtain ⟨gk, cp, rfl⟩ := hK.at (Nat.lt_of_le_of_lt (Nat.zero_le _) hjl)
  have cow := ownField_some (B := B) hp hX hK hn hG ⟨wh, nm, ⟨kn, ko, kf, .slice ao lo1 co, .slice af lf1 cf⟩, ⟨bn, bf, bt, mn, mx⟩, ⟨fn, ft, fm, fk⟩, vt, vn, vs, tn⟩ (hc.on hB0) hj hq
  simp only [hf] at cow
  have cow : Calls Tryz.prog 113 #[.pointer (some ⟨p, 0, none⟩), (⟨wh, nm, ⟨kn, ko, kf, .slice ao lo1 co, .slice af lf1 cf⟩, ⟨bn, bf, bt, mn, mx⟩, ⟨fn, ft, fm, fk⟩, vt, vn, vs, tn⟩ : Ch).one] W0 fun e w' => e = .returned (.tuple #[.pointer (some ⟨gk, j * 3, none⟩), .int .i64 (lo fn q.fs), .nilIface]) ∧ Below W0.heap.size W0 w' := cow
  dsimp only [Ch.one] at cow
  have hml := fnd_lt hf
  have hs := hG.srt q (List.mem_of_getElem? hq)
  have hFq := (hK.2 q (List.mem_of_getElem? hq)).2
  have hwl : w.heap.size < W0.heap.size := by rw [hW0]; simp
  have hpl : p < W0.heap.size := (Array.getElem?_eq_some_iff.1 hX).1
  have HCn : Hid (∀ W, Calls Tryz.prog 7 #[.string (bs tn)] W fun e w' => e = .returned (errV (nErr tn)) ∧ w' = W) := fun W => by
    have := name_any (bs tn) W (by rw [bs_size]; exact hz)
    simp only [bs_data] at this
    exact this
  have HX : Hid (∀ W, Below W0.heap.size W0 W → W.cell? ⟨gk, j * 3 + 2, none⟩ = some q.vf ∧ W.cell? ⟨w.heap.size, 17, none⟩ = some (.string (bs tn))) := fun W hb => by
    have nn := (hb.block _ hwl).trans n0
    exact ⟨(hK.kt (.of_below hb) (.of_below hb) (.of_below hb)).cell2 hq, cell_at nn rfl⟩
  rw [fdsAt_eq hat hq] at hh ⊢
  have HCb : Hid (∀ W, Calls Tryz.prog 7 #[.string (bs tn)] W fun e w' => e = .returned .nilIface ∧ w' = W) := fun W => by have := HCn.out W; rw [hne, errV_0] at this; exact this
  obtain ⟨gf, cq, eq1⟩ : ∃ gf cq, q.vf = .slice (some ⟨gf, 0, none⟩) q.fs.length cq := by
    rcases hFq.2 with ⟨e0, h0⟩ | ⟨g, cap, cur, e0, _⟩
    · omega
    · exact ⟨g, cap, e0⟩
  obtain ⟨f0, hf0⟩ : ∃ f0, q.fs[lo fn q.fs]? = some f0 := ⟨q.fs[lo fn q.fs], by simp [hml]⟩
  have hrn : rnF q.fs fn tn = insA (q.fs.eraseIdx (lo fn q.fs)) { f0 with nm := tn } := by unfold rnF; rw [hf0]
  rw [hrn]
  have HCf : Hid (∀ W, Below W0.heap.size W0 W → Calls Tryz.prog 110 #[.slice (some ⟨gf, 0, none⟩) q.fs.length cq, .string (bs tn)] W fun e w' => e = .returned (.tuple #[.int .i64 (lo tn q.fs), .bool false]) ∧ Below W.heap.size W w') := fun W hb => by
    have := findField_any ((own_isF hFq).on hb) hs.1 (by omega) tn
    rw [eq1, hh] at this
    exact this
  have HY : Hid (∀ W, Below W0.heap.size W0 W → W.cell? ⟨gf, lo fn q.fs * 4, none⟩ = some (.string (bs f0.nm)) ∧ W.cell? ⟨gf, lo fn q.fs * 4 + 1, none⟩ = some (.int .i64 f0.t) ∧ W.cell? ⟨gf, lo fn q.fs * 4 + 2, none⟩ = some (.bool f0.must) ∧ W.cell? ⟨gf, lo fn q.fs * 4 + 3, none⟩ = some (.bool f0.key)) := fun W hb => by
    have hw := own_kt hFq (Kt.of_below (t := 28) hb)
    rw [eq1] at hw
    have cl : ∀ i u, i < 4 → f0.cells[i]? = some u → W.cell? ⟨gf, lo fn q.fs * 4 + i, none⟩ = some u := fun i u hi hu => by
      have := World.ownsRow.cells hw (g := gf) rfl (lo fn q.fs * 4 + i) u ((flatK fd_len q.fs _ f0 i hf0 hi).trans hu)
      rw [Addr.add_lit, Nat.zero_add] at this
      exact this
    exact ⟨cl 0 _ (by omega) rfl, cl 1 _ (by omega) rfl, cl 2 _ (by omega) rfl, cl 3 _ (by omega) rfl⟩
  rw [eq1] at HX
  have hm8 : lo fn q.fs < q.fs.length := hml
  have HH : Hid (base ≤ p ∧ W0.heap[p]? = some (.cells #[.slice (some ⟨gk, 0, none⟩) L.length cp, vb] 46 (0, 0)) ∧ OwnKs W0 base (.slice (some ⟨gk, 0, none⟩) L.length cp) L ∧ Apt L ∧ OwnBs W0 base vb B ∧ L[j]? = some q ∧ q.vf = .slice (some ⟨gf, 0, none⟩) q.fs.length cq ∧ nmAt L nm = j ∧ Srt q.fs ∧ Below w.heap.size w W0 ∧ W0.heap[w.heap.size]? = some (.cells #[.int .i64 wh, .string (bs nm), .string (bs kn), .slice ao lo1 co, .slice af lf1 cf, .string (bs bn), .string (bs bf), .string (bs bt), .int .i64 mn, .int .i64 mx, .string (bs fn), .int .i64 ft, .bool fm, .bool fk, .int .i64 vt, .int .i64 vn, .string (bs vs), .string (bs tn)] 38 (0, 0))) := ⟨hp, hX, hK, hA, hT, hq, eq1, hat, hs.1, hB0, n0⟩
  have h8 := hs.2
  have hgfl : gf < W0.heap.size := (hFq.lt gf (by rw [eq1]; rfl)).2
  have hgkl : gk < W0.heap.size := (hK.1.lt gk rfl).2
  generalize lo tn q.fs = m2 at *
  have HN := Lib.hid n0
  clear hX hK hA hT hFq h hx n0 hB0 hG hj hat hq hf hi hml hs hp HCn hne hh eq1 hf0 hrn
  go_enter Tryz.func76, Tryz.ntmps76
  go_upto_region 1 with fail
  rw [← hW0]
  clear hW0
  go_wp2_with (first | (refine wpList_load_row rfl 38 (.tmp 3) rfl w.heap.size rfl 38 _ (0, 0) _ HN.out Tryz.underlying38 rfl info37 ?_) | (go_at_call 113; refine cow.mono ?_; rintro e w1 ⟨rfl, hB1⟩; obtain ⟨g0, g1⟩ := HX.out w1 hB1) | (go_at_call 7; refine (HCb.out _).mono ?_; rintro e w2 ⟨rfl, rfl⟩))
  go_cut [9, 10] (fun s t wx => s = .int .i64 (m2 : Int) ∧ t = .bool false ∧ Below W0.heap.size W0 wx)
  case first =>
    go_region_with (go_at_call 110; refine (HCf.out _ (b_drewK hB1 1)).mono ?_; rintro e W2 ⟨rfl, hB2⟩)
    all_goals go_wp2
    all_goals go_meet
    all_goals exact ⟨rfl, rfl, on1K (b_drewK hB1 1) hB2 (Nat.le_refl _)⟩
  case rest =>
    obtain ⟨rfl, rfl, hB3⟩ := hcut
    clear g0 g1 HCf hB1
    obtain ⟨g0, g1⟩ := HX.out _ hB3
    obtain ⟨y0, y1, y2, y3⟩ := HY.out _ hB3
    have hmi : ((lo fn q.fs : Nat) : Int) < (q.fs.length : Int) := by omega
    have hz1 : w.heap.size < wc.heap.size := Nat.lt_of_lt_of_le hwl hB3.size
    have hz2 : ¬ w.heap.size = wc.heap.size := by omega
    have hz3 : gk < wc.heap.size := Nat.lt_of_lt_of_le hgkl hB3.size
    have hz4 : ¬ gk = wc.heap.size := by omega
    have hz5 : gf < wc.heap.size := Nat.lt_of_lt_of_le hgfl hB3.size
    have hz6 : ¬ gf = wc.heap.size := by omega
    have da0 : ∀ o, (wc.alloc o).cell? ⟨gk, j * 3 + 2, none⟩ = some (.slice (some ⟨gf, 0, none⟩) q.fs.length cq) := fun o => ((b_alloc (Below.refl _ wc) o).cell (p := ⟨gk, j * 3 + 2, none⟩) hz3).trans g0
    have da1 : ∀ o, (wc.alloc o).cell? ⟨w.heap.size, 17, none⟩ = some (.string (bs tn)) := fun o => ((b_alloc (Below.refl _ wc) o).cell (p := ⟨w.heap.size, 17, none⟩) hz1).trans g1
    go_upto_region 12 with fail
    obtain ⟨W1, hW1⟩ : ∃ W1, W1 = wc.alloc (.cells #[.string (bs tn), .int .i64 f0.t, .bool f0.must, .bool f0.key] 28) := ⟨_, rfl⟩
    rw [← hW1]
    have hB4 : Below W0.heap.size W0 W1 := by rw [hW1]; exact on1K hB3 (b_alloc (Below.refl _ _) _) (Nat.le_refl _)
    have nF : W1.heap[wc.heap.size]? = some (.cells #[.string (bs tn), .int .i64 f0.t, .bool f0.must, .bool f0.key] 28 (0, 0)) := by rw [hW1]; exact heap_alloc_new wc _
    have c0 := da0 (.cells #[.string (bs tn), .int .i64 f0.t, .bool f0.must, .bool f0.key] 28)
    rw [← hW1] at c0
    clear hW1
    have hw1 : IntKind.i64.wrap ((lo fn q.fs : Int) + 1) = (lo fn q.fs : Int) + 1 := by rw [IntKind.wrap_i64]; omega
    have hm88 : lo fn q.fs < 8 := by omega
    obtain ⟨hp, hX, hK, hA, hT, hq, eq1, hat, hs, hB0, n0⟩ := HH.out
    have hK4 := hK.kt (.of_below hB4) (.of_below hB4) (.of_below hB4)
    have hFw := (hK4.2 q (List.mem_of_getElem? hq)).2
    have hbw := on1K hB0 hB4 (Nat.le_refl _)
    have cd := deleteF_any hFw (fd_one q.fs) (by omega) (lo fn q.fs) hm8
    rw [eq1] at cd
    have hgFn : ∀ g, q.vf.ownBlock = some g → g ≠ wc.heap.size := fun g hg e => by
      rw [eq1] at hg
      have hg' : gf = g := by simpa [Value.ownBlock] using hg
      omega
    have HM : Hid (∀ w2 v1, w2.ownsRow base 28 4 v1 (q.fs.eraseIdx (lo fn q.fs)).length (cellsF (q.fs.eraseIdx (lo fn q.fs))) → W1.grownBy w2 (Value.slice (some ⟨gf, 0, none⟩) q.fs.length cq).ownBlock → v1.ownBlock = (Value.slice (some ⟨gf, 0, none⟩) q.fs.length cq).ownBlock → (w2.cell? ⟨gk, j * 3 + 2, none⟩ = some (.slice (some ⟨gf, 0, none⟩) q.fs.length cq) ∧ w2.frozen? ⟨gk, j * 3 + 2, none⟩ = false) ∧ OSc (w2.setCell ⟨gk, j * 3 + 2, none⟩ v1) base p (L.set j ⟨q.nm, q.of, q.fs.eraseIdx (lo fn q.fs), q.vo, v1⟩) B ∧ (w2.setCell ⟨gk, j * 3 + 2, none⟩ v1).heap[p]? = some (.cells #[.slice (some ⟨gk, 0, none⟩) L.length cp, vb] 46 (0, 0)) ∧ (w2.setCell ⟨gk, j * 3 + 2, none⟩ v1).heap[wc.heap.size]? = some (.cells #[.string (bs tn), .int .i64 f0.t, .bool f0.must, .bool f0.key] 28 (0, 0)) ∧ (w2.setCell ⟨gk, j * 3 + 2, none⟩ v1).heap[w.heap.size]? = some (.cells #[.int .i64 wh, .string (bs nm), .string (bs kn), .slice ao lo1 co, .slice af lf1 cf, .string (bs bn), .string (bs bf), .string (bs bt), .int .i64 mn, .int .i64 mx, .string (bs fn), .int .i64 ft, .bool fm, .bool fk, .int .i64 vt, .int .i64 vn, .string (bs vs), .string (bs tn)] 38 (0, 0)) ∧ Below base w (w2.setCell ⟨gk, j * 3 + 2, none⟩ v1)) := fun w2 v1 h2 h3 h4 => by
      have := rn_mid (w := w) (m := lo fn q.fs) (v1 := v1) hp ((hB4.block p hpl).trans hX) hK4 hA (own_kt hT (.of_below hB4)) (Nat.le_trans hbase hbw.size) hq nF hgFn ((hB4.block _ hwl).trans n0) (hbw.mono hbase) h2 (by rw [eq1]; exact h3) (by rw [eq1]; exact h4)
      rw [eq1] at this
      exact this
    clear hgFn hX hK hA hT hK4 hFw hbw nF hB0 n0 hs hp da0 da1 g0 g1 y0 y1 y2 y3 HX HY hB4 hat
    have HQ := Lib.hid hq
    clear hq eq1
    go_wp2_with (go_at_call 114; refine cd.mono ?_; rintro e w2 ⟨v1, rfl, ho2, hg2, hv2⟩; obtain ⟨⟨z0, z1⟩, z2⟩ := HM.out w2 v1 ho2 hg2 hv2; have HO2 := Lib.hid ho2; obtain ⟨a2, c2, rfl⟩ := own_slice ho2; have HZ := Lib.hid z2; clear z2 ho2 hg2 hv2)
    obtain ⟨W3, hW3⟩ : ∃ W3, W3 = w2.setCell ⟨gk, j * 3 + 2, none⟩ (.slice a2 (q.fs.eraseIdx (lo fn q.fs)).length c2) := ⟨_, rfl⟩
    rw [← hW3] at HZ
    rw [← hW3]
    clear hW3
    obtain ⟨fs1, hfs1⟩ : ∃ fs1, fs1 = q.fs.eraseIdx (lo fn q.fs) := ⟨_, rfl⟩
    rw [← hfs1] at HZ ⊢
    obtain ⟨M1, hM1⟩ : ∃ M1, M1 = L.set j ⟨q.nm, q.of, fs1, q.vo, .slice a2 fs1.length c2⟩ := ⟨_, rfl⟩
    rw [← hM1] at HZ
    have hq := HQ.out
    have hjl2 := (List.getElem?_eq_some_iff.1 hq).1
    have hk1 : M1[j]? = some ⟨q.nm, q.of, fs1, q.vo, .slice a2 fs1.length c2⟩ := by rw [hM1]; simp [hjl2]
    have hl1 : M1.length = L.length := by rw [hM1]; exact List.length_set ..
    obtain ⟨o1, x1, x2, x3, x4⟩ := HZ.out
    obtain ⟨hK3, hA3, hT3⟩ := o1.open x1
    rw [← hl1] at x1 hK3
    have hp := HH.out.1
    have hfl : fs1.length ≤ 8 := by rw [hfs1]; exact Nat.le_trans (List.length_eraseIdx_le ..) h8
    have hs1 : Srt fs1 := by rw [hfs1]; exact srt_erase HH.out.2.2.2.2.2.2.2.2.1 _
    have hbz : w.heap.size < W3.heap.size := (Array.getElem?_eq_some_iff.1 x3).1
    have hFz : wc.heap.size < W3.heap.size := (Array.getElem?_eq_some_iff.1 x2).1
    have hgz : gk < W3.heap.size := (hK3.1.lt gk rfl).2
    have e0 : W3.cell? ⟨gk, j * 3 + 2, none⟩ = some (.slice a2 fs1.length c2) := hK3.cell2 hk1
    have e1 : W3.cell? ⟨w.heap.size, 17, none⟩ = some (.string (bs tn)) := cell_at x3 rfl
    have HCg : Hid (∀ W, Below W3.heap.size W3 W → Calls Tryz.prog 110 #[.slice a2 fs1.length c2, .string (bs tn)] W fun e w' => e = .returned (.tuple #[.int .i64 (lo tn fs1), .bool (fnd tn fs1)]) ∧ Below W.heap.size W w') := fun W hb => by
      have := findField_any ((own_isF (hK3.2 _ (List.mem_of_getElem? hk1)).2).on hb) hs1 (by simp only; omega) tn
      exact this
    have HI : Hid (∀ W, Below W3.heap.size W3 W → Calls Tryz.prog 112 #[.slice a2 fs1.length c2, .int .i64 (lo tn fs1), .slice (some ⟨W.heap.size, 0, none⟩) 1 1] (W.alloc (.cells #[.string (bs tn), .int .i64 f0.t, .bool f0.must, .bool f0.key] 28)) fun e w' => ∃ v', e = .returned v' ∧ w'.ownsRow base 28 4 v' (insA fs1 ⟨tn, f0.t, f0.must, f0.key⟩).length (cellsF (insA fs1 ⟨tn, f0.t, f0.must, f0.key⟩)) ∧ (w'.cell? ⟨gk, j * 3 + 2, none⟩ = some (.slice a2 fs1.length c2) ∧ w'.frozen? ⟨gk, j * 3 + 2, none⟩ = false) ∧ OSc (w'.setCell ⟨gk, j * 3 + 2, none⟩ v') base p (M1.set j ⟨q.nm, q.of, insA fs1 ⟨tn, f0.t, f0.must, f0.key⟩, q.vo, v'⟩) B ∧ Below base w (w'.setCell ⟨gk, j * 3 + 2, none⟩ v')) := fun W hb => by
      have hba := on1K hb (b_alloc (Below.refl _ W) (.cells #[.string (bs tn), .int .i64 f0.t, .bool f0.must, .bool f0.key] 28)) (Nat.le_refl _)
      have hkw := hK3.kt (.of_below hba) (.of_below hba) (.of_below hba)
      have hFw := (hkw.2 _ (List.mem_of_getElem? hk1)).2
      have hbs : base ≤ W3.heap.size := Nat.le_trans hp (Nat.le_of_lt (Array.getElem?_eq_some_iff.1 x1).1)
      have ci := insertM_any hFw (lo tn fs1) (lo_le _ _) W.heap.size ⟨tn, f0.t, f0.must, f0.key⟩ (heap_alloc_new W _) (fun e => by
        have := (((hK3.kt (.of_below hb) (.of_below hb) (.of_below hb)).2 _ (List.mem_of_getElem? hk1)).2.lt _ e).2
        omega) (Nat.le_trans hbs hba.size) (by simp only; omega)
      refine ci.mono ?_
      rintro e w' ⟨v', rfl, h2, h3, h4⟩
      obtain ⟨r1, r2, r3⟩ := osc_setF hp ((hba.block p (Array.getElem?_eq_some_iff.1 x1).1).trans x1) hkw hA3 (own_kt hT3 (.of_below hba)) (Nat.le_trans hbs hba.size) hk1 h3 h2 h4
      exact ⟨v', rfl, h2, r1, r2, x4.trans ((hba.mono hbs).trans r3)⟩
    have HE : Hid (∀ v', (M1.set j ⟨q.nm, q.of, insA fs1 ⟨tn, f0.t, f0.must, f0.key⟩, q.vo, v'⟩).map kq3 = (setFs L nm (insA (q.fs.eraseIdx (lo fn q.fs)) ⟨tn, f0.t, f0.must, f0.key⟩)).map kq3) := fun v' => by
      rw [← hfs1, hM1, List.set_set]
      exact setFs_kq HH.out.2.2.2.2.2.2.2.1 hq _ v'
    have HX3 : Hid (∀ W, Below W3.heap.size W3 W → W.cell? ⟨gk, j * 3 + 2, none⟩ = some (.slice a2 fs1.length c2) ∧ (∀ o, (W.alloc o).cell? ⟨gk, j * 3 + 2, none⟩ = some (.slice a2 fs1.length c2)) ∧ W.cell? ⟨wc.heap.size, 0, none⟩ = some (.string (bs tn)) ∧ W.cell? ⟨wc.heap.size, 1, none⟩ = some (.int .i64 f0.t) ∧ W.cell? ⟨wc.heap.size, 2, none⟩ = some (.bool f0.must) ∧ W.cell? ⟨wc.heap.size, 3, none⟩ = some (.bool f0.key)) := fun W hb => by
      have nn := (hb.block _ hFz).trans x2
      exact ⟨(hb.cell (p := ⟨gk, j * 3 + 2, none⟩) hgz).trans e0, fun o => ((on1K hb (b_alloc (Below.refl _ W) o) (Nat.le_refl _)).cell (p := ⟨gk, j * 3 + 2, none⟩) hgz).trans e0, cell_at nn rfl, cell_at nn rfl, cell_at nn rfl, cell_at nn rfl⟩
    have hlo3 : lo tn fs1 ≤ 8 := Nat.le_trans (lo_le _ _) hfl
    generalize insA fs1 ⟨tn, f0.t, f0.must, f0.key⟩ = G at *
    generalize lo tn fs1 = m3 at *
    generalize fnd tn fs1 = r3 at *
    have hgwc : ¬ wc.heap.size = gk := by omega
    clear HZ HQ HH HM HO2 z0 z1 hfs1 hM1 hq hk1 hl1 o1 x1 x2 x3 x4 hK3 hA3 hT3 hs1 hp cd c0
    go_upto_region 13 with fail
    go_cut [12, 13] (fun s t wx => s = .int .i64 (m3 : Int) ∧ t = .bool r3 ∧ Below W3.heap.size W3 wx)
    case first =>
      go_region_with (go_at_call 110; refine (HCg.out _ (b_drewK (Below.refl _ _) 1)).mono ?_; rintro e W2 ⟨rfl, hB2⟩)
      all_goals go_wp2
      all_goals go_meet
      all_goals exact ⟨rfl, rfl, on1K (b_drewK (Below.refl _ _) 1) hB2 (Nat.le_refl _)⟩
    case rest =>
      rename World => W6
      obtain ⟨rfl, rfl, hB6⟩ := hcut
      obtain ⟨i0, i1, i2, i3, i4, i5⟩ := HX3.out _ hB6
      have hgz6 : ¬ gk = W6.heap.size := by have := hB6.size; omega
      have hfz6 : ¬ wc.heap.size = W6.heap.size := by have := hB6.size; omega
      go_wp2
      go_region_law (go_simp; go_at_call 112; refine (HI.out W6.drew hB6.drew).mono ?_; rintro e w7 ⟨v7, rfl, ho7, ⟨z0, z1⟩, z2⟩; obtain ⟨a7, c7, rfl⟩ := own_slice ho7; have HZ := Lib.hid z2; clear z2 ho7)
      all_goals go_wp2
      all_goals go_ret
      all_goals exact ⟨rfl, ⟨_, HZ.out.1, HE.out _⟩, HZ.out.2⟩
end Go.Proofs.YtpmblbhemcippaaGreatDoor
