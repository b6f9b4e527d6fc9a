/-
  The walk of change.renameField.
-/
import Derived.Test.YtkmkhadacppdnaaDoorChI
namespace Go.Proofs.YtkmkhadacppdnaaDoor
open Go.RowKit
set_option linter.unusedVariables false
set_option linter.unusedSimpArgs false

set_option maxHeartbeats 4000000 in
set_option maxRecDepth 100000 in
theorem renameField_no {w : World} {base p : Nat} {L : List Kd} {B : List Bd} (h : OSc w base p L B) (hn : L.length ≤ 12) (hG : Good L) (c : Ch) (hc : ChIs w c) (hx : e4 L c.nm c.fd.nm = 5) :
    Calls Tryd.prog 29 #[.pointer (some ⟨p, 0, none⟩), c.one] w fun e w' => e = .returned (errV 5) ∧ Below w.heap.size w w' := by
  obtain ⟨wh, nm, ⟨kn, ko, kf, vo, vf⟩, ⟨bn, bf, bt, mn, mx⟩, ⟨fn, ft, fm, fk⟩, vt, vn, vs, tn⟩ := c
  obtain ⟨ao, lo1, co, q1⟩ := hc.1.sl
  obtain ⟨af, lf1, cf, q2⟩ := hc.2.sl
  simp only at q1 q2 hx ⊢
  subst q1 q2
  obtain ⟨W0, hW0⟩ : ∃ W0, W0 = w.alloc (.cells #[.int .i64 wh, .string (bs nm), .string (bs kn), .slice ao lo1 co, .slice af lf1 cf, .string (bs bn), .string (bs bf), .string (bs bt), .int .i64 mn, .int .i64 mx, .string (bs fn), .int .i64 ft, .bool fm, .bool fk, .int .i64 vt, .int .i64 vn, .string (bs vs), .string (bs tn)] 42) := ⟨_, rfl⟩
  have hB0 : Below w.heap.size w W0 := by rw [hW0]; exact b_alloc (Below.refl _ _) _
  have n0 := heap_alloc_new w (.cells #[.int .i64 wh, .string (bs nm), .string (bs kn), .slice ao lo1 co, .slice af lf1 cf, .string (bs bn), .string (bs bf), .string (bs bt), .int .i64 mn, .int .i64 mx, .string (bs fn), .int .i64 ft, .bool fm, .bool fk, .int .i64 vt, .int .i64 vn, .string (bs vs), .string (bs tn)] 42)
  rw [← hW0] at n0
  have cow : Calls Tryd.prog 54 #[.pointer (some ⟨p, 0, none⟩), (⟨wh, nm, ⟨kn, ko, kf, .slice ao lo1 co, .slice af lf1 cf⟩, ⟨bn, bf, bt, mn, mx⟩, ⟨fn, ft, fm, fk⟩, vt, vn, vs, tn⟩ : Ch).one] W0 fun e w' => e = .returned (.tuple #[.pointer none, .int .i64 0, .iface 48 (.int .i64 5)]) ∧ Below W0.heap.size W0 w' := by
    by_cases hi : idxK nm L 0 = -1
    · exact ownField_none (h.on hB0) hn _ (hc.on hB0) hi
    · obtain ⟨j, q, hj, hat, hq, _⟩ := nmAt_has hi
      have hf : fnd fn q.fs = false := by
        unfold e4 at hx
        rw [if_neg hi, fdsAt_eq hat hq] at hx
        cases hb : fnd fn q.fs
        · rfl
        · rw [hb] at hx; exact absurd hx (by decide)
      obtain ⟨vk, vb, hp, hX, hK, hA, hT⟩ := h.on hB0
      obtain ⟨gk, cp, rfl⟩ := hK.at (Nat.lt_of_le_of_lt (Nat.zero_le _) (List.getElem?_eq_some_iff.1 hq).1)
      have := ownField_some (B := B) hp hX hK hn hG ⟨wh, nm, ⟨kn, ko, kf, .slice ao lo1 co, .slice af lf1 cf⟩, ⟨bn, bf, bt, mn, mx⟩, ⟨fn, ft, fm, fk⟩, vt, vn, vs, tn⟩ (hc.on hB0) hj hq
      simp only [hf] at this
      exact this
  dsimp only [Ch.one] at cow
  have HB0 := Lib.hid hB0
  have HN := Lib.hid n0
  clear h hx n0 hB0 hG
  go_enter Tryd.func29, Tryd.ntmps29
  go_upto_region 1 with fail
  rw [← hW0]
  clear hW0
  go_wp2_with (first | (refine wpList_load_row rfl 42 (.tmp 3) rfl w.heap.size rfl 42 _ (0, 0) _ HN.out Tryd.underlying42 rfl info37 ?_) | (go_at_call 54; refine cow.mono ?_; rintro e w1 ⟨rfl, hB1⟩))
  go_ret
  exact ⟨rfl, on1K HB0.out hB1 (Nat.le_refl _)⟩
set_option maxHeartbeats 8000000 in
set_option maxRecDepth 100000 in
theorem renameField_bad {w : World} {base p : Nat} {L : List Kd} {B : List Bd} (h : OSc w base p L B) (hn : L.length ≤ 12) (hG : Good L) (c : Ch) (hc : ChIs w c) (hz : c.tn.length ≤ maxLen) (hx : e4 L c.nm c.fd.nm = 0) (hne : ¬ nErr c.tn = 0) :
    Calls Tryd.prog 29 #[.pointer (some ⟨p, 0, none⟩), c.one] w fun e w' => e = .returned (errV (nErr c.tn)) ∧ Below w.heap.size w w' := by
  obtain ⟨wh, nm, ⟨kn, ko, kf, vo, vf⟩, ⟨bn, bf, bt, mn, mx⟩, ⟨fn, ft, fm, fk⟩, vt, vn, vs, tn⟩ := c
  obtain ⟨ao, lo1, co, q1⟩ := hc.1.sl
  obtain ⟨af, lf1, cf, q2⟩ := hc.2.sl
  simp only at q1 q2 hz hx hne ⊢
  subst q1 q2
  obtain ⟨W0, hW0⟩ : ∃ W0, W0 = w.alloc (.cells #[.int .i64 wh, .string (bs nm), .string (bs kn), .slice ao lo1 co, .slice af lf1 cf, .string (bs bn), .string (bs bf), .string (bs bt), .int .i64 mn, .int .i64 mx, .string (bs fn), .int .i64 ft, .bool fm, .bool fk, .int .i64 vt, .int .i64 vn, .string (bs vs), .string (bs tn)] 42) := ⟨_, rfl⟩
  have hB0 : Below w.heap.size w W0 := by rw [hW0]; exact b_alloc (Below.refl _ _) _
  have n0 := heap_alloc_new w (.cells #[.int .i64 wh, .string (bs nm), .string (bs kn), .slice ao lo1 co, .slice af lf1 cf, .string (bs bn), .string (bs bf), .string (bs bt), .int .i64 mn, .int .i64 mx, .string (bs fn), .int .i64 ft, .bool fm, .bool fk, .int .i64 vt, .int .i64 vn, .string (bs vs), .string (bs tn)] 42)
  rw [← hW0] at n0
  have hi : ¬ idxK nm L 0 = -1 := fun e => by unfold e4 at hx; rw [if_pos e] at hx; exact absurd hx (by decide)
  obtain ⟨j, q, hj, hat, hq, _⟩ := nmAt_has hi
  have hf : fnd fn q.fs = true := by
    unfold e4 at hx
    rw [if_neg hi, fdsAt_eq hat hq] at hx
    cases hb : fnd fn q.fs
    · rw [hb] at hx; exact absurd hx (by decide)
    · rfl
  have hjl := (List.getElem?_eq_some_iff.1 hq).1
  obtain ⟨vk, vb, hp, hX, hK, hA, hT⟩ := h.on hB0
  obtain ⟨gk, cp, rfl⟩ := hK.at (Nat.lt_of_le_of_lt (Nat.zero_le _) hjl)
  have cow := ownField_some (B := B) hp hX hK hn hG ⟨wh, nm, ⟨kn, ko, kf, .slice ao lo1 co, .slice af lf1 cf⟩, ⟨bn, bf, bt, mn, mx⟩, ⟨fn, ft, fm, fk⟩, vt, vn, vs, tn⟩ (hc.on hB0) hj hq
  simp only [hf] at cow
  have cow : Calls Tryd.prog 54 #[.pointer (some ⟨p, 0, none⟩), (⟨wh, nm, ⟨kn, ko, kf, .slice ao lo1 co, .slice af lf1 cf⟩, ⟨bn, bf, bt, mn, mx⟩, ⟨fn, ft, fm, fk⟩, vt, vn, vs, tn⟩ : Ch).one] W0 fun e w' => e = .returned (.tuple #[.pointer (some ⟨gk, j * 3, none⟩), .int .i64 (lo fn q.fs), .nilIface]) ∧ Below W0.heap.size W0 w' := cow
  dsimp only [Ch.one] at cow
  have hml := fnd_lt hf
  have hs := hG.srt q (List.mem_of_getElem? hq)
  have hFq := (hK.2 q (List.mem_of_getElem? hq)).2
  have hwl : w.heap.size < W0.heap.size := by rw [hW0]; simp
  have hpl : p < W0.heap.size := (Array.getElem?_eq_some_iff.1 hX).1
  have HCn : Hid (∀ W, Calls Tryd.prog 21 #[.string (bs tn)] W fun e w' => e = .returned (errV (nErr tn)) ∧ w' = W) := fun W => by
    have := name_any (bs tn) W (by rw [bs_size]; exact hz)
    simp only [bs_data] at this
    exact this
  have HX : Hid (∀ W, Below W0.heap.size W0 W → W.cell? ⟨gk, j * 3 + 2, none⟩ = some q.vf ∧ W.cell? ⟨w.heap.size, 17, none⟩ = some (.string (bs tn))) := fun W hb => by
    have nn := (hb.block _ hwl).trans n0
    exact ⟨(hK.kt (.of_below hb) (.of_below hb) (.of_below hb)).cell2 hq, cell_at nn rfl⟩
  have HCb : Hid (∀ W, Calls Tryd.prog 21 #[.string (bs tn)] W fun e w' => e = .returned (.iface 48 (.int .i64 (nErr tn))) ∧ w' = W) := fun W => by have := HCn.out W; rw [errV_ne hne] at this; exact this
  rw [errV_ne hne]
  generalize nErr tn = r at *
  generalize lo fn q.fs = m at *
  have HN := Lib.hid n0
  have HB0 := Lib.hid hB0
  clear hX hK hA hT hFq h hx n0 hB0 hG hj hat hq hf hi hml hs hp HCn
  go_enter Tryd.func29, Tryd.ntmps29
  go_upto_region 1 with fail
  rw [← hW0]
  clear hW0
  go_wp2_with (first | (refine wpList_load_row rfl 42 (.tmp 3) rfl w.heap.size rfl 42 _ (0, 0) _ HN.out Tryd.underlying42 rfl info37 ?_) | (go_at_call 54; refine cow.mono ?_; rintro e w1 ⟨rfl, hB1⟩; obtain ⟨g0, g1⟩ := HX.out w1 hB1) | (go_at_call 21; refine (HCb.out _).mono ?_; rintro e w2 ⟨rfl, rfl⟩))
  go_ret
  exact ⟨rfl, on1K HB0.out hB1 (Nat.le_refl _)⟩
set_option maxHeartbeats 8000000 in
set_option maxRecDepth 100000 in
theorem renameField_has {w : World} {base p : Nat} {L : List Kd} {B : List Bd} (h : OSc w base p L B) (hn : L.length ≤ 12) (hG : Good L) (c : Ch) (hc : ChIs w c) (hz : c.tn.length ≤ maxLen) (hx : e4 L c.nm c.fd.nm = 0) (hne : nErr c.tn = 0) (hh : fnd c.tn (fdsAt L c.nm) = true) :
    Calls Tryd.prog 29 #[.pointer (some ⟨p, 0, none⟩), c.one] w fun e w' => e = .returned (errV 7) ∧ Below w.heap.size w w' := by
  obtain ⟨wh, nm, ⟨kn, ko, kf, vo, vf⟩, ⟨bn, bf, bt, mn, mx⟩, ⟨fn, ft, fm, fk⟩, vt, vn, vs, tn⟩ := c
  obtain ⟨ao, lo1, co, q1⟩ := hc.1.sl
  obtain ⟨af, lf1, cf, q2⟩ := hc.2.sl
  simp only at q1 q2 hz hx hne hh ⊢
  subst q1 q2
  obtain ⟨W0, hW0⟩ : ∃ W0, W0 = w.alloc (.cells #[.int .i64 wh, .string (bs nm), .string (bs kn), .slice ao lo1 co, .slice af lf1 cf, .string (bs bn), .string (bs bf), .string (bs bt), .int .i64 mn, .int .i64 mx, .string (bs fn), .int .i64 ft, .bool fm, .bool fk, .int .i64 vt, .int .i64 vn, .string (bs vs), .string (bs tn)] 42) := ⟨_, rfl⟩
  have hB0 : Below w.heap.size w W0 := by rw [hW0]; exact b_alloc (Below.refl _ _) _
  have n0 := heap_alloc_new w (.cells #[.int .i64 wh, .string (bs nm), .string (bs kn), .slice ao lo1 co, .slice af lf1 cf, .string (bs bn), .string (bs bf), .string (bs bt), .int .i64 mn, .int .i64 mx, .string (bs fn), .int .i64 ft, .bool fm, .bool fk, .int .i64 vt, .int .i64 vn, .string (bs vs), .string (bs tn)] 42)
  rw [← hW0] at n0
  have hi : ¬ idxK nm L 0 = -1 := fun e => by unfold e4 at hx; rw [if_pos e] at hx; exact absurd hx (by decide)
  obtain ⟨j, q, hj, hat, hq, _⟩ := nmAt_has hi
  have hf : fnd fn q.fs = true := by
    unfold e4 at hx
    rw [if_neg hi, fdsAt_eq hat hq] at hx
    cases hb : fnd fn q.fs
    · rw [hb] at hx; exact absurd hx (by decide)
    · rfl
  have hjl := (List.getElem?_eq_some_iff.1 hq).1
  obtain ⟨vk, vb, hp, hX, hK, hA, hT⟩ := h.on hB0
  obtain ⟨gk, cp, rfl⟩ := hK.at (Nat.lt_of_le_of_lt (Nat.zero_le _) hjl)
  have cow := ownField_some (B := B) hp hX hK hn hG ⟨wh, nm, ⟨kn, ko, kf, .slice ao lo1 co, .slice af lf1 cf⟩, ⟨bn, bf, bt, mn, mx⟩, ⟨fn, ft, fm, fk⟩, vt, vn, vs, tn⟩ (hc.on hB0) hj hq
  simp only [hf] at cow
  have cow : Calls Tryd.prog 54 #[.pointer (some ⟨p, 0, none⟩), (⟨wh, nm, ⟨kn, ko, kf, .slice ao lo1 co, .slice af lf1 cf⟩, ⟨bn, bf, bt, mn, mx⟩, ⟨fn, ft, fm, fk⟩, vt, vn, vs, tn⟩ : Ch).one] W0 fun e w' => e = .returned (.tuple #[.pointer (some ⟨gk, j * 3, none⟩), .int .i64 (lo fn q.fs), .nilIface]) ∧ Below W0.heap.size W0 w' := cow
  dsimp only [Ch.one] at cow
  have hml := fnd_lt hf
  have hs := hG.srt q (List.mem_of_getElem? hq)
  have hFq := (hK.2 q (List.mem_of_getElem? hq)).2
  have hwl : w.heap.size < W0.heap.size := by rw [hW0]; simp
  have hpl : p < W0.heap.size := (Array.getElem?_eq_some_iff.1 hX).1
  have HCn : Hid (∀ W, Calls Tryd.prog 21 #[.string (bs tn)] W fun e w' => e = .returned (errV (nErr tn)) ∧ w' = W) := fun W => by
    have := name_any (bs tn) W (by rw [bs_size]; exact hz)
    simp only [bs_data] at this
    exact this
  have HX : Hid (∀ W, Below W0.heap.size W0 W → W.cell? ⟨gk, j * 3 + 2, none⟩ = some q.vf ∧ W.cell? ⟨w.heap.size, 17, none⟩ = some (.string (bs tn))) := fun W hb => by
    have nn := (hb.block _ hwl).trans n0
    exact ⟨(hK.kt (.of_below hb) (.of_below hb) (.of_below hb)).cell2 hq, cell_at nn rfl⟩
  rw [fdsAt_eq hat hq] at hh
  have HCb : Hid (∀ W, Calls Tryd.prog 21 #[.string (bs tn)] W fun e w' => e = .returned .nilIface ∧ w' = W) := fun W => by have := HCn.out W; rw [hne, errV_0] at this; exact this
  obtain ⟨aq, cq, eq1⟩ := own_slice hFq
  have HCf : Hid (∀ W, Below W0.heap.size W0 W → Calls Tryd.prog 51 #[.slice aq q.fs.length cq, .string (bs tn)] W fun e w' => e = .returned (.tuple #[.int .i64 (lo tn q.fs), .bool true]) ∧ Below W.heap.size W w') := fun W hb => by
    have := findField_any ((own_isF hFq).on hb) hs.1 (by omega) tn
    rw [eq1, hh] at this
    exact this
  rw [eq1] at HX
  generalize lo fn q.fs = m at *
  generalize lo tn q.fs = m2 at *
  have HN := Lib.hid n0
  have HB0 := Lib.hid hB0
  clear hX hK hA hT hFq h hx n0 hB0 hG hj hat hq hf hi hml hs hp HCn hne hh eq1
  go_enter Tryd.func29, Tryd.ntmps29
  go_upto_region 1 with fail
  rw [← hW0]
  clear hW0
  go_wp2_with (first | (refine wpList_load_row rfl 42 (.tmp 3) rfl w.heap.size rfl 42 _ (0, 0) _ HN.out Tryd.underlying42 rfl info37 ?_) | (go_at_call 54; refine cow.mono ?_; rintro e w1 ⟨rfl, hB1⟩; obtain ⟨g0, g1⟩ := HX.out w1 hB1) | (go_at_call 21; refine (HCb.out _).mono ?_; rintro e w2 ⟨rfl, rfl⟩))
  go_cut [9, 10] (fun s t wx => s = .int .i64 (m2 : Int) ∧ t = .bool true ∧ Below W0.heap.size W0 wx)
  case first =>
    go_region_with (go_at_call 51; refine (HCf.out _ (b_drewK hB1 1)).mono ?_; rintro e W2 ⟨rfl, hB2⟩)
    all_goals go_wp2
    all_goals go_meet
    all_goals exact ⟨rfl, rfl, on1K (b_drewK hB1 1) hB2 (Nat.le_refl _)⟩
  case rest =>
    obtain ⟨rfl, rfl, hB3⟩ := hcut
    go_wp2
    go_ret
    exact ⟨rfl, on1K HB0.out hB3 (Nat.le_refl _)⟩
end Go.Proofs.YtkmkhadacppdnaaDoor
