/-
  The walk of change.addField.
-/
import Derived.Test.YtpmblbhemcippaaGreatDoorM24
namespace Go.Proofs.YtpmblbhemcippaaGreatDoor
open Go.RowKit
set_option linter.unusedVariables false
set_option linter.unusedSimpArgs false

set_option maxHeartbeats 4000000 in
set_option maxRecDepth 100000 in
theorem addField_none {w : World} {base p : Nat} {L : List Kd} {B : List Bd} (h : OSc w base p L B) (hn : L.length ≤ 12) (c : Ch) (hc : ChIs w c) (hx : idxK c.nm L 0 = -1) :
    Calls Tryz.prog 73 #[.pointer (some ⟨p, 0, none⟩), c.one] w fun e w' => e = .returned (errV 5) ∧ Below w.heap.size w w' := by
  obtain ⟨vk, vb, hp, hX, hK, hA, hT⟩ := h
  obtain ⟨a, cp, rfl⟩ := own_slice hK.1
  obtain ⟨wh, nm, ⟨kn, ko, kf, vo, vf⟩, ⟨bn, bf, bt, mn, mx⟩, ⟨fn, ft, fm, fk⟩, vt, vn, vs, tn⟩ := c
  obtain ⟨ao, lo1, co, q1⟩ := hc.1.sl
  obtain ⟨af, lf1, cf, q2⟩ := hc.2.sl
  simp only at q1 q2 hx ⊢
  subst q1 q2
  obtain ⟨W0, hW0⟩ : ∃ W0, W0 = w.alloc (.cells #[.int .i64 wh, .string (bs nm), .string (bs kn), .slice ao lo1 co, .slice af lf1 cf, .string (bs bn), .string (bs bf), .string (bs bt), .int .i64 mn, .int .i64 mx, .string (bs fn), .int .i64 ft, .bool fm, .bool fk, .int .i64 vt, .int .i64 vn, .string (bs vs), .string (bs tn)] 38) := ⟨_, rfl⟩
  have hB0 : Below w.heap.size w W0 := by rw [hW0]; exact b_alloc (Below.refl _ _) _
  have n0 := heap_alloc_new w (.cells #[.int .i64 wh, .string (bs nm), .string (bs kn), .slice ao lo1 co, .slice af lf1 cf, .string (bs bn), .string (bs bf), .string (bs bt), .int .i64 mn, .int .i64 mx, .string (bs fn), .int .i64 ft, .bool fm, .bool fk, .int .i64 vt, .int .i64 vn, .string (bs vs), .string (bs tn)] 38)
  rw [← hW0] at n0
  have hX0 := (hB0.block p (Array.getElem?_eq_some_iff.1 hX).1).trans hX
  have c0 : W0.cell? ⟨p, 0, none⟩ = some (.slice a L.length cp) := cell_at hX0 rfl
  have c1 : W0.cell? ⟨w.heap.size, 1, none⟩ = some (.string (bs nm)) := cell_at n0 rfl
  have cc : ∀ W, Below W0.heap.size W0 W → Calls Tryz.prog 105 #[.slice a L.length cp, .string (bs nm)] W fun e w' => e = .returned (.int .i64 (-1)) ∧ Below W.heap.size W w' := fun W hb => by
    have := findKind_any ((hK.isK.on hB0).on hb) hn nm
    rw [hx] at this
    exact this
  have HC := Lib.hid cc
  have HB0 := Lib.hid hB0
  clear hT hK hA hX hx hX0 cc n0 hB0
  go_enter Tryz.func73, Tryz.ntmps73
  go_upto_region 1 with fail
  rw [← hW0]
  clear hW0
  go_cut [5] (fun s wx => s = .int .i64 (-1) ∧ Below W0.heap.size W0 wx)
  case first =>
    go_region_with (go_at_call 105; refine (HC.out _ (b_drewK (Below.refl _ _) 1)).mono ?_; rintro e W2 ⟨rfl, hB2⟩)
    all_goals go_wp2
    all_goals go_meet
    all_goals exact ⟨rfl, on1K (b_drewK (Below.refl _ _) 1) hB2 (Nat.le_refl _)⟩
  case rest =>
    obtain ⟨rfl, hB⟩ := hcut
    go_wp2
    go_ret
    exact ⟨rfl, on1K HB0.out hB (Nat.le_refl _)⟩
set_option maxHeartbeats 8000000 in
set_option maxRecDepth 100000 in
theorem addField_has {w : World} {base p : Nat} {L : List Kd} {B : List Bd} (h : OSc w base p L B) (hn : L.length ≤ 12) (hG : Good L) (c : Ch) (hc : ChIs w c) {j : Nat} {q : Kd} (hj : idxK c.nm L 0 = (j : Int)) (hq : L[j]? = some q) (hf : fnd c.fd.nm q.fs = true) :
    Calls Tryz.prog 73 #[.pointer (some ⟨p, 0, none⟩), c.one] w fun e w' => e = .returned (errV 7) ∧ Below w.heap.size w w' := by
  obtain ⟨wh, nm, ⟨kn, ko, kf, vo, vf⟩, ⟨bn, bf, bt, mn, mx⟩, ⟨fn, ft, fm, fk⟩, vt, vn, vs, tn⟩ := c
  obtain ⟨ao, lo1, co, q1⟩ := hc.1.sl
  obtain ⟨af, lf1, cf, q2⟩ := hc.2.sl
  simp only at q1 q2 hj hf ⊢
  subst q1 q2
  obtain ⟨W0, hW0⟩ : ∃ W0, W0 = w.alloc (.cells #[.int .i64 wh, .string (bs nm), .string (bs kn), .slice ao lo1 co, .slice af lf1 cf, .string (bs bn), .string (bs bf), .string (bs bt), .int .i64 mn, .int .i64 mx, .string (bs fn), .int .i64 ft, .bool fm, .bool fk, .int .i64 vt, .int .i64 vn, .string (bs vs), .string (bs tn)] 38) := ⟨_, rfl⟩
  have hB0 : Below w.heap.size w W0 := by rw [hW0]; exact b_alloc (Below.refl _ _) _
  have n0 := heap_alloc_new w (.cells #[.int .i64 wh, .string (bs nm), .string (bs kn), .slice ao lo1 co, .slice af lf1 cf, .string (bs bn), .string (bs bf), .string (bs bt), .int .i64 mn, .int .i64 mx, .string (bs fn), .int .i64 ft, .bool fm, .bool fk, .int .i64 vt, .int .i64 vn, .string (bs vs), .string (bs tn)] 38)
  rw [← hW0] at n0
  have hjl := (List.getElem?_eq_some_iff.1 hq).1
  obtain ⟨vk, vb, hp, hX, hK, hA, hT⟩ := h
  obtain ⟨gk, cp, rfl⟩ := hK.at (Nat.lt_of_le_of_lt (Nat.zero_le _) hjl)
  have hX0 := (hB0.block p (Array.getElem?_eq_some_iff.1 hX).1).trans hX
  have hwl : w.heap.size < W0.heap.size := by rw [hW0]; simp
  have hpl : p < W0.heap.size := (Array.getElem?_eq_some_iff.1 hX0).1
  have c0 : W0.cell? ⟨p, 0, none⟩ = some (.slice (some ⟨gk, 0, none⟩) L.length cp) := cell_at hX0 rfl
  have c1 : W0.cell? ⟨w.heap.size, 1, none⟩ = some (.string (bs nm)) := cell_at n0 rfl
  have cc : ∀ W, Below W0.heap.size W0 W → Calls Tryz.prog 105 #[.slice (some ⟨gk, 0, none⟩) L.length cp, .string (bs nm)] W fun e w' => e = .returned (.int .i64 (j : Int)) ∧ Below W.heap.size W w' := fun W hb => by
    have := findKind_any ((hK.isK.on hB0).on hb) hn nm
    rw [hj] at this
    exact this
  have hFq := (hK.2 q (List.mem_of_getElem? hq)).2
  obtain ⟨aq, cq, eq1⟩ := own_slice hFq
  have hs := hG.srt q (List.mem_of_getElem? hq)
  have cf' : ∀ W, Below W0.heap.size W0 W → Calls Tryz.prog 110 #[.slice aq q.fs.length cq, .string (bs fn)] W fun e w' => e = .returned (.tuple #[.int .i64 (lo fn q.fs), .bool true]) ∧ Below W.heap.size W w' := fun W hb => by
    have := findField_any (((own_isF hFq).on hB0).on hb) hs.1 (by omega) fn
    rw [eq1, hf] at this
    exact this
  have HX : Hid (∀ W, Below W0.heap.size W0 W → W.cell? ⟨p, 0, none⟩ = some (.slice (some ⟨gk, 0, none⟩) L.length cp) ∧ W.cell? ⟨gk, j * 3 + 2, none⟩ = some (.slice aq q.fs.length cq) ∧ W.cell? ⟨w.heap.size, 10, none⟩ = some (.string (bs fn)) ∧ W.cell? ⟨w.heap.size, 11, none⟩ = some (.int .i64 ft) ∧ W.cell? ⟨w.heap.size, 12, none⟩ = some (.bool fm) ∧ W.cell? ⟨w.heap.size, 13, none⟩ = some (.bool fk) ∧ W.cell? ⟨w.heap.size, 14, none⟩ = some (.int .i64 vt) ∧ W.cell? ⟨w.heap.size, 15, none⟩ = some (.int .i64 vn) ∧ W.cell? ⟨w.heap.size, 16, none⟩ = some (.string (bs vs))) := fun W hb => by
    have nn := (hb.block _ hwl).trans n0
    have hc2 := ((hK.kt (.of_below hB0) (.of_below hB0) (.of_below hB0)).kt (.of_below hb) (.of_below hb) (.of_below hb)).cell2 hq
    rw [eq1] at hc2
    exact ⟨cell_at ((hb.block p hpl).trans hX0) rfl, hc2, cell_at nn rfl, cell_at nn rfl, cell_at nn rfl, cell_at nn rfl, cell_at nn rfl, cell_at nn rfl, cell_at nn rfl⟩
  have HC := Lib.hid cc
  have HCf := Lib.hid cf'
  have HB0 := Lib.hid hB0
  have hjn : ¬ (j : Int) < 0 := by omega
  have hji : (j : Int) < (L.length : Int) := by omega
  have hlo : lo fn q.fs ≤ 8 := Nat.le_trans (lo_le _ _) hs.2
  generalize lo fn q.fs = m at *
  clear hT hK hA hX hX0 cc n0 hB0 hj hq hFq cf' hG hs hf eq1
  go_enter Tryz.func73, Tryz.ntmps73
  go_upto_region 1 with fail
  rw [← hW0]
  clear hW0
  go_cut [5] (fun s wx => s = .int .i64 (j : Int) ∧ Below W0.heap.size W0 wx)
  case first =>
    go_region_with (go_at_call 105; refine (HC.out _ (b_drewK (Below.refl _ _) 1)).mono ?_; rintro e W2 ⟨rfl, hB2⟩)
    all_goals go_wp2
    all_goals go_meet
    all_goals exact ⟨rfl, on1K (b_drewK (Below.refl _ _) 1) hB2 (Nat.le_refl _)⟩
  case rest =>
    obtain ⟨rfl, hB⟩ := hcut
    obtain ⟨d0, d1, d10, d11, d12, d13, d14, d15, d16⟩ := HX.out wc hB
    go_upto_region 5 with fail
    go_cut [7, 8] (fun s t wx => s = .int .i64 (m : Int) ∧ t = .bool true ∧ Below W0.heap.size W0 wx)
    case first =>
      go_region_with (go_at_call 110; refine (HCf.out _ (b_drewK hB 1)).mono ?_; rintro e W2 ⟨rfl, hB2⟩)
      all_goals go_wp2
      all_goals go_meet
      all_goals exact ⟨rfl, rfl, on1K (b_drewK hB 1) hB2 (Nat.le_refl _)⟩
    case rest =>
      obtain ⟨rfl, rfl, hB3⟩ := hcut
      clear d0 d1 d10 d11 d12 d13 d14 d15 d16
      obtain ⟨d0, d1, d10, d11, d12, d13, d14, d15, d16⟩ := HX.out _ hB3
      go_wp2
      go_ret
      exact ⟨rfl, on1K HB0.out hB3 (Nat.le_refl _)⟩
set_option maxHeartbeats 8000000 in
set_option maxRecDepth 100000 in
theorem addField_bad {w : World} {base p : Nat} {L : List Kd} {B : List Bd} (h : OSc w base p L B) (hn : L.length ≤ 12) (hG : Good L) (c : Ch) (hc : ChIs w c) (hz : c.vs.length ≤ maxLen) {j : Nat} {q : Kd} (hj : idxK c.nm L 0 = (j : Int)) (hq : L[j]? = some q) (hf : fnd c.fd.nm q.fs = false) (ha : ¬ adE c.fd c.vt c.vn c.vs = 0) :
    Calls Tryz.prog 73 #[.pointer (some ⟨p, 0, none⟩), c.one] w fun e w' => e = .returned (errV (adE c.fd c.vt c.vn c.vs)) ∧ Below w.heap.size w w' := by
  obtain ⟨wh, nm, ⟨kn, ko, kf, vo, vf⟩, ⟨bn, bf, bt, mn, mx⟩, ⟨fn, ft, fm, fk⟩, vt, vn, vs, tn⟩ := c
  obtain ⟨ao, lo1, co, q1⟩ := hc.1.sl
  obtain ⟨af, lf1, cf, q2⟩ := hc.2.sl
  simp only at q1 q2 hj hf hz ha ⊢
  subst q1 q2
  obtain ⟨W0, hW0⟩ : ∃ W0, W0 = w.alloc (.cells #[.int .i64 wh, .string (bs nm), .string (bs kn), .slice ao lo1 co, .slice af lf1 cf, .string (bs bn), .string (bs bf), .string (bs bt), .int .i64 mn, .int .i64 mx, .string (bs fn), .int .i64 ft, .bool fm, .bool fk, .int .i64 vt, .int .i64 vn, .string (bs vs), .string (bs tn)] 38) := ⟨_, rfl⟩
  have hB0 : Below w.heap.size w W0 := by rw [hW0]; exact b_alloc (Below.refl _ _) _
  have n0 := heap_alloc_new w (.cells #[.int .i64 wh, .string (bs nm), .string (bs kn), .slice ao lo1 co, .slice af lf1 cf, .string (bs bn), .string (bs bf), .string (bs bt), .int .i64 mn, .int .i64 mx, .string (bs fn), .int .i64 ft, .bool fm, .bool fk, .int .i64 vt, .int .i64 vn, .string (bs vs), .string (bs tn)] 38)
  rw [← hW0] at n0
  have hjl := (List.getElem?_eq_some_iff.1 hq).1
  obtain ⟨vk, vb, hp, hX, hK, hA, hT⟩ := h
  obtain ⟨gk, cp, rfl⟩ := hK.at (Nat.lt_of_le_of_lt (Nat.zero_le _) hjl)
  have hX0 := (hB0.block p (Array.getElem?_eq_some_iff.1 hX).1).trans hX
  have hwl : w.heap.size < W0.heap.size := by rw [hW0]; simp
  have hpl : p < W0.heap.size := (Array.getElem?_eq_some_iff.1 hX0).1
  have c0 : W0.cell? ⟨p, 0, none⟩ = some (.slice (some ⟨gk, 0, none⟩) L.length cp) := cell_at hX0 rfl
  have c1 : W0.cell? ⟨w.heap.size, 1, none⟩ = some (.string (bs nm)) := cell_at n0 rfl
  have cc : ∀ W, Below W0.heap.size W0 W → Calls Tryz.prog 105 #[.slice (some ⟨gk, 0, none⟩) L.length cp, .string (bs nm)] W fun e w' => e = .returned (.int .i64 (j : Int)) ∧ Below W.heap.size W w' := fun W hb => by
    have := findKind_any ((hK.isK.on hB0).on hb) hn nm
    rw [hj] at this
    exact this
  have hFq := (hK.2 q (List.mem_of_getElem? hq)).2
  obtain ⟨aq, cq, eq1⟩ := own_slice hFq
  have hs := hG.srt q (List.mem_of_getElem? hq)
  have cf' : ∀ W, Below W0.heap.size W0 W → Calls Tryz.prog 110 #[.slice aq q.fs.length cq, .string (bs fn)] W fun e w' => e = .returned (.tuple #[.int .i64 (lo fn q.fs), .bool false]) ∧ Below W.heap.size W w' := fun W hb => by
    have := findField_any (((own_isF hFq).on hB0).on hb) hs.1 (by omega) fn
    rw [eq1, hf] at this
    exact this
  have HX : Hid (∀ W, Below W0.heap.size W0 W → W.cell? ⟨p, 0, none⟩ = some (.slice (some ⟨gk, 0, none⟩) L.length cp) ∧ W.cell? ⟨gk, j * 3 + 2, none⟩ = some (.slice aq q.fs.length cq) ∧ W.cell? ⟨w.heap.size, 10, none⟩ = some (.string (bs fn)) ∧ W.cell? ⟨w.heap.size, 11, none⟩ = some (.int .i64 ft) ∧ W.cell? ⟨w.heap.size, 12, none⟩ = some (.bool fm) ∧ W.cell? ⟨w.heap.size, 13, none⟩ = some (.bool fk) ∧ W.cell? ⟨w.heap.size, 14, none⟩ = some (.int .i64 vt) ∧ W.cell? ⟨w.heap.size, 15, none⟩ = some (.int .i64 vn) ∧ W.cell? ⟨w.heap.size, 16, none⟩ = some (.string (bs vs))) := fun W hb => by
    have nn := (hb.block _ hwl).trans n0
    have hc2 := ((hK.kt (.of_below hB0) (.of_below hB0) (.of_below hB0)).kt (.of_below hb) (.of_below hb) (.of_below hb)).cell2 hq
    rw [eq1] at hc2
    exact ⟨cell_at ((hb.block p hpl).trans hX0) rfl, hc2, cell_at nn rfl, cell_at nn rfl, cell_at nn rfl, cell_at nn rfl, cell_at nn rfl, cell_at nn rfl, cell_at nn rfl⟩
  have HC := Lib.hid cc
  have HCf := Lib.hid cf'
  have HB0 := Lib.hid hB0
  have hjn : ¬ (j : Int) < 0 := by omega
  have hji : (j : Int) < (L.length : Int) := by omega
  have hlo : lo fn q.fs ≤ 8 := Nat.le_trans (lo_le _ _) hs.2
  have HCa : Hid (∀ W, Calls Tryz.prog 111 #[.agg #[.string (bs fn), .int .i64 ft, .bool fm, .bool fk], .agg #[.int .i64 vt, .int .i64 vn, .string (bs vs)]] W fun e w' => e = .returned (.iface 71 (.int .i64 (adE ⟨fn, ft, fm, fk⟩ vt vn vs))) ∧ Below W.heap.size W w') := fun W => by
    have := checkAdded_any ⟨fn, ft, fm, fk⟩ vt vn vs W hz
    rw [errV_ne ha] at this
    exact this
  rw [errV_ne ha]
  generalize adE ⟨fn, ft, fm, fk⟩ vt vn vs = r at *
  generalize lo fn q.fs = m at *
  clear hT hK hA hX hX0 cc n0 hB0 hj hq hFq cf' hG hs hf eq1 hz ha
  go_enter Tryz.func73, Tryz.ntmps73
  go_upto_region 1 with fail
  rw [← hW0]
  clear hW0
  go_cut [5] (fun s wx => s = .int .i64 (j : Int) ∧ Below W0.heap.size W0 wx)
  case first =>
    go_region_with (go_at_call 105; refine (HC.out _ (b_drewK (Below.refl _ _) 1)).mono ?_; rintro e W2 ⟨rfl, hB2⟩)
    all_goals go_wp2
    all_goals go_meet
    all_goals exact ⟨rfl, on1K (b_drewK (Below.refl _ _) 1) hB2 (Nat.le_refl _)⟩
  case rest =>
    obtain ⟨rfl, hB⟩ := hcut
    obtain ⟨d0, d1, d10, d11, d12, d13, d14, d15, d16⟩ := HX.out wc hB
    go_upto_region 5 with fail
    go_cut [7, 8] (fun s t wx => s = .int .i64 (m : Int) ∧ t = .bool false ∧ Below W0.heap.size W0 wx)
    case first =>
      go_region_with (go_at_call 110; refine (HCf.out _ (b_drewK hB 1)).mono ?_; rintro e W2 ⟨rfl, hB2⟩)
      all_goals go_wp2
      all_goals go_meet
      all_goals exact ⟨rfl, rfl, on1K (b_drewK hB 1) hB2 (Nat.le_refl _)⟩
    case rest =>
      obtain ⟨rfl, rfl, hB3⟩ := hcut
      clear d0 d1 d10 d11 d12 d13 d14 d15 d16
      obtain ⟨d0, d1, d10, d11, d12, d13, d14, d15, d16⟩ := HX.out _ hB3
      go_wp2_with (go_at_call 111; refine (HCa.out _).mono ?_; rintro e W4 ⟨rfl, hB4⟩)
      go_ret
      exact ⟨rfl, on1K HB0.out (on1K hB3 hB4 (Nat.le_refl _)) (Nat.le_refl _)⟩
set_option maxHeartbeats 8000000 in
set_option maxRecDepth 100000 in
theorem addField_ok {w : World} {base p : Nat} {L : List Kd} {B : List Bd} (h : OSc w base p L B) (hbase : base ≤ w.heap.size) (hn : L.length ≤ 12) (hG : Good L) (c : Ch) (hc : ChIs w c) (hz : c.vs.length ≤ maxLen) {j : Nat} {q : Kd} (hj : idxK c.nm L 0 = (j : Int)) (hat : nmAt L c.nm = j) (hq : L[j]? = some q) (hf : fnd c.fd.nm q.fs = false) (ha : adE c.fd c.vt c.vn c.vs = 0) :
    Calls Tryz.prog 73 #[.pointer (some ⟨p, 0, none⟩), c.one] w fun e w' => e = .returned (errV 0) ∧ (∃ M, OSc w' base p M B ∧ M.map kq3 = (setFs L c.nm (insA q.fs c.fd)).map kq3) ∧ Below base w w' := by
  obtain ⟨wh, nm, ⟨kn, ko, kf, vo, vf⟩, ⟨bn, bf, bt, mn, mx⟩, ⟨fn, ft, fm, fk⟩, vt, vn, vs, tn⟩ := c
  obtain ⟨ao, lo1, co, q1⟩ := hc.1.sl
  obtain ⟨af, lf1, cf, q2⟩ := hc.2.sl
  simp only at q1 q2 hj hat hf hz ha ⊢
  subst q1 q2
  obtain ⟨W0, hW0⟩ : ∃ W0, W0 = w.alloc (.cells #[.int .i64 wh, .string (bs nm), .string (bs kn), .slice ao lo1 co, .slice af lf1 cf, .string (bs bn), .string (bs bf), .string (bs bt), .int .i64 mn, .int .i64 mx, .string (bs fn), .int .i64 ft, .bool fm, .bool fk, .int .i64 vt, .int .i64 vn, .string (bs vs), .string (bs tn)] 38) := ⟨_, rfl⟩
  have hB0 : Below w.heap.size w W0 := by rw [hW0]; exact b_alloc (Below.refl _ _) _
  have n0 := heap_alloc_new w (.cells #[.int .i64 wh, .string (bs nm), .string (bs kn), .slice ao lo1 co, .slice af lf1 cf, .string (bs bn), .string (bs bf), .string (bs bt), .int .i64 mn, .int .i64 mx, .string (bs fn), .int .i64 ft, .bool fm, .bool fk, .int .i64 vt, .int .i64 vn, .string (bs vs), .string (bs tn)] 38)
  rw [← hW0] at n0
  have hjl := (List.getElem?_eq_some_iff.1 hq).1
  obtain ⟨vk, vb, hp, hX, hK, hA, hT⟩ := h
  obtain ⟨gk, cp, rfl⟩ := hK.at (Nat.lt_of_le_of_lt (Nat.zero_le _) hjl)
  have hX0 := (hB0.block p (Array.getElem?_eq_some_iff.1 hX).1).trans hX
  have hwl : w.heap.size < W0.heap.size := by rw [hW0]; simp
  have hpl : p < W0.heap.size := (Array.getElem?_eq_some_iff.1 hX0).1
  have c0 : W0.cell? ⟨p, 0, none⟩ = some (.slice (some ⟨gk, 0, none⟩) L.length cp) := cell_at hX0 rfl
  have c1 : W0.cell? ⟨w.heap.size, 1, none⟩ = some (.string (bs nm)) := cell_at n0 rfl
  have cc : ∀ W, Below W0.heap.size W0 W → Calls Tryz.prog 105 #[.slice (some ⟨gk, 0, none⟩) L.length cp, .string (bs nm)] W fun e w' => e = .returned (.int .i64 (j : Int)) ∧ Below W.heap.size W w' := fun W hb => by
    have := findKind_any ((hK.isK.on hB0).on hb) hn nm
    rw [hj] at this
    exact this
  have hFq := (hK.2 q (List.mem_of_getElem? hq)).2
  obtain ⟨aq, cq, eq1⟩ := own_slice hFq
  have hs := hG.srt q (List.mem_of_getElem? hq)
  have cf' : ∀ W, Below W0.heap.size W0 W → Calls Tryz.prog 110 #[.slice aq q.fs.length cq, .string (bs fn)] W fun e w' => e = .returned (.tuple #[.int .i64 (lo fn q.fs), .bool false]) ∧ Below W.heap.size W w' := fun W hb => by
    have := findField_any (((own_isF hFq).on hB0).on hb) hs.1 (by omega) fn
    rw [eq1, hf] at this
    exact this
  have HX : Hid (∀ W, Below W0.heap.size W0 W → W.cell? ⟨p, 0, none⟩ = some (.slice (some ⟨gk, 0, none⟩) L.length cp) ∧ W.cell? ⟨gk, j * 3 + 2, none⟩ = some (.slice aq q.fs.length cq) ∧ W.cell? ⟨w.heap.size, 10, none⟩ = some (.string (bs fn)) ∧ W.cell? ⟨w.heap.size, 11, none⟩ = some (.int .i64 ft) ∧ W.cell? ⟨w.heap.size, 12, none⟩ = some (.bool fm) ∧ W.cell? ⟨w.heap.size, 13, none⟩ = some (.bool fk) ∧ W.cell? ⟨w.heap.size, 14, none⟩ = some (.int .i64 vt) ∧ W.cell? ⟨w.heap.size, 15, none⟩ = some (.int .i64 vn) ∧ W.cell? ⟨w.heap.size, 16, none⟩ = some (.string (bs vs))) := fun W hb => by
    have nn := (hb.block _ hwl).trans n0
    have hc2 := ((hK.kt (.of_below hB0) (.of_below hB0) (.of_below hB0)).kt (.of_below hb) (.of_below hb) (.of_below hb)).cell2 hq
    rw [eq1] at hc2
    exact ⟨cell_at ((hb.block p hpl).trans hX0) rfl, hc2, cell_at nn rfl, cell_at nn rfl, cell_at nn rfl, cell_at nn rfl, cell_at nn rfl, cell_at nn rfl, cell_at nn rfl⟩
  have HC := Lib.hid cc
  have HCf := Lib.hid cf'
  have HB0 := Lib.hid hB0
  have hjn : ¬ (j : Int) < 0 := by omega
  have hji : (j : Int) < (L.length : Int) := by omega
  have hlo : lo fn q.fs ≤ 8 := Nat.le_trans (lo_le _ _) hs.2
  have HCa : Hid (∀ W, Calls Tryz.prog 111 #[.agg #[.string (bs fn), .int .i64 ft, .bool fm, .bool fk], .agg #[.int .i64 vt, .int .i64 vn, .string (bs vs)]] W fun e w' => e = .returned .nilIface ∧ Below W.heap.size W w') := fun W => by
    have := checkAdded_any ⟨fn, ft, fm, fk⟩ vt vn vs W hz
    rw [ha, errV_0] at this
    exact this
  have HI : Hid (∀ W, Below W0.heap.size W0 W → Calls Tryz.prog 112 #[.slice aq q.fs.length cq, .int .i64 (lo fn q.fs), .slice (some ⟨W.heap.size, 0, none⟩) 1 1] (W.alloc (.cells #[.string (bs fn), .int .i64 ft, .bool fm, .bool fk] 28)) fun e w' => ∃ v', e = .returned v' ∧ w'.ownsRow base 28 4 v' (insA q.fs ⟨fn, ft, fm, fk⟩).length (cellsF (insA q.fs ⟨fn, ft, fm, fk⟩)) ∧ (w'.cell? ⟨gk, j * 3 + 2, none⟩ = some (.slice aq q.fs.length cq) ∧ w'.frozen? ⟨gk, j * 3 + 2, none⟩ = false) ∧ OSc (w'.setCell ⟨gk, j * 3 + 2, none⟩ v') base p (L.set j ⟨q.nm, q.of, insA q.fs ⟨fn, ft, fm, fk⟩, q.vo, v'⟩) B ∧ Below base w (w'.setCell ⟨gk, j * 3 + 2, none⟩ v')) := fun W hb => by
    have hbw := on1K hB0 hb (Nat.le_refl _)
    have hba := on1K hbw (b_alloc (Below.refl _ W) (.cells #[.string (bs fn), .int .i64 ft, .bool fm, .bool fk] 28)) (Nat.le_refl _)
    have hkw := hK.kt (.of_below hba) (.of_below hba) (.of_below hba)
    have hFw := (hkw.2 q (List.mem_of_getElem? hq)).2
    have ci := insertM_any hFw (lo fn q.fs) (lo_le _ _) W.heap.size ⟨fn, ft, fm, fk⟩ (heap_alloc_new W _) (fun e => by
      have := (((hK.kt (.of_below hbw) (.of_below hbw) (.of_below hbw)).2 q (List.mem_of_getElem? hq)).2.lt _ e).2
      omega) (Nat.le_trans hbase hba.size) (by omega)
    rw [eq1] at ci
    refine ci.mono ?_
    rintro e w' ⟨v', rfl, h2, h3, h4⟩
    obtain ⟨r1, r2, r3⟩ := osc_setF hp ((hba.block p (Array.getElem?_eq_some_iff.1 hX).1).trans hX) hkw hA (own_kt hT (.of_below hba)) (Nat.le_trans hbase hba.size) hq (by rw [eq1]; exact h3) h2 (by rw [eq1]; exact h4)
    rw [eq1] at r1
    exact ⟨v', rfl, h2, r1, r2, (hba.mono hbase).trans r3⟩
  have HE : Hid (∀ v', (L.set j ⟨q.nm, q.of, insA q.fs ⟨fn, ft, fm, fk⟩, q.vo, v'⟩).map kq3 = (setFs L nm (insA q.fs ⟨fn, ft, fm, fk⟩)).map kq3) := fun v' => setFs_kq hat hq _ v'
  have hgl : gk < w.heap.size := (hK.1.lt gk rfl).2
  have hgw : ¬ w.heap.size = gk := by omega
  have hgw' : ¬ gk = w.heap.size := by omega
  generalize insA q.fs ⟨fn, ft, fm, fk⟩ = G at *
  generalize lo fn q.fs = m at *
  clear hT hK hA hX hX0 cc n0 hB0 hj hat hq hFq cf' hG hs hf eq1 hz ha hp
  go_enter Tryz.func73, Tryz.ntmps73
  go_upto_region 1 with fail
  rw [← hW0]
  clear hW0
  go_cut [5] (fun s wx => s = .int .i64 (j : Int) ∧ Below W0.heap.size W0 wx)
  case first =>
    go_region_with (go_at_call 105; refine (HC.out _ (b_drewK (Below.refl _ _) 1)).mono ?_; rintro e W2 ⟨rfl, hB2⟩)
    all_goals go_wp2
    all_goals go_meet
    all_goals exact ⟨rfl, on1K (b_drewK (Below.refl _ _) 1) hB2 (Nat.le_refl _)⟩
  case rest =>
    obtain ⟨rfl, hB⟩ := hcut
    obtain ⟨d0, d1, d10, d11, d12, d13, d14, d15, d16⟩ := HX.out wc hB
    go_upto_region 5 with fail
    go_cut [7, 8] (fun s t wx => s = .int .i64 (m : Int) ∧ t = .bool false ∧ Below W0.heap.size W0 wx)
    case first =>
      go_region_with (go_at_call 110; refine (HCf.out _ (b_drewK hB 1)).mono ?_; rintro e W2 ⟨rfl, hB2⟩)
      all_goals go_wp2
      all_goals go_meet
      all_goals exact ⟨rfl, rfl, on1K (b_drewK hB 1) hB2 (Nat.le_refl _)⟩
    case rest =>
      obtain ⟨rfl, rfl, hB3⟩ := hcut
      clear d0 d1 d10 d11 d12 d13 d14 d15 d16
      obtain ⟨d0, d1, d10, d11, d12, d13, d14, d15, d16⟩ := HX.out _ hB3
      go_wp2_with (go_at_call 111; refine (HCa.out _).mono ?_; rintro e W4 ⟨rfl, hB4⟩; refine Hid.out ?_)
      refine Lib.hid ?_
      have hB5 := on1K hB3 hB4 (Nat.le_refl _)
      clear d0 d1 d10 d11 d12 d13 d14 d15 d16
      obtain ⟨d0, d1, d10, d11, d12, d13, d14, d15, d16⟩ := HX.out _ hB5
      have hwz : w.heap.size < W4.heap.size := Nat.lt_of_lt_of_le hwl hB5.size
      have hwz' : ¬ w.heap.size = W4.heap.size := by omega
      have hgz : ¬ gk = W4.heap.size := by omega
      have da1 : ∀ o, (W4.alloc o).cell? ⟨gk, j * 3 + 2, none⟩ = some (.slice aq q.fs.length cq) := fun o => ((b_alloc (Below.refl _ W4) o).cell (p := ⟨gk, j * 3 + 2, none⟩) (by show gk < _; omega)).trans d1
      go_wp2
      go_region_law (go_simp; go_at_call 112; refine (HI.out W4.drew hB5.drew).mono ?_; rintro e w7 ⟨v7, rfl, ho7, ⟨z0, z1⟩, z2⟩; obtain ⟨a2, c2, rfl⟩ := own_slice ho7; have HZ := Lib.hid z2; clear z2 ho7)
      all_goals go_wp2
      all_goals go_ret
      all_goals exact ⟨rfl, ⟨_, HZ.out.1, HE.out _⟩, HZ.out.2⟩
end Go.Proofs.YtpmblbhemcippaaGreatDoor
