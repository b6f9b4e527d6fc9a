/-
  The walk of the law ChangeTells: of a change that cannot be done; any row of changes.
-/
import Derived.Test.YtkmkhadacppdnaaGreatDoorM44
namespace Go.Proofs.YtkmkhadacppdnaaGreatDoor
open Go.RowKit
set_option linter.unusedVariables false
set_option linter.unusedSimpArgs false

set_option maxHeartbeats 16000000 in
set_option maxRecDepth 100000 in
theorem ctells_b {w : World} {vk vb vl : Value} {L : List Kd} {B : List Bd} {l : List Ch} (c : Ch) (hK : IsK w vk L) (hP : Parts w L) (hz : SzK L) (hb : IsB w vb B) (hzb : SzB B) (hc : ChIs w c) (hcz : ChSz c) (hl : IsC w vl l) (hlz : ∀ c ∈ l, ChSz c) (hg : Hnd w) (hE : (sErr L B).2 = 0) (hD : ¬ doE L B c = 0)  :
    Calls Tryz.prog 3 #[.agg #[vk, vb], c.one, vl] w fun e w' => e = .returned (.bool true) ∧ Below w.heap.size w w' := by
  have hx : doE L B c = apE L B c := by unfold doE; rw [if_pos hE]
  have hone : (allA L B [c]).2.2.1 = (if apE L B c = 0 then cK L c else []) ∧ (allA L B [c]).2.2.2 = (if apE L B c = 0 then cB B c else []) := by
    rw [allA_one, if_pos hE]
    split
    · exact ⟨rfl, rfl⟩
    · exact ⟨rfl, rfl⟩
  have hCh : ∀ W, Below w.heap.size w W → Calls Tryz.prog 5 #[.agg #[vk, vb], c.one] W fun e w' => ∃ a n c' b m d, e = .returned (.tuple #[.agg #[.slice a n c', .slice b m d], .int .i64 (doE L B c)]) ∧ Sv w' (.slice a n c') (.slice b m d) (allA L B [c]).2.2.1 (allA L B [c]).2.2.2 ∧ Below W.heap.size W w' := fun W h => by
    rw [hx, hone.1, hone.2]
    exact rchange_sv c (sv_of (hK.on h) (hP.on h) (hb.on h)) hz hzb hE (hc.on h) hcz
  have hRi : ∀ W, Below w.heap.size w W → Calls Tryz.prog 4 #[.agg #[vk, vb]] W fun e w' => e = .returned (.int .i64 (sErr L B).2) ∧ Below W.heap.size W w' := fun W h => rright_any (hK.on h) (hP.on h) hz (hb.on h) hzb
  have hDo : ∀ W, Below w.heap.size w W → Calls Tryz.prog 6 #[.agg #[vk, vb], c.one] W fun e w' => ∃ a n c' b m d, e = .returned (.tuple #[.agg #[.slice a n c', .slice b m d], errV (doE L B c)]) ∧ Sv w' (.slice a n c') (.slice b m d) (allA L B [c]).2.2.1 (allA L B [c]).2.2.2 ∧ Below W.heap.size W w' := fun W h => do_sv c (hK.on h) (hP.on h) hz (hb.on h) hzb (hc.on h) hcz
  have hCk : ∀ W, Below w.heap.size w W → Calls Tryz.prog 10 #[.agg #[vk, vb], c.one] W fun e w' => ∃ v, e = .returned (.tuple #[v, errV (doE L B c)]) ∧ IsS w' v (([] : List Nm)) ∧ Below W.heap.size W w' := fun W h => (ckinds_any c (hK.on h) (hP.on h) hz (hb.on h) hzb (hc.on h) hcz).mono fun e w' h' => by
    rw [if_neg hD] at h'
    exact h'
  have hAl : ∀ W, Below w.heap.size w W → Calls Tryz.prog 12 #[.agg #[vk, vb], vl] W fun e w' => ∃ a n c' b m d, e = .returned (.tuple #[.agg #[.slice a n c', .slice b m d], .int .i64 (((allA L B l).2.1 : Nat) : Int), errV (allA L B l).1]) ∧ Sv w' (.slice a n c') (.slice b m d) (allA L B l).2.2.1 (allA L B l).2.2.2 ∧ Below W.heap.size W w' := fun W h => all_sv (hK.on h) (hP.on h) hz (hb.on h) hzb (hl.on h) hlz
  have hEr : ∀ W, Below w.heap.size w W → ∀ y, Calls Tryz.prog 7 #[errV y, .int .i64 y] W fun e w' => e = .returned (.bool true) ∧ Below W.heap.size W w' := fun W h y => error_any y W ((h.cell (p := ⟨0, 0, none⟩) (World.block_lt_of_cell? w _ hg)).trans hg)
  have hR1 : (sErr (allA L B [c]).2.2.1 (allA L B [c]).2.2.2).2 = 0 := allA_right L B [c]
  have hRl := allA_right L B l
  have hlen : (([] : List Nm)).length ≤ 1000 := by simp
  have hst : (40 < l.length → allA L B l = (4, 0, [], [])) ∧ (¬ 40 < l.length → allA L B l = goC l 0 L B) := ⟨fun h40 => by unfold allA; rw [if_pos h40], fun h40 => by unfold allA; rw [if_neg h40, if_pos hE]⟩
  have hSv : ∀ W, Below w.heap.size w W → Sv W vk vb L B := fun W h => sv_of (hK.on h) (hP.on h) (hb.on h)
  have HSz : Hid (SzK L ∧ SzB B ∧ (∀ c ∈ l, ChSz c)) := ⟨hz, hzb, hlz⟩
  obtain ⟨al, cl, rfl, hlm, hll⟩ := hl
  have HL : Hid (l = [] ∨ ∃ b off, al = some ⟨b, off, none⟩ ∧ b < w.heap.size ∧ LiesC w b off l) := hll
  obtain ⟨wh, nm, ⟨kn, ko, kf, vo, vf⟩, ⟨bn, bf, bt, mn, mx⟩, ⟨fn, ft, fm, fk⟩, vt, vn, vs, tn⟩ := c
  obtain ⟨a1, c1, rfl, _⟩ := hK.sln
  obtain ⟨a2, c2, rfl, _⟩ := hb.sln
  obtain ⟨ao, lo1, co, q1⟩ := hc.1.sl
  obtain ⟨af, lf1, cf, q2⟩ := hc.2.sl
  simp only at q1 q2
  subst q1 q2
  generalize hX : doE L B (⟨wh, nm, ⟨kn, ko, kf, .slice ao lo1 co, .slice af lf1 cf⟩, ⟨bn, bf, bt, mn, mx⟩, ⟨fn, ft, fm, fk⟩, vt, vn, vs, tn⟩ : Ch) = x at hDo hCk hCh hD
  generalize hKK : (allA L B [(⟨wh, nm, ⟨kn, ko, kf, .slice ao lo1 co, .slice af lf1 cf⟩, ⟨bn, bf, bt, mn, mx⟩, ⟨fn, ft, fm, fk⟩, vt, vn, vs, tn⟩ : Ch)]).2.2.1 = K1 at hDo hR1 hCh
  generalize hBB : (allA L B [(⟨wh, nm, ⟨kn, ko, kf, .slice ao lo1 co, .slice af lf1 cf⟩, ⟨bn, bf, bt, mn, mx⟩, ⟨fn, ft, fm, fk⟩, vt, vn, vs, tn⟩ : Ch)]).2.2.2 = B1 at hDo hR1 hCh
  generalize hFF : (([] : List Nm)) = F at hCk hlen
  have hc1 : (⟨wh, nm, ⟨kn, ko, kf, .slice ao lo1 co, .slice af lf1 cf⟩, ⟨bn, bf, bt, mn, mx⟩, ⟨fn, ft, fm, fk⟩, vt, vn, vs, tn⟩ : Ch).one = .agg #[.int .i64 wh, .string (bs nm), .string (bs kn), .slice ao lo1 co, .slice af lf1 cf, .string (bs bn), .string (bs bf), .string (bs bt), .int .i64 mn, .int .i64 mx, .string (bs fn), .int .i64 ft, .bool fm, .bool fk, .int .i64 vt, .int .i64 vn, .string (bs vs), .string (bs tn)] := rfl
  rw [hc1] at hDo hCk hCh
  obtain ⟨W0, hW0⟩ : ∃ W0, W0 = (w.alloc (.cells #[.slice a1 L.length c1, .slice a2 B.length c2] 25)).alloc (.cells #[.int .i64 wh, .string (bs nm), .string (bs kn), .slice ao lo1 co, .slice af lf1 cf, .string (bs bn), .string (bs bf), .string (bs bt), .int .i64 mn, .int .i64 mx, .string (bs fn), .int .i64 ft, .bool fm, .bool fk, .int .i64 vt, .int .i64 vn, .string (bs vs), .string (bs tn)] 37) := ⟨_, rfl⟩
  have bx0 : Bx w #[.slice a1 L.length c1, .slice a2 B.length c2] #[.int .i64 wh, .string (bs nm), .string (bs kn), .slice ao lo1 co, .slice af lf1 cf, .string (bs bn), .string (bs bf), .string (bs bt), .int .i64 mn, .int .i64 mx, .string (bs fn), .int .i64 ft, .bool fm, .bool fk, .int .i64 vt, .int .i64 vn, .string (bs vs), .string (bs tn)] W0 := by
    refine ⟨by rw [hW0]; exact b_alloc (b_alloc (Below.refl _ _) _) _, by rw [hW0]; exact (heap_alloc_old _ _ (by simp)).trans (heap_alloc_new w _), ?_⟩
    have := heap_alloc_new (w.alloc (.cells #[.slice a1 L.length c1, .slice a2 B.length c2] 25)) (.cells #[.int .i64 wh, .string (bs nm), .string (bs kn), .slice ao lo1 co, .slice af lf1 cf, .string (bs bn), .string (bs bf), .string (bs bt), .int .i64 mn, .int .i64 mx, .string (bs fn), .int .i64 ft, .bool fm, .bool fk, .int .i64 vt, .int .i64 vn, .string (bs vs), .string (bs tn)] 37)
    rw [World.size_alloc] at this; rw [hW0]; exact this
  have HRi := Lib.hid hRi
  have HDo := Lib.hid hDo
  have HCk := Lib.hid hCk
  have HAl := Lib.hid hAl
  have HEr := Lib.hid hEr
  have HR1 := Lib.hid hR1
  have HRl := Lib.hid hRl
  have HLn := Lib.hid hlen
  have HSt := Lib.hid hst
  have HSv := Lib.hid hSv
  have HCh := Lib.hid hCh
  have HFF := Lib.hid hFF
  clear hRi hDo hCk hAl hEr hR1 hRl hlen hst hSv hK hP hz hb hzb hc hcz hlz hg hll hc1 hCh hone hKK hBB hFF hX
  clear hx
  rw [hE] at HRi
  have HE0 := Lib.hid hE
  clear hE
  go_enter Tryz.func3, Tryz.ntmps3
  go_upto_region 1 with fail
  rw [← hW0]
  clear hW0
  have s0 : W0.cell? ⟨w.heap.size, 0, none⟩ = some (.slice a1 L.length c1) := cell_at bx0.2.1 rfl
  have s1 : W0.cell? ⟨w.heap.size, 1, none⟩ = some (.slice a2 B.length c2) := cell_at bx0.2.1 rfl
  have cR := HRi.out W0 bx0.1
  go_upto_region 2 with (go_at_call 4; refine cR.mono ?_; rintro e W1 ⟨rfl, hB1⟩)
  have bx1 := bx0.on hB1
  obtain ⟨W2, hW2⟩ : ∃ W2, W2 = W1.alloc (.cells #[.slice none 0 0, .slice none 0 0] 25) := ⟨_, rfl⟩
  have hB2 : Below W1.heap.size W1 W2 := by rw [hW2]; exact b_alloc (Below.refl _ _) _
  have bx2 := bx1.on hB2
  have tw2 : Two W2 W1.heap.size (.slice none 0 0) (.slice none 0 0) := ⟨by rw [hW2]; exact heap_alloc_new W1 _, ⟨_, _, _, rfl⟩, ⟨_, _, _, rfl⟩⟩
  have hp9 := bx1.size
  have HW2 := Lib.hid hW2
  clear cR hB1 hB2 bx0 bx1 hW2 s0 s1
  go_upto_region 4 with fail
  rw [← HW2.out]
  clear HW2
  generalize W1.heap.size = p9 at tw2 hp9 ⊢
  have s0 : W2.cell? ⟨w.heap.size, 0, none⟩ = some (.slice a1 L.length c1) := cell_at bx2.2.1 rfl
  have s1 : W2.cell? ⟨w.heap.size, 1, none⟩ = some (.slice a2 B.length c2) := cell_at bx2.2.1 rfl
  have HN := Lib.hid bx2.2.2
  have cC := HCh.out W2 bx2.1
  have HT2 : Hid (Bx w #[.slice a1 L.length c1, .slice a2 B.length c2] #[.int .i64 wh, .string (bs nm), .string (bs kn), .slice ao lo1 co, .slice af lf1 cf, .string (bs bn), .string (bs bf), .string (bs bt), .int .i64 mn, .int .i64 mx, .string (bs fn), .int .i64 ft, .bool fm, .bool fk, .int .i64 vt, .int .i64 vn, .string (bs vs), .string (bs tn)] W2 ∧ Two W2 p9 (.slice none 0 0) (.slice none 0 0)) := ⟨bx2, tw2⟩
  clear bx2 tw2
  go_upto_region 6 with (first | (refine wpList_load_row rfl 37 (.tmp 4) rfl (w.heap.size + 1) rfl 37 _ (0, 0) _ HN.out Tryz.underlying37 rfl info37 ?_) | (go_at_call 5; refine cC.mono ?_; rintro e W25 ⟨a5, n5, c5, b5, m5, d5, rfl, hS5, hB25⟩; have tw := HT2.out.2.on hB25; have y0 := cell_at (i := 0) tw.1 rfl; have y1 := cell_at (i := 1) tw.1 rfl; have y2 := frz_at (i := 0) tw.1; have y3 := frz_at (i := 1) tw.1; have HT25 : Hid (Two W25 p9 (.slice none 0 0) (.slice none 0 0) ∧ Sv W25 (.slice a5 n5 c5) (.slice b5 m5 d5) K1 B1 ∧ Bx w #[.slice a1 L.length c1, .slice a2 B.length c2] #[.int .i64 wh, .string (bs nm), .string (bs kn), .slice ao lo1 co, .slice af lf1 cf, .string (bs bn), .string (bs bf), .string (bs bt), .int .i64 mn, .int .i64 mx, .string (bs fn), .int .i64 ft, .bool fm, .bool fk, .int .i64 vt, .int .i64 vn, .string (bs vs), .string (bs tn)] W25) := ⟨tw, hS5, HT2.out.1.on hB25⟩; clear tw hS5 hB25))
  obtain ⟨g1, g2⟩ := two_set (x := .slice a5 n5 c5) (y := .slice b5 m5 d5) HT25.out.1.1
  have HP : Hid (Bx w #[.slice a1 L.length c1, .slice a2 B.length c2] #[.int .i64 wh, .string (bs nm), .string (bs kn), .slice ao lo1 co, .slice af lf1 cf, .string (bs bn), .string (bs bf), .string (bs bt), .int .i64 mn, .int .i64 mx, .string (bs fn), .int .i64 ft, .bool fm, .bool fk, .int .i64 vt, .int .i64 vn, .string (bs vs), .string (bs tn)] ((W25.setCell ⟨p9, 0, none⟩ (.slice a5 n5 c5)).setCell ⟨p9, 1, none⟩ (.slice b5 m5 d5)) ∧ Two ((W25.setCell ⟨p9, 0, none⟩ (.slice a5 n5 c5)).setCell ⟨p9, 1, none⟩ (.slice b5 m5 d5)) p9 (.slice a5 n5 c5) (.slice b5 m5 d5) ∧ Sv ((W25.setCell ⟨p9, 0, none⟩ (.slice a5 n5 c5)).setCell ⟨p9, 1, none⟩ (.slice b5 m5 d5)) (.slice a5 n5 c5) (.slice b5 m5 d5) K1 B1) := ⟨HT25.out.2.2.two hp9 _ _, ⟨g1, ⟨_, _, _, rfl⟩, ⟨_, _, _, rfl⟩⟩, HT25.out.2.1.oth HT25.out.1.sl g2⟩
  clear cC HT2 HT25 g1 g2 y0 y1 y2 y3 HCh s0 s1 HN
  generalize (W25.setCell ⟨p9, 0, none⟩ (.slice a5 n5 c5)).setCell ⟨p9, 1, none⟩ (.slice b5 m5 d5) = W3 at HP ⊢
  as_aux_lemma =>
  have s0 : W3.cell? ⟨w.heap.size, 0, none⟩ = some (.slice a1 L.length c1) := cell_at HP.out.1.2.1 rfl
  have s1 : W3.cell? ⟨w.heap.size, 1, none⟩ = some (.slice a2 B.length c2) := cell_at HP.out.1.2.1 rfl
  have HN := Lib.hid HP.out.1.2.2
  have cD := HDo.out W3 HP.out.1.1
  go_upto_region 7 with (first | (refine wpList_load_row rfl 37 (.tmp 4) rfl (w.heap.size + 1) rfl 37 _ (0, 0) _ HN.out Tryz.underlying37 rfl info37 ?_) | (go_at_call 6; refine cD.mono ?_; rintro e W4 ⟨a6, n6, c6, b6, m6, d6, rfl, hS6, hB4⟩) | (refine wpList_store_new rfl 25 (.tmp 10) (.tmp 39) rfl _ _ rfl rfl info25u rfl rfl ?_))
  obtain ⟨W5, hW5⟩ : ∃ W5, W5 = W4.alloc (.cells #[.slice a6 n6 c6, .slice b6 m6 d6] 25) := ⟨_, rfl⟩
  have hB5 : Below W4.heap.size W4 W5 := by rw [hW5]; exact b_alloc (Below.refl _ _) _
  have HT5 : Hid (Bx w #[.slice a1 L.length c1, .slice a2 B.length c2] #[.int .i64 wh, .string (bs nm), .string (bs kn), .slice ao lo1 co, .slice af lf1 cf, .string (bs bn), .string (bs bf), .string (bs bt), .int .i64 mn, .int .i64 mx, .string (bs fn), .int .i64 ft, .bool fm, .bool fk, .int .i64 vt, .int .i64 vn, .string (bs vs), .string (bs tn)] W5 ∧ Two W5 p9 (.slice a5 n5 c5) (.slice b5 m5 d5) ∧ Sv W5 (.slice a5 n5 c5) (.slice b5 m5 d5) K1 B1 ∧ Two W5 W4.heap.size (.slice a6 n6 c6) (.slice b6 m6 d6) ∧ Sv W5 (.slice a6 n6 c6) (.slice b6 m6 d6) K1 B1 ∧ p9 < W4.heap.size) := ⟨(HP.out.1.on hB4).on hB5, (HP.out.2.1.on hB4).on hB5, (HP.out.2.2.on hB4).on hB5, ⟨by rw [hW5]; exact heap_alloc_new W4 _, ⟨_, _, _, rfl⟩, ⟨_, _, _, rfl⟩⟩, hS6.on hB5, Nat.lt_of_lt_of_le (Array.getElem?_eq_some_iff.1 HP.out.2.1.1).1 hB4.size⟩
  rw [← hW5]
  clear cD hB4 hB5 hS6 hW5 HP HDo s0 s1 HN
  generalize W4.heap.size = p10 at HT5 ⊢
  as_aux_lemma =>
  have cE := HEr.out W5 HT5.out.1.1 (x)
  go_upto_region 8 with (go_at_call 7; refine cE.mono ?_; rintro e W6 ⟨rfl, hB6⟩)
  have tw6 := HT5.out.2.1.on hB6
  have tv6 := HT5.out.2.2.2.1.on hB6
  have t0a : W6.cell? ⟨p9, 0, none⟩ = some (.slice a5 n5 c5) := cell_at tw6.1 rfl
  have t1a : W6.cell? ⟨p9, 1, none⟩ = some (.slice b5 m5 d5) := cell_at tw6.1 rfl
  have t0b : W6.cell? ⟨p10, 0, none⟩ = some (.slice a6 n6 c6) := cell_at tv6.1 rfl
  have t1b : W6.cell? ⟨p10, 1, none⟩ = some (.slice b6 m6 d6) := cell_at tv6.1 rfl
  have cS := sv_same (HT5.out.2.2.2.2.1.on hB6) (HT5.out.2.2.1.on hB6) HR1.out
  have HT6 : Hid (Bx w #[.slice a1 L.length c1, .slice a2 B.length c2] #[.int .i64 wh, .string (bs nm), .string (bs kn), .slice ao lo1 co, .slice af lf1 cf, .string (bs bn), .string (bs bf), .string (bs bt), .int .i64 mn, .int .i64 mx, .string (bs fn), .int .i64 ft, .bool fm, .bool fk, .int .i64 vt, .int .i64 vn, .string (bs vs), .string (bs tn)] W6 ∧ Two W6 p9 (.slice a5 n5 c5) (.slice b5 m5 d5) ∧ Two W6 p10 (.slice a6 n6 c6) (.slice b6 m6 d6) ∧ p9 < p10) := ⟨HT5.out.1.on hB6, tw6, tv6, HT5.out.2.2.2.2.2⟩
  clear cE hB6 tw6 tv6 HT5
  go_upto_region 9 with (go_at_call 8; refine cS.mono ?_; rintro e W7 ⟨rfl, hB7⟩)
  have HT7 : Hid (Bx w #[.slice a1 L.length c1, .slice a2 B.length c2] #[.int .i64 wh, .string (bs nm), .string (bs kn), .slice ao lo1 co, .slice af lf1 cf, .string (bs bn), .string (bs bf), .string (bs bt), .int .i64 mn, .int .i64 mx, .string (bs fn), .int .i64 ft, .bool fm, .bool fk, .int .i64 vt, .int .i64 vn, .string (bs vs), .string (bs tn)] W7 ∧ Two W7 p9 (.slice a5 n5 c5) (.slice b5 m5 d5) ∧ Two W7 p10 (.slice a6 n6 c6) (.slice b6 m6 d6) ∧ p9 < p10) := ⟨HT6.out.1.on hB7, HT6.out.2.1.on hB7, HT6.out.2.2.1.on hB7, HT6.out.2.2.2⟩
  clear cS hB7 HT6 HR1 t0a t1a t0b t1b
  have s0 : W7.cell? ⟨w.heap.size, 0, none⟩ = some (.slice a1 L.length c1) := cell_at HT7.out.1.2.1 rfl
  have s1 : W7.cell? ⟨w.heap.size, 1, none⟩ = some (.slice a2 B.length c2) := cell_at HT7.out.1.2.1 rfl
  have HN := Lib.hid HT7.out.1.2.2
  go_upto_region 12 with fail
  have cN := HCk.out W7 HT7.out.1.1
  go_upto_region 13 with (first | (refine wpList_load_row rfl 37 (.tmp 4) rfl (w.heap.size + 1) rfl 37 _ (0, 0) _ HN.out Tryz.underlying37 rfl info37 ?_) | (go_at_call 10; refine cN.mono ?_; rintro e W9 ⟨v15, rfl, hS15, hB9⟩))
  have HT9 : Hid (Bx w #[.slice a1 L.length c1, .slice a2 B.length c2] #[.int .i64 wh, .string (bs nm), .string (bs kn), .slice ao lo1 co, .slice af lf1 cf, .string (bs bn), .string (bs bf), .string (bs bt), .int .i64 mn, .int .i64 mx, .string (bs fn), .int .i64 ft, .bool fm, .bool fk, .int .i64 vt, .int .i64 vn, .string (bs vs), .string (bs tn)] W9 ∧ Two W9 p9 (.slice a5 n5 c5) (.slice b5 m5 d5) ∧ Two W9 p10 (.slice a6 n6 c6) (.slice b6 m6 d6) ∧ p9 < p10) := ⟨HT7.out.1.on hB9, HT7.out.2.1.on hB9, HT7.out.2.2.1.on hB9, HT7.out.2.2.2⟩
  have HS9 : Hid (IsS W9 (.slice none 0 0) F ∧ IsS W9 v15 F) := ⟨by rw [← HFF.out]; exact isS_none _, hS15⟩
  clear cN hS15 hB9 HT7 HCk s0 s1 HN
  as_aux_lemma =>
  have cE := HEr.out W9 HT9.out.1.1 (x)
  go_upto_region 14 with (go_at_call 7; refine cE.mono ?_; rintro e W10 ⟨rfl, hB10⟩)
  have HT10 : Hid (Bx w #[.slice a1 L.length c1, .slice a2 B.length c2] #[.int .i64 wh, .string (bs nm), .string (bs kn), .slice ao lo1 co, .slice af lf1 cf, .string (bs bn), .string (bs bf), .string (bs bt), .int .i64 mn, .int .i64 mx, .string (bs fn), .int .i64 ft, .bool fm, .bool fk, .int .i64 vt, .int .i64 vn, .string (bs vs), .string (bs tn)] W10 ∧ Two W10 p9 (.slice a5 n5 c5) (.slice b5 m5 d5) ∧ Two W10 p10 (.slice a6 n6 c6) (.slice b6 m6 d6) ∧ p9 < p10) := ⟨HT9.out.1.on hB10, HT9.out.2.1.on hB10, HT9.out.2.2.1.on hB10, HT9.out.2.2.2⟩
  have cS := texts_same (HS9.out.2.on hB10) (HS9.out.1.on hB10) HLn.out
  clear cE hB10 HT9 HS9
  go_upto_region 15 with (go_at_call 11; refine cS.mono ?_; rintro e W11 ⟨rfl, hB11⟩)
  have HT11 : Hid (Bx w #[.slice a1 L.length c1, .slice a2 B.length c2] #[.int .i64 wh, .string (bs nm), .string (bs kn), .slice ao lo1 co, .slice af lf1 cf, .string (bs bn), .string (bs bf), .string (bs bt), .int .i64 mn, .int .i64 mx, .string (bs fn), .int .i64 ft, .bool fm, .bool fk, .int .i64 vt, .int .i64 vn, .string (bs vs), .string (bs tn)] W11 ∧ Two W11 p9 (.slice a5 n5 c5) (.slice b5 m5 d5) ∧ Two W11 p10 (.slice a6 n6 c6) (.slice b6 m6 d6) ∧ p9 < p10) := ⟨HT10.out.1.on hB11, HT10.out.2.1.on hB11, HT10.out.2.2.1.on hB11, HT10.out.2.2.2⟩
  clear cS hB11 HT10 HLn
  have s0 : W11.cell? ⟨w.heap.size, 0, none⟩ = some (.slice a1 L.length c1) := cell_at HT11.out.1.2.1 rfl
  have s1 : W11.cell? ⟨w.heap.size, 1, none⟩ = some (.slice a2 B.length c2) := cell_at HT11.out.1.2.1 rfl
  have t0a : W11.cell? ⟨p9, 0, none⟩ = some (.slice a5 n5 c5) := cell_at HT11.out.2.1.1 rfl
  have t1a : W11.cell? ⟨p9, 1, none⟩ = some (.slice b5 m5 d5) := cell_at HT11.out.2.1.1 rfl
  have f0a : W11.frozen? ⟨p9, 0, none⟩ = false := frz_at HT11.out.2.1.1
  have f1a : W11.frozen? ⟨p9, 1, none⟩ = false := frz_at HT11.out.2.1.1
  obtain ⟨g1, g2⟩ := two_set (x := .slice a1 L.length c1) (y := .slice a2 B.length c2) HT11.out.2.1.1
  have bx12 := HT11.out.1.two hp9 (.slice a1 L.length c1) (.slice a2 B.length c2)
  have hI0 : (40 < l.length → LwI w #[.slice a1 L.length c1, .slice a2 B.length c2] #[.int .i64 wh, .string (bs nm), .string (bs kn), .slice ao lo1 co, .slice af lf1 cf, .string (bs bn), .string (bs bf), .string (bs bt), .int .i64 mn, .int .i64 mx, .string (bs fn), .int .i64 ft, .bool fm, .bool fk, .int .i64 vt, .int .i64 vn, .string (bs vs), .string (bs tn)] p9 p10 L B l 0 4 ((W11.setCell ⟨p9, 0, none⟩ (.slice a1 L.length c1)).setCell ⟨p9, 1, none⟩ (.slice a2 B.length c2))) ∧ (¬ 40 < l.length → LwI w #[.slice a1 L.length c1, .slice a2 B.length c2] #[.int .i64 wh, .string (bs nm), .string (bs kn), .slice ao lo1 co, .slice af lf1 cf, .string (bs bn), .string (bs bf), .string (bs bt), .int .i64 mn, .int .i64 mx, .string (bs fn), .int .i64 ft, .bool fm, .bool fk, .int .i64 vt, .int .i64 vn, .string (bs vs), .string (bs tn)] p9 p10 L B l 0 (0) ((W11.setCell ⟨p9, 0, none⟩ (.slice a1 L.length c1)).setCell ⟨p9, 1, none⟩ (.slice a2 B.length c2))) := ⟨fun h40 => ⟨bx12, ⟨_, _, HT11.out.2.2.1.oth (Nat.ne_of_gt HT11.out.2.2.2) g2⟩, _, _, L, B, ⟨g1, ⟨_, _, _, rfl⟩, ⟨_, _, _, rfl⟩⟩, fun h => absurd h (by decide), fun _ => HSt.out.1 h40⟩, fun h40 => ⟨bx12, ⟨_, _, HT11.out.2.2.1.oth (Nat.ne_of_gt HT11.out.2.2.2) g2⟩, _, _, L, B, ⟨g1, ⟨_, _, _, rfl⟩, ⟨_, _, _, rfl⟩⟩, fun _ => ⟨HSt.out.2 h40, HE0.out, HSz.out.1, HSz.out.2.1, HSv.out _ bx12.1⟩, fun h => absurd rfl h⟩⟩
  have HI0 := Lib.hid hI0
  have hp10 : p9 < p10 := HT11.out.2.2.2
  clear hI0 g1 g2 bx12 HT11
  go_upto_region 17 with fail
  clear s0 s1 t0a t1a f0a f1a
  generalize (W11.setCell ⟨p9, 0, none⟩ (.slice a1 L.length c1)).setCell ⟨p9, 1, none⟩ (.slice a2 B.length c2) = W12 at HI0 ⊢
  unfold maxLen at hlm
  by_cases h41 : (40 : Int) < (l.length : Int)
  all_goals
    as_aux_lemma =>
    go_wp2
    go_loopw [7, 18] (fun s7 s18 wr => ∃ (k : Nat) (e : Int), k ≤ l.length ∧ s18 = .int .i64 k ∧ s7 = .int .i64 e ∧ LwI w #[.slice a1 L.length c1, .slice a2 B.length c2] #[.int .i64 wh, .string (bs nm), .string (bs kn), .slice ao lo1 co, .slice af lf1 cf, .string (bs bn), .string (bs bf), .string (bs bt), .int .i64 mn, .int .i64 mx, .string (bs fn), .int .i64 ft, .bool fm, .bool fk, .int .i64 vt, .int .i64 vn, .string (bs vs), .string (bs tn)] p9 p10 L B l k e wr) (fun s7 s18 _ => 2 * (l.length - (intOf s18).toNat) + (if intOf s7 = 0 then 1 else 0))
    case atStart => first | exact ⟨0, 4, Nat.zero_le _, rfl, rfl, HI0.out.1 (by omega)⟩ | exact ⟨0, 0, Nat.zero_le _, rfl, rfl, HI0.out.2 (by omega)⟩
    case round =>
      clear HI0
      obtain ⟨k, e, hk, rfl, rfl, hI⟩ := hrel
      have HI := Lib.hid hI
      clear hI
      by_cases hgo : k < l.length ∧ e = 0
      · as_aux_lemma =>
        obtain ⟨hlt, rfl⟩ := hgo
        have hki : (k : Int) < (l.length : Int) := by omega
        obtain ⟨bxr, ⟨x10, y10, tvr⟩, uk, ub, Lk, Bk, twr, hyes, _⟩ := HI.out
        obtain ⟨g1, g2, g3, g4, g5⟩ := hyes rfl
        obtain ⟨hu, ⟨e1, e2, e3, rfl⟩, ⟨e4, e5, e6, rfl⟩⟩ := twr
        obtain ⟨ck, hck⟩ : ∃ ck, l[k]? = some ck := ⟨l[k], by simp [hlt]⟩
        have hckz := HSz.out.2.2 ck (List.mem_of_getElem? hck)
        obtain ⟨bl, ol, eal, hbl, hlies⟩ : ∃ b off, al = some ⟨b, off, none⟩ ∧ b < w.heap.size ∧ LiesC w b off l := by
          rcases HL.out with h | h
          · rw [h] at hlt; simp at hlt
          · exact h
        subst eal
        obtain ⟨hcel, hcis⟩ := hlies k ck hck
        have HD : Hid (∀ W, Below wr.heap.size wr W → Calls Tryz.prog 5 #[.agg #[.slice e1 e2 e3, .slice e4 e5 e6], ck.one] W fun e w' => ∃ a n c' b m d, e = .returned (.tuple #[.agg #[.slice a n c', .slice b m d], .int .i64 (apE Lk Bk ck)]) ∧ Sv w' (.slice a n c') (.slice b m d) (if apE Lk Bk ck = 0 then cK Lk ck else []) (if apE Lk Bk ck = 0 then cB Bk ck else []) ∧ Below W.heap.size W w') := fun W h => rchange_sv ck (g5.on h) g3 g4 g2 (hcis.on (on1K bxr.1 h (Nat.le_refl _))) hckz
        have HX2 : Hid ((apE Lk Bk ck = 0 → allA L B l = goC (l.drop (k + 1)) (k + 1) (cK Lk ck) (cB Bk ck) ∧ (sErr (cK Lk ck) (cB Bk ck)).2 = 0 ∧ SzK (cK Lk ck) ∧ SzB (cB Bk ck)) ∧ (¬ apE Lk Bk ck = 0 → allA L B l = (apE Lk Bk ck, k, [], []))) := ⟨fun h => ⟨g1.trans (goC_step hck h), apE_right h, sz_cK g3 ck hckz, sz_cB g4 ck hckz⟩, fun h => g1.trans (goC_stop hck h)⟩
        have hcel2 : ∀ j v, ck.cells[j]? = some v → wr.cell? ⟨bl, ol + k * 18 + j, none⟩ = some v := fun j v hj => (bxr.1.cell (p := ⟨bl, ol + k * 18 + j, none⟩) hbl).trans (hcel j v hj)
        have hblr : bl < wr.heap.size := Nat.lt_of_lt_of_le hbl bxr.1.size
        have hp9r : p9 < wr.heap.size := (Array.getElem?_eq_some_iff.1 hu).1
        have HTr : Hid (Bx w #[.slice a1 L.length c1, .slice a2 B.length c2] #[.int .i64 wh, .string (bs nm), .string (bs kn), .slice ao lo1 co, .slice af lf1 cf, .string (bs bn), .string (bs bf), .string (bs bt), .int .i64 mn, .int .i64 mx, .string (bs fn), .int .i64 ft, .bool fm, .bool fk, .int .i64 vt, .int .i64 vn, .string (bs vs), .string (bs tn)] wr ∧ Two wr p10 x10 y10 ∧ Two wr p9 (.slice e1 e2 e3) (.slice e4 e5 e6)) := ⟨bxr, tvr, hu, ⟨_, _, _, rfl⟩, ⟨_, _, _, rfl⟩⟩
        obtain ⟨whz, nmz, ⟨knz, koz, kfz, voz, vfz⟩, ⟨bnz, bfz, btz, mnz, mxz⟩, ⟨fnz, ftz, fmz, fkz⟩, vtz, vnz, vsz, tnz⟩ := ck
        obtain ⟨aoz, lo1z, coz, q1⟩ := hcis.1.sl
        obtain ⟨afz, lf1z, cfz, q2⟩ := hcis.2.sl
        simp only at q1 q2
        subst q1 q2
        generalize hx2 : apE Lk Bk (⟨whz, nmz, ⟨knz, koz, kfz, .slice aoz lo1z coz, .slice afz lf1z cfz⟩, ⟨bnz, bfz, btz, mnz, mxz⟩, ⟨fnz, ftz, fmz, fkz⟩, vtz, vnz, vsz, tnz⟩ : Ch) = x2 at HD HX2
        generalize (cK Lk (⟨whz, nmz, ⟨knz, koz, kfz, .slice aoz lo1z coz, .slice afz lf1z cfz⟩, ⟨bnz, bfz, btz, mnz, mxz⟩, ⟨fnz, ftz, fmz, fkz⟩, vtz, vnz, vsz, tnz⟩ : Ch)) = K2 at HD HX2
        generalize (cB Bk (⟨whz, nmz, ⟨knz, koz, kfz, .slice aoz lo1z coz, .slice afz lf1z cfz⟩, ⟨bnz, bfz, btz, mnz, mxz⟩, ⟨fnz, ftz, fmz, fkz⟩, vtz, vnz, vsz, tnz⟩ : Ch)) = B2 at HD HX2
        have hc1 : (⟨whz, nmz, ⟨knz, koz, kfz, .slice aoz lo1z coz, .slice afz lf1z cfz⟩, ⟨bnz, bfz, btz, mnz, mxz⟩, ⟨fnz, ftz, fmz, fkz⟩, vtz, vnz, vsz, tnz⟩ : Ch).one = .agg #[.int .i64 whz, .string (bs nmz), .string (bs knz), .slice aoz lo1z coz, .slice afz lf1z cfz, .string (bs bnz), .string (bs bfz), .string (bs btz), .int .i64 mnz, .int .i64 mxz, .string (bs fnz), .int .i64 ftz, .bool fmz, .bool fkz, .int .i64 vtz, .int .i64 vnz, .string (bs vsz), .string (bs tnz)] := rfl
        rw [hc1] at HD
        clear hc1 hx2
        have u0 : wr.cell? ⟨p9, 0, none⟩ = some (.slice e1 e2 e3) := cell_at hu rfl
        have u1 : wr.cell? ⟨p9, 1, none⟩ = some (.slice e4 e5 e6) := cell_at hu rfl
        have u2 : ∀ o, (wr.alloc o).cell? ⟨p9, 0, none⟩ = some (.slice e1 e2 e3) := fun o => ((b_alloc (Below.refl _ wr) o).cell (p := ⟨p9, 0, none⟩) hp9r).trans u0
        have u3 : ∀ o, (wr.alloc o).cell? ⟨p9, 1, none⟩ = some (.slice e4 e5 e6) := fun o => ((b_alloc (Below.refl _ wr) o).cell (p := ⟨p9, 1, none⟩) hp9r).trans u1
        have hn1 : ¬ p9 = wr.heap.size := by omega
        have hn2 : ¬ bl = wr.heap.size := by omega
        have hn5 : ¬ wr.heap.size = p9 := by omega
        have hn6 : ¬ wr.heap.size = bl := by omega
        have z0 : wr.cell? ⟨bl, ol + k * 18, none⟩ = some (.int .i64 whz) := hcel2 0 _ rfl
        have z1 : wr.cell? ⟨bl, ol + k * 18 + 1, none⟩ = some (.string (bs nmz)) := hcel2 1 _ rfl
        have z2 : wr.cell? ⟨bl, ol + k * 18 + 2, none⟩ = some (.string (bs knz)) := hcel2 2 _ rfl
        have z3 : wr.cell? ⟨bl, ol + k * 18 + 3, none⟩ = some (.slice aoz lo1z coz) := hcel2 3 _ rfl
        have z4 : wr.cell? ⟨bl, ol + k * 18 + 4, none⟩ = some (.slice afz lf1z cfz) := hcel2 4 _ rfl
        have z5 : wr.cell? ⟨bl, ol + k * 18 + 5, none⟩ = some (.string (bs bnz)) := hcel2 5 _ rfl
        have z6 : wr.cell? ⟨bl, ol + k * 18 + 6, none⟩ = some (.string (bs bfz)) := hcel2 6 _ rfl
        have z7 : wr.cell? ⟨bl, ol + k * 18 + 7, none⟩ = some (.string (bs btz)) := hcel2 7 _ rfl
        have z8 : wr.cell? ⟨bl, ol + k * 18 + 8, none⟩ = some (.int .i64 mnz) := hcel2 8 _ rfl
        have z9 : wr.cell? ⟨bl, ol + k * 18 + 9, none⟩ = some (.int .i64 mxz) := hcel2 9 _ rfl
        have z10 : wr.cell? ⟨bl, ol + k * 18 + 10, none⟩ = some (.string (bs fnz)) := hcel2 10 _ rfl
        have z11 : wr.cell? ⟨bl, ol + k * 18 + 11, none⟩ = some (.int .i64 ftz) := hcel2 11 _ rfl
        have z12 : wr.cell? ⟨bl, ol + k * 18 + 12, none⟩ = some (.bool fmz) := hcel2 12 _ rfl
        have z13 : wr.cell? ⟨bl, ol + k * 18 + 13, none⟩ = some (.bool fkz) := hcel2 13 _ rfl
        have z14 : wr.cell? ⟨bl, ol + k * 18 + 14, none⟩ = some (.int .i64 vtz) := hcel2 14 _ rfl
        have z15 : wr.cell? ⟨bl, ol + k * 18 + 15, none⟩ = some (.int .i64 vnz) := hcel2 15 _ rfl
        have z16 : wr.cell? ⟨bl, ol + k * 18 + 16, none⟩ = some (.string (bs vsz)) := hcel2 16 _ rfl
        have z17 : wr.cell? ⟨bl, ol + k * 18 + 17, none⟩ = some (.string (bs tnz)) := hcel2 17 _ rfl
        have HC : Hid (∀ W, Below wr.heap.size wr W → W.cell? ⟨p9, 0, none⟩ = some (.slice e1 e2 e3) ∧ W.cell? ⟨p9, 1, none⟩ = some (.slice e4 e5 e6) ∧ W.cell? ⟨bl, ol + k * 18, none⟩ = some (.int .i64 whz) ∧ W.cell? ⟨bl, ol + k * 18 + 1, none⟩ = some (.string (bs nmz)) ∧ W.cell? ⟨bl, ol + k * 18 + 2, none⟩ = some (.string (bs knz)) ∧ W.cell? ⟨bl, ol + k * 18 + 3, none⟩ = some (.slice aoz lo1z coz) ∧ W.cell? ⟨bl, ol + k * 18 + 4, none⟩ = some (.slice afz lf1z cfz) ∧ W.cell? ⟨bl, ol + k * 18 + 5, none⟩ = some (.string (bs bnz)) ∧ W.cell? ⟨bl, ol + k * 18 + 6, none⟩ = some (.string (bs bfz)) ∧ W.cell? ⟨bl, ol + k * 18 + 7, none⟩ = some (.string (bs btz)) ∧ W.cell? ⟨bl, ol + k * 18 + 8, none⟩ = some (.int .i64 mnz) ∧ W.cell? ⟨bl, ol + k * 18 + 9, none⟩ = some (.int .i64 mxz) ∧ W.cell? ⟨bl, ol + k * 18 + 10, none⟩ = some (.string (bs fnz)) ∧ W.cell? ⟨bl, ol + k * 18 + 11, none⟩ = some (.int .i64 ftz) ∧ W.cell? ⟨bl, ol + k * 18 + 12, none⟩ = some (.bool fmz) ∧ W.cell? ⟨bl, ol + k * 18 + 13, none⟩ = some (.bool fkz) ∧ W.cell? ⟨bl, ol + k * 18 + 14, none⟩ = some (.int .i64 vtz) ∧ W.cell? ⟨bl, ol + k * 18 + 15, none⟩ = some (.int .i64 vnz) ∧ W.cell? ⟨bl, ol + k * 18 + 16, none⟩ = some (.string (bs vsz)) ∧ W.cell? ⟨bl, ol + k * 18 + 17, none⟩ = some (.string (bs tnz))) := fun W h => ⟨(h.cell (p := ⟨p9, 0, none⟩) hp9r).trans u0, (h.cell (p := ⟨p9, 1, none⟩) hp9r).trans u1, (h.cell (p := ⟨bl, ol + k * 18, none⟩) hblr).trans z0, (h.cell (p := ⟨bl, ol + k * 18 + 1, none⟩) hblr).trans z1, (h.cell (p := ⟨bl, ol + k * 18 + 2, none⟩) hblr).trans z2, (h.cell (p := ⟨bl, ol + k * 18 + 3, none⟩) hblr).trans z3, (h.cell (p := ⟨bl, ol + k * 18 + 4, none⟩) hblr).trans z4, (h.cell (p := ⟨bl, ol + k * 18 + 5, none⟩) hblr).trans z5, (h.cell (p := ⟨bl, ol + k * 18 + 6, none⟩) hblr).trans z6, (h.cell (p := ⟨bl, ol + k * 18 + 7, none⟩) hblr).trans z7, (h.cell (p := ⟨bl, ol + k * 18 + 8, none⟩) hblr).trans z8, (h.cell (p := ⟨bl, ol + k * 18 + 9, none⟩) hblr).trans z9, (h.cell (p := ⟨bl, ol + k * 18 + 10, none⟩) hblr).trans z10, (h.cell (p := ⟨bl, ol + k * 18 + 11, none⟩) hblr).trans z11, (h.cell (p := ⟨bl, ol + k * 18 + 12, none⟩) hblr).trans z12, (h.cell (p := ⟨bl, ol + k * 18 + 13, none⟩) hblr).trans z13, (h.cell (p := ⟨bl, ol + k * 18 + 14, none⟩) hblr).trans z14, (h.cell (p := ⟨bl, ol + k * 18 + 15, none⟩) hblr).trans z15, (h.cell (p := ⟨bl, ol + k * 18 + 16, none⟩) hblr).trans z16, (h.cell (p := ⟨bl, ol + k * 18 + 17, none⟩) hblr).trans z17⟩
        clear g1 g2 g3 g4 g5 hck hckz hcel hcis hlies hbl hu bxr tvr hyes hcel2
        go_upto_region 20 with fail
        go_cut [19, 20] (fun s19 s20 wx => LwC wr (if x2 = 0 then K2 else []) (if x2 = 0 then B2 else []) x2 s19 s20 wx)
        case first =>
          as_aux_lemma =>
          first | (go_region_held (fun w' => w'.cell? ⟨p9, 0, none⟩ = some (.slice e1 e2 e3) ∧ w'.cell? ⟨p9, 1, none⟩ = some (.slice e4 e5 e6) ∧ w'.cell? ⟨bl, ol + k * 18, none⟩ = some (.int .i64 whz) ∧ w'.cell? ⟨bl, ol + k * 18 + 1, none⟩ = some (.string (bs nmz)) ∧ w'.cell? ⟨bl, ol + k * 18 + 2, none⟩ = some (.string (bs knz)) ∧ w'.cell? ⟨bl, ol + k * 18 + 3, none⟩ = some (.slice aoz lo1z coz) ∧ w'.cell? ⟨bl, ol + k * 18 + 4, none⟩ = some (.slice afz lf1z cfz) ∧ w'.cell? ⟨bl, ol + k * 18 + 5, none⟩ = some (.string (bs bnz)) ∧ w'.cell? ⟨bl, ol + k * 18 + 6, none⟩ = some (.string (bs bfz)) ∧ w'.cell? ⟨bl, ol + k * 18 + 7, none⟩ = some (.string (bs btz)) ∧ w'.cell? ⟨bl, ol + k * 18 + 8, none⟩ = some (.int .i64 mnz) ∧ w'.cell? ⟨bl, ol + k * 18 + 9, none⟩ = some (.int .i64 mxz) ∧ w'.cell? ⟨bl, ol + k * 18 + 10, none⟩ = some (.string (bs fnz)) ∧ w'.cell? ⟨bl, ol + k * 18 + 11, none⟩ = some (.int .i64 ftz) ∧ w'.cell? ⟨bl, ol + k * 18 + 12, none⟩ = some (.bool fmz) ∧ w'.cell? ⟨bl, ol + k * 18 + 13, none⟩ = some (.bool fkz) ∧ w'.cell? ⟨bl, ol + k * 18 + 14, none⟩ = some (.int .i64 vtz) ∧ w'.cell? ⟨bl, ol + k * 18 + 15, none⟩ = some (.int .i64 vnz) ∧ w'.cell? ⟨bl, ol + k * 18 + 16, none⟩ = some (.string (bs vsz)) ∧ w'.cell? ⟨bl, ol + k * 18 + 17, none⟩ = some (.string (bs tnz))) (go_keep) (first | (go_at_call 5; refine (HD.out _ (by first | exact (Below.refl _ wr).drew | exact b_alloc (Below.refl _ wr).drew _)).mono ?_; rintro e W2 ⟨a7, n7, c7, b7, m7, d7, rfl, hS7, hB2'⟩; have hb2 : Hid (Below wr.heap.size wr W2) := on1K (by first | exact (Below.refl _ wr).drew | exact b_alloc (Below.refl _ wr).drew _) hB2' (Nat.le_refl _); (try (have kb : W2.heap[wr.heap.size]? = some (.cells #[.slice none 0 0, .slice none 0 0] 25 (0, 0)) := (hB2'.block _ (by simp)).trans (heap_alloc_new wr.drew _); have y5 : W2.cell? ⟨wr.heap.size, 0, none⟩ = some (.slice none 0 0) := cell_at kb rfl; have y6 : W2.cell? ⟨wr.heap.size, 1, none⟩ = some (.slice none 0 0) := cell_at kb rfl; have f5 : W2.frozen? ⟨wr.heap.size, 0, none⟩ = false := frz_at kb; have f6 : W2.frozen? ⟨wr.heap.size, 1, none⟩ = false := frz_at kb; replace kb := Lib.hid kb)); obtain ⟨q0, q1, r0, r1, r2, r3, r4, r5, r6, r7, r8, r9, r10, r11, r12, r13, r14, r15, r16, r17⟩ := HC.out W2 hb2.out; have hn3 : ¬ p9 = W2.heap.size := (by have := hb2.out.size; omega); have hn4 : ¬ bl = W2.heap.size := (by have := hb2.out.size; omega); have HO := Lib.hid hS7; clear hS7 hB2'))) | fail
          all_goals
            go_wp2
            go_meet
            first
              | exact lwC_alloc hb2.out HO.out
              | exact lwC_set (Nat.le_refl _) kb.out hb2.out HO.out
        case rest =>
        obtain ⟨p, un, ut, rfl, rfl, hp, twp, hSp, hBp⟩ := hcut
        obtain ⟨hup, ⟨i1, i2, i3, rfl⟩, ⟨i4, i5, i6, rfl⟩⟩ := twp
        have v0 : wc.cell? ⟨p, 0, none⟩ = some (.slice i1 i2 i3) := cell_at hup rfl
        have v1 : wc.cell? ⟨p, 1, none⟩ = some (.slice i4 i5 i6) := cell_at hup rfl
        have tw9 := HTr.out.2.2.on hBp
        have o0 := cell_at (i := 0) tw9.1 rfl
        have o1 := cell_at (i := 1) tw9.1 rfl
        have o2 := frz_at (i := 0) tw9.1
        have o3 := frz_at (i := 1) tw9.1
        clear HD u0 u1 u2 u3 hn1 hn2 hn5 hn6 z0 z1 z2 z3 z4 z5 z6 z7 z8 z9 z10 z11 z12 z13 z14 z15 z16 z17 HC
        by_cases hx2 : x2 = 0
        · as_aux_lemma =>
          subst hx2
          obtain ⟨j1, j2, j3, j4⟩ := HX2.out.1 rfl
          rw [if_pos rfl, if_pos rfl] at hSp
          obtain ⟨g1, g2⟩ := two_set (x := .slice i1 i2 i3) (y := .slice i4 i5 i6) tw9.1
          have hR : LwI w #[.slice a1 L.length c1, .slice a2 B.length c2] #[.int .i64 wh, .string (bs nm), .string (bs kn), .slice ao lo1 co, .slice af lf1 cf, .string (bs bn), .string (bs bf), .string (bs bt), .int .i64 mn, .int .i64 mx, .string (bs fn), .int .i64 ft, .bool fm, .bool fk, .int .i64 vt, .int .i64 vn, .string (bs vs), .string (bs tn)] p9 p10 L B l (k + 1) 0 ((wc.setCell ⟨p9, 0, none⟩ (.slice i1 i2 i3)).setCell ⟨p9, 1, none⟩ (.slice i4 i5 i6)) := ⟨(HTr.out.1.on hBp).two hp9 _ _, ⟨_, _, (HTr.out.2.1.on hBp).oth (Nat.ne_of_gt hp10) g2⟩, _, _, K2, B2, ⟨g1, ⟨_, _, _, rfl⟩, ⟨_, _, _, rfl⟩⟩, fun _ => ⟨j1, j2, j3, j4, hSp.oth tw9.sl g2⟩, fun h => absurd rfl h⟩
          have HR := Lib.hid hR
          clear hR g1 g2 j1 j2 j3 j4 hSp tw9 HX2 HTr HI hup hBp
          go_wp2
          refine ⟨?_, ?_⟩
          · first | exact ⟨k + 1, 0, by omega, by go_num, rfl, HR.out⟩ | ((repeat apply Exists.intro); refine ⟨?_, rfl⟩; exact ⟨k + 1, 0, by omega, by go_num, rfl, HR.out⟩)
          · simp [intOf]
            try omega
        · as_aux_lemma =>
          have hR : LwI w #[.slice a1 L.length c1, .slice a2 B.length c2] #[.int .i64 wh, .string (bs nm), .string (bs kn), .slice ao lo1 co, .slice af lf1 cf, .string (bs bn), .string (bs bf), .string (bs bt), .int .i64 mn, .int .i64 mx, .string (bs fn), .int .i64 ft, .bool fm, .bool fk, .int .i64 vt, .int .i64 vn, .string (bs vs), .string (bs tn)] p9 p10 L B l k x2 wc := ⟨HTr.out.1.on hBp, ⟨_, _, HTr.out.2.1.on hBp⟩, _, _, [], [], tw9, fun h => absurd h hx2, fun _ => HX2.out.2 hx2⟩
          have HR := Lib.hid hR
          clear hR hSp tw9 HX2 HTr HI hup hBp
          go_wp2
          refine ⟨?_, ?_⟩
          · first | exact ⟨k, x2, by omega, by go_num, rfl, HR.out⟩ | ((repeat apply Exists.intro); refine ⟨?_, rfl⟩; exact ⟨k, x2, by omega, by go_num, rfl, HR.out⟩)
          · simp [intOf, hx2]
      · as_aux_lemma =>
        obtain ⟨bxr, ⟨x10, y10, tvr⟩, uk, ub, Lk, Bk, twr, hyes, hno⟩ := HI.out
        obtain ⟨hu, ⟨e1, e2, e3, rfl⟩, ⟨e4, e5, e6, rfl⟩⟩ := twr
        by_cases he : e = 0
        · as_aux_lemma =>
          subst he
          obtain ⟨g1, g2, g3, g4, g5⟩ := hyes rfl
          have hkl : k = l.length := by
            have : ¬ k < l.length := fun h => hgo ⟨h, rfl⟩
            omega
          have hr : allA L B l = (0, 0, Lk, Bk) := g1.trans (goC_end (by omega))
          have hki : ¬ (k : Int) < (l.length : Int) := by omega
          have cA : Calls Tryz.prog 12 #[.agg #[.slice a1 L.length c1, .slice a2 B.length c2], .slice al l.length cl] wr fun e w' => ∃ a n c' b m d, e = .returned (.tuple #[.agg #[.slice a n c', .slice b m d], .int .i64 0, errV 0]) ∧ Sv w' (.slice a n c') (.slice b m d) Lk Bk ∧ Below wr.heap.size wr w' := by
            have := HAl.out wr bxr.1
            rw [hr] at this
            exact this
          have HRk : Hid ((sErr Lk Bk).2 = 0) := g2
          have HQ : Hid (Bx w #[.slice a1 L.length c1, .slice a2 B.length c2] #[.int .i64 wh, .string (bs nm), .string (bs kn), .slice ao lo1 co, .slice af lf1 cf, .string (bs bn), .string (bs bf), .string (bs bt), .int .i64 mn, .int .i64 mx, .string (bs fn), .int .i64 ft, .bool fm, .bool fk, .int .i64 vt, .int .i64 vn, .string (bs vs), .string (bs tn)] wr ∧ Two wr p9 (.slice e1 e2 e3) (.slice e4 e5 e6) ∧ Two wr p10 x10 y10 ∧ Sv wr (.slice e1 e2 e3) (.slice e4 e5 e6) Lk Bk) := ⟨bxr, ⟨hu, ⟨_, _, _, rfl⟩, ⟨_, _, _, rfl⟩⟩, tvr, g5⟩
          clear g1 g2 g3 g4 g5 hr hyes hno hu bxr tvr HI hgo
          go_upto_region 28 with fail
          have s0 : wr.cell? ⟨w.heap.size, 0, none⟩ = some (.slice a1 L.length c1) := cell_at HQ.out.1.2.1 rfl
          have s1 : wr.cell? ⟨w.heap.size, 1, none⟩ = some (.slice a2 B.length c2) := cell_at HQ.out.1.2.1 rfl
          go_upto_region 29 with (go_at_call 12; refine cA.mono ?_; rintro e' W20 ⟨a8, n8, c8, b8, m8, d8, rfl, hS8, hB20⟩; have tv := HQ.out.2.2.1.on hB20; obtain ⟨tvh, ⟨j1, j2, j3, ej1⟩, ⟨j4, j5, j6, ej2⟩⟩ := tv; subst ej1 ej2; have y0 := cell_at (i := 0) tvh rfl; have y1 := cell_at (i := 1) tvh rfl; have y2 := frz_at (i := 0) tvh; have y3 := frz_at (i := 1) tvh; have HY : Hid (Two W20 p10 (.slice j1 j2 j3) (.slice j4 j5 j6) ∧ Sv W20 (.slice a8 n8 c8) (.slice b8 m8 d8) Lk Bk ∧ Bx w #[.slice a1 L.length c1, .slice a2 B.length c2] #[.int .i64 wh, .string (bs nm), .string (bs kn), .slice ao lo1 co, .slice af lf1 cf, .string (bs bn), .string (bs bf), .string (bs bt), .int .i64 mn, .int .i64 mx, .string (bs fn), .int .i64 ft, .bool fm, .bool fk, .int .i64 vt, .int .i64 vn, .string (bs vs), .string (bs tn)] W20 ∧ Two W20 p9 (.slice e1 e2 e3) (.slice e4 e5 e6) ∧ Sv W20 (.slice e1 e2 e3) (.slice e4 e5 e6) Lk Bk) := ⟨⟨tvh, ⟨_, _, _, rfl⟩, ⟨_, _, _, rfl⟩⟩, hS8, HQ.out.1.on hB20, HQ.out.2.1.on hB20, HQ.out.2.2.2.on hB20⟩; clear tvh hS8 hB20)
          obtain ⟨g1, g2⟩ := two_set (x := .slice a8 n8 c8) (y := .slice b8 m8 d8) HY.out.1.1
          have hp10w : w.heap.size + 2 ≤ p10 := by omega
          have HY2 : Hid (Bx w #[.slice a1 L.length c1, .slice a2 B.length c2] #[.int .i64 wh, .string (bs nm), .string (bs kn), .slice ao lo1 co, .slice af lf1 cf, .string (bs bn), .string (bs bf), .string (bs bt), .int .i64 mn, .int .i64 mx, .string (bs fn), .int .i64 ft, .bool fm, .bool fk, .int .i64 vt, .int .i64 vn, .string (bs vs), .string (bs tn)] ((W20.setCell ⟨p10, 0, none⟩ (.slice a8 n8 c8)).setCell ⟨p10, 1, none⟩ (.slice b8 m8 d8)) ∧ Two ((W20.setCell ⟨p10, 0, none⟩ (.slice a8 n8 c8)).setCell ⟨p10, 1, none⟩ (.slice b8 m8 d8)) p10 (.slice a8 n8 c8) (.slice b8 m8 d8) ∧ Sv ((W20.setCell ⟨p10, 0, none⟩ (.slice a8 n8 c8)).setCell ⟨p10, 1, none⟩ (.slice b8 m8 d8)) (.slice a8 n8 c8) (.slice b8 m8 d8) Lk Bk ∧ Two ((W20.setCell ⟨p10, 0, none⟩ (.slice a8 n8 c8)).setCell ⟨p10, 1, none⟩ (.slice b8 m8 d8)) p9 (.slice e1 e2 e3) (.slice e4 e5 e6) ∧ Sv ((W20.setCell ⟨p10, 0, none⟩ (.slice a8 n8 c8)).setCell ⟨p10, 1, none⟩ (.slice b8 m8 d8)) (.slice e1 e2 e3) (.slice e4 e5 e6) Lk Bk) := ⟨HY.out.2.2.1.two hp10w _ _, ⟨g1, ⟨_, _, _, rfl⟩, ⟨_, _, _, rfl⟩⟩, HY.out.2.1.oth HY.out.1.sl g2, HY.out.2.2.2.1.oth (Nat.ne_of_lt hp10) g2, HY.out.2.2.2.2.oth HY.out.1.sl g2⟩
          clear cA HQ HY g1 g2 y0 y1 y2 y3 s0 s1
          generalize (W20.setCell ⟨p10, 0, none⟩ (.slice a8 n8 c8)).setCell ⟨p10, 1, none⟩ (.slice b8 m8 d8) = W21 at HY2 ⊢
          have cE := HEr.out W21 HY2.out.1.1 (0)
          go_upto_region 30 with (go_at_call 7; refine cE.mono ?_; rintro e' W22 ⟨rfl, hB22⟩)
          have tva := HY2.out.2.1.on hB22
          have twa := HY2.out.2.2.2.1.on hB22
          have z0 := cell_at (i := 0) tva.1 rfl
          have z1 := cell_at (i := 1) tva.1 rfl
          have z2 := cell_at (i := 0) twa.1 rfl
          have z3 := cell_at (i := 1) twa.1 rfl
          have cS := sv_same (HY2.out.2.2.1.on hB22) (HY2.out.2.2.2.2.on hB22) HRk.out
          have HB22 := Lib.hid (HY2.out.1.on hB22).1
          clear cE HY2 tva twa hB22
          go_wp2_with (go_at_call 8; refine cS.mono ?_; rintro e' W23 ⟨rfl, hB23⟩)
          go_ret
          exact ⟨rfl, on1K HB22.out hB23 (Nat.le_refl _)⟩
        · as_aux_lemma =>
          have hr : allA L B l = (e, k, [], []) := hno he
          have cA : ∀ W, Below w.heap.size w W → Calls Tryz.prog 12 #[.agg #[.slice a1 L.length c1, .slice a2 B.length c2], .slice al l.length cl] W fun e' w' => ∃ a n c' b m d, e' = .returned (.tuple #[.agg #[.slice a n c', .slice b m d], .int .i64 (k : Int), errV e]) ∧ Sv w' (.slice a n c') (.slice b m d) [] [] ∧ Below W.heap.size W w' := fun W h => by
            have := HAl.out W h
            rw [hr] at this
            exact this
          have hp9r : p9 < wr.heap.size := (Array.getElem?_eq_some_iff.1 hu).1
          have o0 := cell_at (i := 0) hu rfl
          have o1 := cell_at (i := 1) hu rfl
          have o2 := frz_at (i := 0) hu
          have o3 := frz_at (i := 1) hu
          obtain ⟨g1, g2⟩ := two_set (x := .slice none 0 0) (y := .slice none 0 0) hu
          have HQ0 : Hid (Bx w #[.slice a1 L.length c1, .slice a2 B.length c2] #[.int .i64 wh, .string (bs nm), .string (bs kn), .slice ao lo1 co, .slice af lf1 cf, .string (bs bn), .string (bs bf), .string (bs bt), .int .i64 mn, .int .i64 mx, .string (bs fn), .int .i64 ft, .bool fm, .bool fk, .int .i64 vt, .int .i64 vn, .string (bs vs), .string (bs tn)] ((wr.setCell ⟨p9, 0, none⟩ (.slice none 0 0)).setCell ⟨p9, 1, none⟩ (.slice none 0 0)) ∧ Two ((wr.setCell ⟨p9, 0, none⟩ (.slice none 0 0)).setCell ⟨p9, 1, none⟩ (.slice none 0 0)) p9 (.slice none 0 0) (.slice none 0 0) ∧ Two ((wr.setCell ⟨p9, 0, none⟩ (.slice none 0 0)).setCell ⟨p9, 1, none⟩ (.slice none 0 0)) p10 x10 y10) := ⟨bxr.two hp9 _ _, ⟨g1, ⟨_, _, _, rfl⟩, ⟨_, _, _, rfl⟩⟩, tvr.oth (Nat.ne_of_gt hp10) g2⟩
          have HCA := Lib.hid cA
          have HE := Lib.hid he
          have hkk : k ≤ 1000000 ∨ True := .inr trivial
          clear cA hr hyes hno hu bxr tvr HI hgo g1 g2 hp9r
          by_cases hki : (k : Int) < (l.length : Int)
          all_goals
            go_upto_region 28 with fail
            clear o0 o1 o2 o3
            generalize (wr.setCell ⟨p9, 0, none⟩ (.slice none 0 0)).setCell ⟨p9, 1, none⟩ (.slice none 0 0) = wq at HQ0 ⊢
            have cA := HCA.out wq HQ0.out.1.1
            have HRk : Hid ((sErr [] []).2 = 0) := sErr_nil
            have HQ : Hid (Bx w #[.slice a1 L.length c1, .slice a2 B.length c2] #[.int .i64 wh, .string (bs nm), .string (bs kn), .slice ao lo1 co, .slice af lf1 cf, .string (bs bn), .string (bs bf), .string (bs bt), .int .i64 mn, .int .i64 mx, .string (bs fn), .int .i64 ft, .bool fm, .bool fk, .int .i64 vt, .int .i64 vn, .string (bs vs), .string (bs tn)] wq ∧ Two wq p9 (.slice none 0 0) (.slice none 0 0) ∧ Two wq p10 x10 y10 ∧ Sv wq (.slice none 0 0) (.slice none 0 0) [] []) := ⟨HQ0.out.1, HQ0.out.2.1, HQ0.out.2.2, sv_nil _⟩
            have s0 : wq.cell? ⟨w.heap.size, 0, none⟩ = some (.slice a1 L.length c1) := cell_at HQ.out.1.2.1 rfl
            have s1 : wq.cell? ⟨w.heap.size, 1, none⟩ = some (.slice a2 B.length c2) := cell_at HQ.out.1.2.1 rfl
            go_upto_region 29 with (go_at_call 12; refine cA.mono ?_; rintro e' W20 ⟨a8, n8, c8, b8, m8, d8, rfl, hS8, hB20⟩; have tv := HQ.out.2.2.1.on hB20; obtain ⟨tvh, ⟨j1, j2, j3, ej1⟩, ⟨j4, j5, j6, ej2⟩⟩ := tv; subst ej1 ej2; have y0 := cell_at (i := 0) tvh rfl; have y1 := cell_at (i := 1) tvh rfl; have y2 := frz_at (i := 0) tvh; have y3 := frz_at (i := 1) tvh; have HY : Hid (Two W20 p10 (.slice j1 j2 j3) (.slice j4 j5 j6) ∧ Sv W20 (.slice a8 n8 c8) (.slice b8 m8 d8) [] [] ∧ Bx w #[.slice a1 L.length c1, .slice a2 B.length c2] #[.int .i64 wh, .string (bs nm), .string (bs kn), .slice ao lo1 co, .slice af lf1 cf, .string (bs bn), .string (bs bf), .string (bs bt), .int .i64 mn, .int .i64 mx, .string (bs fn), .int .i64 ft, .bool fm, .bool fk, .int .i64 vt, .int .i64 vn, .string (bs vs), .string (bs tn)] W20 ∧ Two W20 p9 (.slice none 0 0) (.slice none 0 0) ∧ Sv W20 (.slice none 0 0) (.slice none 0 0) [] []) := ⟨⟨tvh, ⟨_, _, _, rfl⟩, ⟨_, _, _, rfl⟩⟩, hS8, HQ.out.1.on hB20, HQ.out.2.1.on hB20, HQ.out.2.2.2.on hB20⟩; clear tvh hS8 hB20)
            obtain ⟨g1, g2⟩ := two_set (x := .slice a8 n8 c8) (y := .slice b8 m8 d8) HY.out.1.1
            have hp10w : w.heap.size + 2 ≤ p10 := by omega
            have HY2 : Hid (Bx w #[.slice a1 L.length c1, .slice a2 B.length c2] #[.int .i64 wh, .string (bs nm), .string (bs kn), .slice ao lo1 co, .slice af lf1 cf, .string (bs bn), .string (bs bf), .string (bs bt), .int .i64 mn, .int .i64 mx, .string (bs fn), .int .i64 ft, .bool fm, .bool fk, .int .i64 vt, .int .i64 vn, .string (bs vs), .string (bs tn)] ((W20.setCell ⟨p10, 0, none⟩ (.slice a8 n8 c8)).setCell ⟨p10, 1, none⟩ (.slice b8 m8 d8)) ∧ Two ((W20.setCell ⟨p10, 0, none⟩ (.slice a8 n8 c8)).setCell ⟨p10, 1, none⟩ (.slice b8 m8 d8)) p10 (.slice a8 n8 c8) (.slice b8 m8 d8) ∧ Sv ((W20.setCell ⟨p10, 0, none⟩ (.slice a8 n8 c8)).setCell ⟨p10, 1, none⟩ (.slice b8 m8 d8)) (.slice a8 n8 c8) (.slice b8 m8 d8) [] [] ∧ Two ((W20.setCell ⟨p10, 0, none⟩ (.slice a8 n8 c8)).setCell ⟨p10, 1, none⟩ (.slice b8 m8 d8)) p9 (.slice none 0 0) (.slice none 0 0) ∧ Sv ((W20.setCell ⟨p10, 0, none⟩ (.slice a8 n8 c8)).setCell ⟨p10, 1, none⟩ (.slice b8 m8 d8)) (.slice none 0 0) (.slice none 0 0) [] []) := ⟨HY.out.2.2.1.two hp10w _ _, ⟨g1, ⟨_, _, _, rfl⟩, ⟨_, _, _, rfl⟩⟩, HY.out.2.1.oth HY.out.1.sl g2, HY.out.2.2.2.1.oth (Nat.ne_of_lt hp10) g2, HY.out.2.2.2.2.oth HY.out.1.sl g2⟩
            clear cA HQ HY g1 g2 y0 y1 y2 y3 s0 s1
            generalize (W20.setCell ⟨p10, 0, none⟩ (.slice a8 n8 c8)).setCell ⟨p10, 1, none⟩ (.slice b8 m8 d8) = W21 at HY2 ⊢
            have cE := HEr.out W21 HY2.out.1.1 (e)
            go_upto_region 30 with (go_at_call 7; refine cE.mono ?_; rintro e' W22 ⟨rfl, hB22⟩)
            have tva := HY2.out.2.1.on hB22
            have twa := HY2.out.2.2.2.1.on hB22
            have z0 := cell_at (i := 0) tva.1 rfl
            have z1 := cell_at (i := 1) tva.1 rfl
            have z2 := cell_at (i := 0) twa.1 rfl
            have z3 := cell_at (i := 1) twa.1 rfl
            have cS := sv_same (HY2.out.2.2.1.on hB22) (HY2.out.2.2.2.2.on hB22) HRk.out
            have HB22 := Lib.hid (HY2.out.1.on hB22).1
            clear cE HY2 tva twa hB22
            go_wp2_with (go_at_call 8; refine cS.mono ?_; rintro e' W23 ⟨rfl, hB23⟩)
            go_ret
            exact ⟨rfl, on1K HB22.out hB23 (Nat.le_refl _)⟩
end Go.Proofs.YtkmkhadacppdnaaGreatDoor
