/-
  kinref2.Change of a field: the faults of its place.
-/
import Derived.Test.YtkmkhadacppdnaaGreatDoorM30
namespace Go.Proofs.YtkmkhadacppdnaaGreatDoor
open Go.RowKit
set_option linter.unusedVariables false
set_option linter.unusedSimpArgs false

theorem info29s : (Tryz.prog.info? 29).map (fun i => i.size) = some 3 := by kernel_rfl
set_option maxHeartbeats 8000000 in
set_option maxRecDepth 100000 in
theorem rc_3a {w : World} {vk vb : Value} {L : List Kd} {B : List Bd} (c : Ch) (hK : IsK w vk L) (hP : Parts w L) (hz : SzK L) (hb : IsB w vb B) (hzb : SzB B) (hs : (sErr L B).2 = 0) (hc : ChIs w c) (hcz : ChSz c) (hw : c.wh = 3) (hx : ¬ idxK c.nm L 0 = -1) (hf : fnd c.fd.nm (fdsAt L c.nm) = true) :
    Calls Tryz.prog 5 #[.agg #[vk, vb], c.one] w (RcP w (7) (L) (B)) := by
  obtain ⟨hG, hn, hnb⟩ := good_of hs
  obtain ⟨wh, nm, ⟨kn, ko, kf, vo, vf⟩, ⟨bn, bf, bt, mn, mx⟩, ⟨fn, ft, fm, fk⟩, vt, vn, vs, tn⟩ := c
  obtain ⟨a1, c1, rfl, _⟩ := hK.sln
  obtain ⟨a2, c2, rfl, _⟩ := hb.sln
  obtain ⟨ao, lo1, co, q1⟩ := hc.1.sl
  obtain ⟨af, lf1, cf, q2⟩ := hc.2.sl
  simp only at q1 q2 hw hc hcz hx hf ⊢
  subst q1 q2 hw
  obtain ⟨W0, hW0⟩ : ∃ W0, W0 = ((w.alloc (.cells #[.slice a1 L.length c1, .slice a2 B.length c2] 25)).alloc (.cells #[.int .i64 3, .string (bs nm), .string (bs kn), .slice ao lo1 co, .slice af lf1 cf, .string (bs bn), .string (bs bf), .string (bs bt), .int .i64 mn, .int .i64 mx, .string (bs fn), .int .i64 ft, .bool fm, .bool fk, .int .i64 vt, .int .i64 vn, .string (bs vs), .string (bs tn)] 37)).alloc (.cells #[.slice none 0 0, .slice none 0 0] 25) := ⟨_, rfl⟩
  have hB0 : Below w.heap.size w W0 := by rw [hW0]; exact b_alloc (b_alloc (b_alloc (Below.refl _ _) _) _) _
  have hs0 : W0.heap.size = w.heap.size + 3 := by rw [hW0]; simp
  have n0 : W0.heap[w.heap.size]? = some (.cells #[.slice a1 L.length c1, .slice a2 B.length c2] 25 (0, 0)) := by rw [hW0]; exact (heap_alloc_old _ _ (by simp; omega)).trans ((heap_alloc_old _ _ (by simp)).trans (heap_alloc_new w _))
  have n1 : W0.heap[w.heap.size + 1]? = some (.cells #[.int .i64 3, .string (bs nm), .string (bs kn), .slice ao lo1 co, .slice af lf1 cf, .string (bs bn), .string (bs bf), .string (bs bt), .int .i64 mn, .int .i64 mx, .string (bs fn), .int .i64 ft, .bool fm, .bool fk, .int .i64 vt, .int .i64 vn, .string (bs vs), .string (bs tn)] 37 (0, 0)) := by
    have := heap_alloc_new (w.alloc (.cells #[.slice a1 L.length c1, .slice a2 B.length c2] 25)) (.cells #[.int .i64 3, .string (bs nm), .string (bs kn), .slice ao lo1 co, .slice af lf1 cf, .string (bs bn), .string (bs bf), .string (bs bt), .int .i64 mn, .int .i64 mx, .string (bs fn), .int .i64 ft, .bool fm, .bool fk, .int .i64 vt, .int .i64 vn, .string (bs vs), .string (bs tn)] 37)
    rw [World.size_alloc] at this; rw [hW0]; exact (heap_alloc_old _ _ (by simp)).trans this
  have n2 : W0.heap[w.heap.size + 2]? = some (.cells #[.slice none 0 0, .slice none 0 0] 25 (0, 0)) := by
    have := heap_alloc_new ((w.alloc (.cells #[.slice a1 L.length c1, .slice a2 B.length c2] 25)).alloc (.cells #[.int .i64 3, .string (bs nm), .string (bs kn), .slice ao lo1 co, .slice af lf1 cf, .string (bs bn), .string (bs bf), .string (bs bt), .int .i64 mn, .int .i64 mx, .string (bs fn), .int .i64 ft, .bool fm, .bool fk, .int .i64 vt, .int .i64 vn, .string (bs vs), .string (bs tn)] 37)) (.cells #[.slice none 0 0, .slice none 0 0] 25)
    rw [World.size_alloc, World.size_alloc] at this; rw [hW0]; exact this
  obtain ⟨W1, hW1⟩ : ∃ W1, W1 = W0.alloc (.cells #[.slice a1 L.length c1, .slice a2 B.length c2] 25) := ⟨_, rfl⟩
  have hB1 : Below W0.heap.size W0 W1 := by rw [hW1]; exact b_alloc (Below.refl _ _) _
  have m3 : W1.heap[w.heap.size + 3]? = some (.cells #[.slice a1 L.length c1, .slice a2 B.length c2] 25 (0, 0)) := by
    have := heap_alloc_new W0 (.cells #[.slice a1 L.length c1, .slice a2 B.length c2] 25)
    rw [hs0] at this; rw [hW1]; exact this
  have h0 : Pr0 w #[.slice a1 L.length c1, .slice a2 B.length c2] #[.int .i64 3, .string (bs nm), .string (bs kn), .slice ao lo1 co, .slice af lf1 cf, .string (bs bn), .string (bs bf), .string (bs bt), .int .i64 mn, .int .i64 mx, .string (bs fn), .int .i64 ft, .bool fm, .bool fk, .int .i64 vt, .int .i64 vn, .string (bs vs), .string (bs tn)] W1 := ⟨on1K hB0 hB1 (Nat.le_refl _), (hB1.block _ (by omega)).trans n0, (hB1.block _ (by omega)).trans n1, (hB1.block _ (by omega)).trans n2, m3⟩
  have P1 := Lib.hid (pro_first h0 hK hP hn)
  have P2 : Hid (∀ W v9, Pr0 w #[.slice a1 L.length c1, .slice a2 B.length c2] #[.int .i64 3, .string (bs nm), .string (bs kn), .slice ao lo1 co, .slice af lf1 cf, .string (bs bn), .string (bs bf), .string (bs bt), .int .i64 mn, .int .i64 mx, .string (bs fn), .int .i64 ft, .bool fm, .bool fk, .int .i64 vt, .int .i64 vn, .string (bs vs), .string (bs tn)] W → W.ownsRow (w.heap.size + 4) 29 3 v9 L.length (cellsK L) → ∀ ty, ∃ v' w', (Builtin.append_ #[23, 23] ty #[.slice none 0 0, .slice a2 B.length c2]).run Tryz.prog W = .ok v' w' ∧ Pro w #[.slice a1 L.length c1, .slice a2 B.length c2] #[.int .i64 3, .string (bs nm), .string (bs kn), .slice ao lo1 co, .slice af lf1 cf, .string (bs bn), .string (bs bf), .string (bs bt), .int .i64 mn, .int .i64 mx, .string (bs fn), .int .i64 ft, .bool fm, .bool fk, .int .i64 vt, .int .i64 vn, .string (bs vs), .string (bs tn)] L B v9 v' w') := fun W v9 q0 q9 => pro_next q0 q9 hb hnb
  have ck := rkind_any (hK.on h0.1) hn nm
  have cb := rbond_any (hb.on h0.1) hnb nm
  have d0 : W0.cell? ⟨w.heap.size, 0, none⟩ = some (.slice a1 L.length c1) := cell_at n0 rfl
  have d1 : W0.cell? ⟨w.heap.size, 1, none⟩ = some (.slice a2 B.length c2) := cell_at n0 rfl
  have e0 : W1.cell? ⟨w.heap.size, 0, none⟩ = some (.slice a1 L.length c1) := cell_at h0.2.1 rfl
  have e1 : W1.cell? ⟨w.heap.size, 1, none⟩ = some (.slice a2 B.length c2) := cell_at h0.2.1 rfl
  have e2 : W1.cell? ⟨w.heap.size + 1, 1, none⟩ = some (.string (bs nm)) := cell_at h0.2.2.1 rfl
  have HK : Hid (IsK w (.slice a1 L.length c1) L ∧ Parts w L ∧ SzK L ∧ IsB w (.slice a2 B.length c2) B ∧ SzB B) := ⟨hK, hP, hz, hb, hzb⟩
  have HCC := Lib.hid hc
  have HCZ := Lib.hid hcz
  have HG := Lib.hid hG
  have HS := Lib.hid hs
  have HW1 := Lib.hid hW1
  have HS0 := Lib.hid hs0
  obtain ⟨j, q, hj, hat, hq, hqn⟩ := nmAt_has hx
  have hjl := (List.getElem?_eq_some_iff.1 hq).1
  rw [hj] at ck
  have hjn : ¬ (j : Int) < 0 := by omega
  have hji : (j : Int) < (L.length : Int) := by omega
  clear hqn
  have hfa := fdsAt_eq hat hq
  rw [hfa] at hf
  obtain ⟨hsr, h8⟩ := hG.srt q (List.mem_of_getElem? hq)
  have hqm : q ∈ L := List.mem_of_getElem? hq
  obtain ⟨b1, o1, e1'⟩ : ∃ b1 o1, a1 = some ⟨b1, o1, none⟩ := by
    rcases hK with ⟨_, h0⟩ | ⟨b, off, cap, e', _⟩
    · rw [h0] at hjl; simp at hjl
    · injection e' with e'; exact ⟨b, off, e'⟩
  subst e1'
  obtain ⟨hb1, c0, c1', c2'⟩ : b1 < w.heap.size ∧ w.cell? ⟨b1, o1 + j * 3, none⟩ = some (.string (bs q.nm)) ∧ w.cell? ⟨b1, o1 + j * 3 + 1, none⟩ = some q.vo ∧ w.cell? ⟨b1, o1 + j * 3 + 2, none⟩ = some q.vf := by
    rcases hK with ⟨_, h0⟩ | ⟨b, off, cap, e', _, _, hb, hl⟩
    · rw [h0] at hjl; simp at hjl
    · injection e' with e'; injection e' with e'; injection e' with e2 e3; subst e2 e3
      exact ⟨hb, hl j q hq⟩
  obtain ⟨qn, qo, qf, qvo, qvf⟩ := q
  obtain ⟨po, pl, pc, epo⟩ := (hP _ hqm).1.sl
  obtain ⟨pf, pm, pd, epf⟩ := (hP _ hqm).2.sl
  simp only at epo epf c0 c1' c2' hf hsr h8
  subst epo epf
  have HQ : Hid (IsS w (.slice po pl pc) qo ∧ IsF w (.slice pf pm pd) qf) := hP _ hqm
  have HFi : Hid (∀ W s, Below w.heap.size w W → Calls Tryz.prog 17 #[.agg #[.string (bs qn), .slice po pl pc, .slice pf pm pd], .string (bs s)] W fun e w' => e = .returned (.int .i64 (idxF s qf 0)) ∧ Below W.heap.size W w') := fun W s hB => rfield_any qn (HQ.out.1.on hB) (HQ.out.2.on hB) (by omega) s
  have HSr := Lib.hid hsr
  have hix : idxF fn qf 0 = ((lo fn qf : Nat) : Int) := by rw [idxF_srt fn qf 0 hsr, hf]; simp
  clear hK hP hz hb hzb hc hcz hG hs n0 n1 n2 hB0 hB1 m3 h0 hW1 hs0
  go_enter Tryz.func5, Tryz.ntmps5
  go_upto_region 1 with fail
  rw [← hW0]
  clear hW0
  go_upto_region 2 with (refine wpList_store_new rfl 25 (.tmp 6) (.tmp 24) rfl _ _ rfl rfl info25s rfl rfl ?_)
  rw [← HW1.out, HS0.out]
  clear d0 d1 HW1 HS0
  go_upto_region 6 with (first | (go_at_call 14; refine ck.mono ?_; rintro e w' ⟨rfl, hw'⟩; obtain rfl := hw'.symm) | (go_at_call 15; refine cb.mono ?_; rintro e w' ⟨rfl, hw'⟩; obtain rfl := hw'.symm))
  go_upto_region 7 with (refine wpList_append_E rfl (.tmp 35) (.tmp 37) 22 rfl (.slice none 0 0) (.slice (some ⟨b1, o1, none⟩) L.length c1) (by first | rfl | simp [Act.eval, Act.put]) (by first | rfl | simp [Act.eval, Act.put]) (P1.out _) ?_; rintro v9 W2 ⟨h02, h9⟩)
  have f1 : W2.cell? ⟨w.heap.size, 1, none⟩ = some (.slice a2 B.length c2) := cell_at h02.2.1 rfl
  have P2' := Lib.hid (P2.out W2 v9 h02 h9)
  clear e0 e1 e2 P1 P2 h02 h9 ck cb
  go_upto_region 8 with (refine wpList_append_E rfl (.tmp 39) (.tmp 41) 23 rfl (.slice none 0 0) (.slice a2 B.length c2) (by first | rfl | simp [Act.eval, Act.put]) (by first | rfl | simp [Act.eval, Act.put]) (P2'.out _) ?_; rintro v10 W3 h3)
  clear f1 P2'
  obtain ⟨q0, q1, q2, q3, q4, q9, q10⟩ := h3
  obtain ⟨a10, c10, rfl⟩ := own_slice q10
  obtain ⟨a9, c9, rfl⟩ := own_slice q9
  have x0 := (q0.cell (p := ⟨b1, o1 + j * 3, none⟩) hb1).trans c0
  have x1 := (q0.cell (p := ⟨b1, o1 + j * 3 + 1, none⟩) hb1).trans c1'
  have x2 := (q0.cell (p := ⟨b1, o1 + j * 3 + 2, none⟩) hb1).trans c2'
  have s0 : W3.cell? ⟨w.heap.size, 0, none⟩ = some (.slice (some ⟨b1, o1, none⟩) L.length c1) := cell_at q1 rfl
  have k0 : W3.cell? ⟨w.heap.size + 1, 0, none⟩ = some (.int .i64 3) := cell_at q2 rfl
  obtain ⟨W4, hW4⟩ : ∃ W4, W4 = W3.alloc (.cells #[.string (bs qn), .slice po pl pc, .slice pf pm pd] 29) := ⟨_, rfl⟩
  have hB4 : Below W3.heap.size W3 W4 := by rw [hW4]; exact b_alloc (Below.refl _ _) _
  have n4 : W4.heap[W3.heap.size]? = some (.cells #[.string (bs qn), .slice po pl pc, .slice pf pm pd] 29 (0, 0)) := by rw [hW4]; exact heap_alloc_new W3 _
  have r0 : W4.cell? ⟨W3.heap.size, 0, none⟩ = some (.string (bs qn)) := cell_at n4 rfl
  have r1 : W4.cell? ⟨W3.heap.size, 1, none⟩ = some (.slice po pl pc) := cell_at n4 rfl
  have r2 : W4.cell? ⟨W3.heap.size, 2, none⟩ = some (.slice pf pm pd) := cell_at n4 rfl
  have p4 : Pr0 w _ _ W4 := Pr0.grown (W := W3) ⟨q0, q1, q2, q3, q4⟩ (grown_of_below hB4 none) (fun g e => by cases e)
  have r10 : W4.cell? ⟨w.heap.size + 1, 10, none⟩ = some (.string (bs fn)) := cell_at p4.2.2.1 rfl
  have cF := HFi.out W4 fn p4.1
  rw [hix] at cF
  have HP4 := Lib.hid p4
  have HW4 := Lib.hid hW4
  clear q0 q1 q2 q3 q4 q9 q10 p4 n4 hB4 hW4 HFi
  go_upto_region 33 with (refine wpList_store_new rfl 29 (.tmp 14) (.tmp 121) rfl _ _ rfl rfl info29s rfl rfl ?_)
  rw [← HW4.out]
  clear x0 x1 x2 s0 k0 HW4
  go_upto_region 34 with (go_at_call 17; refine cF.mono ?_; rintro e W5 ⟨rfl, hB5⟩)
  have p5 : Pr0 w _ _ W5 := Pr0.grown HP4.out (grown_of_below hB5 none) (fun g e => by cases e)
  have k0 : W5.cell? ⟨w.heap.size + 1, 0, none⟩ = some (.int .i64 3) := cell_at p5.2.2.1 rfl
  obtain ⟨t0, t1, hR⟩ := rc_err p5.1 p5.2.2.2.1 (7) (by decide) L B _ rfl
  have g0 := cell_at (i := 0) p5.2.2.2.1 rfl
  have g1 := cell_at (i := 1) p5.2.2.2.1 rfl
  have g2 := frz_at (i := 0) p5.2.2.2.1
  have g3 := frz_at (i := 1) p5.2.2.2.1
  have HR := Lib.hid hR
  have HT : Hid (_ ∧ _) := ⟨t0, t1⟩
  clear hR t0 t1 cF r0 r1 r2 r10 hB5 p5 HP4
  go_wp2
  obtain ⟨t0, t1⟩ := HT.out
  refine bodyPost_ret (v := .tuple #[.agg #[.slice none 0 0, .slice none 0 0], .int .i64 (7)]) ?_ rfl ?_
  · simp [results, Tryz.results5, go_sem, t0, t1]
  · exact HR.out
end Go.Proofs.YtkmkhadacppdnaaGreatDoor

/-
  kinref2.Change of a field: the faults of its place.
-/
namespace Go.Proofs.YtkmkhadacppdnaaGreatDoor
theorem info29t : (Tryz.prog.info? 29).map (fun i => i.size) = some 3 := by kernel_rfl
open Go.RowKit
set_option linter.unusedVariables false
set_option linter.unusedSimpArgs false

set_option maxHeartbeats 8000000 in
set_option maxRecDepth 100000 in
theorem rc_4a {w : World} {vk vb : Value} {L : List Kd} {B : List Bd} (c : Ch) (hK : IsK w vk L) (hP : Parts w L) (hz : SzK L) (hb : IsB w vb B) (hzb : SzB B) (hs : (sErr L B).2 = 0) (hc : ChIs w c) (hcz : ChSz c) (hw : c.wh = 4) (hx : ¬ idxK c.nm L 0 = -1) (hf : fnd c.fd.nm (fdsAt L c.nm) = false) :
    Calls Tryz.prog 5 #[.agg #[vk, vb], c.one] w (RcP w (5) (L) (B)) := by
  obtain ⟨hG, hn, hnb⟩ := good_of hs
  obtain ⟨wh, nm, ⟨kn, ko, kf, vo, vf⟩, ⟨bn, bf, bt, mn, mx⟩, ⟨fn, ft, fm, fk⟩, vt, vn, vs, tn⟩ := c
  obtain ⟨a1, c1, rfl, _⟩ := hK.sln
  obtain ⟨a2, c2, rfl, _⟩ := hb.sln
  obtain ⟨ao, lo1, co, q1⟩ := hc.1.sl
  obtain ⟨af, lf1, cf, q2⟩ := hc.2.sl
  simp only at q1 q2 hw hc hcz hx hf ⊢
  subst q1 q2 hw
  obtain ⟨W0, hW0⟩ : ∃ W0, W0 = ((w.alloc (.cells #[.slice a1 L.length c1, .slice a2 B.length c2] 25)).alloc (.cells #[.int .i64 4, .string (bs nm), .string (bs kn), .slice ao lo1 co, .slice af lf1 cf, .string (bs bn), .string (bs bf), .string (bs bt), .int .i64 mn, .int .i64 mx, .string (bs fn), .int .i64 ft, .bool fm, .bool fk, .int .i64 vt, .int .i64 vn, .string (bs vs), .string (bs tn)] 37)).alloc (.cells #[.slice none 0 0, .slice none 0 0] 25) := ⟨_, rfl⟩
  have hB0 : Below w.heap.size w W0 := by rw [hW0]; exact b_alloc (b_alloc (b_alloc (Below.refl _ _) _) _) _
  have hs0 : W0.heap.size = w.heap.size + 3 := by rw [hW0]; simp
  have n0 : W0.heap[w.heap.size]? = some (.cells #[.slice a1 L.length c1, .slice a2 B.length c2] 25 (0, 0)) := by rw [hW0]; exact (heap_alloc_old _ _ (by simp; omega)).trans ((heap_alloc_old _ _ (by simp)).trans (heap_alloc_new w _))
  have n1 : W0.heap[w.heap.size + 1]? = some (.cells #[.int .i64 4, .string (bs nm), .string (bs kn), .slice ao lo1 co, .slice af lf1 cf, .string (bs bn), .string (bs bf), .string (bs bt), .int .i64 mn, .int .i64 mx, .string (bs fn), .int .i64 ft, .bool fm, .bool fk, .int .i64 vt, .int .i64 vn, .string (bs vs), .string (bs tn)] 37 (0, 0)) := by
    have := heap_alloc_new (w.alloc (.cells #[.slice a1 L.length c1, .slice a2 B.length c2] 25)) (.cells #[.int .i64 4, .string (bs nm), .string (bs kn), .slice ao lo1 co, .slice af lf1 cf, .string (bs bn), .string (bs bf), .string (bs bt), .int .i64 mn, .int .i64 mx, .string (bs fn), .int .i64 ft, .bool fm, .bool fk, .int .i64 vt, .int .i64 vn, .string (bs vs), .string (bs tn)] 37)
    rw [World.size_alloc] at this; rw [hW0]; exact (heap_alloc_old _ _ (by simp)).trans this
  have n2 : W0.heap[w.heap.size + 2]? = some (.cells #[.slice none 0 0, .slice none 0 0] 25 (0, 0)) := by
    have := heap_alloc_new ((w.alloc (.cells #[.slice a1 L.length c1, .slice a2 B.length c2] 25)).alloc (.cells #[.int .i64 4, .string (bs nm), .string (bs kn), .slice ao lo1 co, .slice af lf1 cf, .string (bs bn), .string (bs bf), .string (bs bt), .int .i64 mn, .int .i64 mx, .string (bs fn), .int .i64 ft, .bool fm, .bool fk, .int .i64 vt, .int .i64 vn, .string (bs vs), .string (bs tn)] 37)) (.cells #[.slice none 0 0, .slice none 0 0] 25)
    rw [World.size_alloc, World.size_alloc] at this; rw [hW0]; exact this
  obtain ⟨W1, hW1⟩ : ∃ W1, W1 = W0.alloc (.cells #[.slice a1 L.length c1, .slice a2 B.length c2] 25) := ⟨_, rfl⟩
  have hB1 : Below W0.heap.size W0 W1 := by rw [hW1]; exact b_alloc (Below.refl _ _) _
  have m3 : W1.heap[w.heap.size + 3]? = some (.cells #[.slice a1 L.length c1, .slice a2 B.length c2] 25 (0, 0)) := by
    have := heap_alloc_new W0 (.cells #[.slice a1 L.length c1, .slice a2 B.length c2] 25)
    rw [hs0] at this; rw [hW1]; exact this
  have h0 : Pr0 w #[.slice a1 L.length c1, .slice a2 B.length c2] #[.int .i64 4, .string (bs nm), .string (bs kn), .slice ao lo1 co, .slice af lf1 cf, .string (bs bn), .string (bs bf), .string (bs bt), .int .i64 mn, .int .i64 mx, .string (bs fn), .int .i64 ft, .bool fm, .bool fk, .int .i64 vt, .int .i64 vn, .string (bs vs), .string (bs tn)] W1 := ⟨on1K hB0 hB1 (Nat.le_refl _), (hB1.block _ (by omega)).trans n0, (hB1.block _ (by omega)).trans n1, (hB1.block _ (by omega)).trans n2, m3⟩
  have P1 := Lib.hid (pro_first h0 hK hP hn)
  have P2 : Hid (∀ W v9, Pr0 w #[.slice a1 L.length c1, .slice a2 B.length c2] #[.int .i64 4, .string (bs nm), .string (bs kn), .slice ao lo1 co, .slice af lf1 cf, .string (bs bn), .string (bs bf), .string (bs bt), .int .i64 mn, .int .i64 mx, .string (bs fn), .int .i64 ft, .bool fm, .bool fk, .int .i64 vt, .int .i64 vn, .string (bs vs), .string (bs tn)] W → W.ownsRow (w.heap.size + 4) 29 3 v9 L.length (cellsK L) → ∀ ty, ∃ v' w', (Builtin.append_ #[23, 23] ty #[.slice none 0 0, .slice a2 B.length c2]).run Tryz.prog W = .ok v' w' ∧ Pro w #[.slice a1 L.length c1, .slice a2 B.length c2] #[.int .i64 4, .string (bs nm), .string (bs kn), .slice ao lo1 co, .slice af lf1 cf, .string (bs bn), .string (bs bf), .string (bs bt), .int .i64 mn, .int .i64 mx, .string (bs fn), .int .i64 ft, .bool fm, .bool fk, .int .i64 vt, .int .i64 vn, .string (bs vs), .string (bs tn)] L B v9 v' w') := fun W v9 q0 q9 => pro_next q0 q9 hb hnb
  have ck := rkind_any (hK.on h0.1) hn nm
  have cb := rbond_any (hb.on h0.1) hnb nm
  have d0 : W0.cell? ⟨w.heap.size, 0, none⟩ = some (.slice a1 L.length c1) := cell_at n0 rfl
  have d1 : W0.cell? ⟨w.heap.size, 1, none⟩ = some (.slice a2 B.length c2) := cell_at n0 rfl
  have e0 : W1.cell? ⟨w.heap.size, 0, none⟩ = some (.slice a1 L.length c1) := cell_at h0.2.1 rfl
  have e1 : W1.cell? ⟨w.heap.size, 1, none⟩ = some (.slice a2 B.length c2) := cell_at h0.2.1 rfl
  have e2 : W1.cell? ⟨w.heap.size + 1, 1, none⟩ = some (.string (bs nm)) := cell_at h0.2.2.1 rfl
  have HK : Hid (IsK w (.slice a1 L.length c1) L ∧ Parts w L ∧ SzK L ∧ IsB w (.slice a2 B.length c2) B ∧ SzB B) := ⟨hK, hP, hz, hb, hzb⟩
  have HCC := Lib.hid hc
  have HCZ := Lib.hid hcz
  have HG := Lib.hid hG
  have HS := Lib.hid hs
  have HW1 := Lib.hid hW1
  have HS0 := Lib.hid hs0
  obtain ⟨j, q, hj, hat, hq, hqn⟩ := nmAt_has hx
  have hjl := (List.getElem?_eq_some_iff.1 hq).1
  rw [hj] at ck
  have hjn : ¬ (j : Int) < 0 := by omega
  have hji : (j : Int) < (L.length : Int) := by omega
  clear hqn
  have hfa := fdsAt_eq hat hq
  rw [hfa] at hf
  obtain ⟨hsr, h8⟩ := hG.srt q (List.mem_of_getElem? hq)
  have hqm : q ∈ L := List.mem_of_getElem? hq
  obtain ⟨b1, o1, e1'⟩ : ∃ b1 o1, a1 = some ⟨b1, o1, none⟩ := by
    rcases hK with ⟨_, h0⟩ | ⟨b, off, cap, e', _⟩
    · rw [h0] at hjl; simp at hjl
    · injection e' with e'; exact ⟨b, off, e'⟩
  subst e1'
  obtain ⟨hb1, c0, c1', c2'⟩ : b1 < w.heap.size ∧ w.cell? ⟨b1, o1 + j * 3, none⟩ = some (.string (bs q.nm)) ∧ w.cell? ⟨b1, o1 + j * 3 + 1, none⟩ = some q.vo ∧ w.cell? ⟨b1, o1 + j * 3 + 2, none⟩ = some q.vf := by
    rcases hK with ⟨_, h0⟩ | ⟨b, off, cap, e', _, _, hb, hl⟩
    · rw [h0] at hjl; simp at hjl
    · injection e' with e'; injection e' with e'; injection e' with e2 e3; subst e2 e3
      exact ⟨hb, hl j q hq⟩
  obtain ⟨qn, qo, qf, qvo, qvf⟩ := q
  obtain ⟨po, pl, pc, epo⟩ := (hP _ hqm).1.sl
  obtain ⟨pf, pm, pd, epf⟩ := (hP _ hqm).2.sl
  simp only at epo epf c0 c1' c2' hf hsr h8
  subst epo epf
  have HQ : Hid (IsS w (.slice po pl pc) qo ∧ IsF w (.slice pf pm pd) qf) := hP _ hqm
  have HFi : Hid (∀ W s, Below w.heap.size w W → Calls Tryz.prog 17 #[.agg #[.string (bs qn), .slice po pl pc, .slice pf pm pd], .string (bs s)] W fun e w' => e = .returned (.int .i64 (idxF s qf 0)) ∧ Below W.heap.size W w') := fun W s hB => rfield_any qn (HQ.out.1.on hB) (HQ.out.2.on hB) (by omega) s
  have HSr := Lib.hid hsr
  have hix : idxF fn qf 0 = -1 := by rw [idxF_srt fn qf 0 hsr, hf]; simp
  clear hK hP hz hb hzb hc hcz hG hs n0 n1 n2 hB0 hB1 m3 h0 hW1 hs0
  go_enter Tryz.func5, Tryz.ntmps5
  go_upto_region 1 with fail
  rw [← hW0]
  clear hW0
  go_upto_region 2 with (refine wpList_store_new rfl 25 (.tmp 6) (.tmp 24) rfl _ _ rfl rfl info25s rfl rfl ?_)
  rw [← HW1.out, HS0.out]
  clear d0 d1 HW1 HS0
  go_upto_region 6 with (first | (go_at_call 14; refine ck.mono ?_; rintro e w' ⟨rfl, hw'⟩; obtain rfl := hw'.symm) | (go_at_call 15; refine cb.mono ?_; rintro e w' ⟨rfl, hw'⟩; obtain rfl := hw'.symm))
  go_upto_region 7 with (refine wpList_append_E rfl (.tmp 35) (.tmp 37) 22 rfl (.slice none 0 0) (.slice (some ⟨b1, o1, none⟩) L.length c1) (by first | rfl | simp [Act.eval, Act.put]) (by first | rfl | simp [Act.eval, Act.put]) (P1.out _) ?_; rintro v9 W2 ⟨h02, h9⟩)
  have f1 : W2.cell? ⟨w.heap.size, 1, none⟩ = some (.slice a2 B.length c2) := cell_at h02.2.1 rfl
  have P2' := Lib.hid (P2.out W2 v9 h02 h9)
  clear e0 e1 e2 P1 P2 h02 h9 ck cb
  go_upto_region 8 with (refine wpList_append_E rfl (.tmp 39) (.tmp 41) 23 rfl (.slice none 0 0) (.slice a2 B.length c2) (by first | rfl | simp [Act.eval, Act.put]) (by first | rfl | simp [Act.eval, Act.put]) (P2'.out _) ?_; rintro v10 W3 h3)
  clear f1 P2'
  obtain ⟨q0, q1, q2, q3, q4, q9, q10⟩ := h3
  obtain ⟨a10, c10, rfl⟩ := own_slice q10
  obtain ⟨a9, c9, rfl⟩ := own_slice q9
  have x0 := (q0.cell (p := ⟨b1, o1 + j * 3, none⟩) hb1).trans c0
  have x1 := (q0.cell (p := ⟨b1, o1 + j * 3 + 1, none⟩) hb1).trans c1'
  have x2 := (q0.cell (p := ⟨b1, o1 + j * 3 + 2, none⟩) hb1).trans c2'
  have s0 : W3.cell? ⟨w.heap.size, 0, none⟩ = some (.slice (some ⟨b1, o1, none⟩) L.length c1) := cell_at q1 rfl
  have k0 : W3.cell? ⟨w.heap.size + 1, 0, none⟩ = some (.int .i64 4) := cell_at q2 rfl
  obtain ⟨W4, hW4⟩ : ∃ W4, W4 = W3.alloc (.cells #[.string (bs qn), .slice po pl pc, .slice pf pm pd] 29) := ⟨_, rfl⟩
  have hB4 : Below W3.heap.size W3 W4 := by rw [hW4]; exact b_alloc (Below.refl _ _) _
  have n4 : W4.heap[W3.heap.size]? = some (.cells #[.string (bs qn), .slice po pl pc, .slice pf pm pd] 29 (0, 0)) := by rw [hW4]; exact heap_alloc_new W3 _
  have r0 : W4.cell? ⟨W3.heap.size, 0, none⟩ = some (.string (bs qn)) := cell_at n4 rfl
  have r1 : W4.cell? ⟨W3.heap.size, 1, none⟩ = some (.slice po pl pc) := cell_at n4 rfl
  have r2 : W4.cell? ⟨W3.heap.size, 2, none⟩ = some (.slice pf pm pd) := cell_at n4 rfl
  have p4 : Pr0 w _ _ W4 := Pr0.grown (W := W3) ⟨q0, q1, q2, q3, q4⟩ (grown_of_below hB4 none) (fun g e => by cases e)
  have r10 : W4.cell? ⟨w.heap.size + 1, 10, none⟩ = some (.string (bs fn)) := cell_at p4.2.2.1 rfl
  have cF := HFi.out W4 fn p4.1
  rw [hix] at cF
  have HP4 := Lib.hid p4
  have HW4 := Lib.hid hW4
  clear q0 q1 q2 q3 q4 q9 q10 p4 n4 hB4 hW4 HFi
  go_upto_region 33 with (refine wpList_store_new rfl 29 (.tmp 14) (.tmp 121) rfl _ _ rfl rfl info29t rfl rfl ?_)
  rw [← HW4.out]
  clear x0 x1 x2 s0 k0 HW4
  go_upto_region 34 with (go_at_call 17; refine cF.mono ?_; rintro e W5 ⟨rfl, hB5⟩)
  have p5 : Pr0 w _ _ W5 := Pr0.grown HP4.out (grown_of_below hB5 none) (fun g e => by cases e)
  have k0 : W5.cell? ⟨w.heap.size + 1, 0, none⟩ = some (.int .i64 4) := cell_at p5.2.2.1 rfl
  obtain ⟨t0, t1, hR⟩ := rc_err p5.1 p5.2.2.2.1 (5) (by decide) L B _ rfl
  have g0 := cell_at (i := 0) p5.2.2.2.1 rfl
  have g1 := cell_at (i := 1) p5.2.2.2.1 rfl
  have g2 := frz_at (i := 0) p5.2.2.2.1
  have g3 := frz_at (i := 1) p5.2.2.2.1
  have HR := Lib.hid hR
  have HT : Hid (_ ∧ _) := ⟨t0, t1⟩
  clear hR t0 t1 cF r0 r1 r2 r10 hB5 p5 HP4
  go_wp2
  obtain ⟨t0, t1⟩ := HT.out
  refine bodyPost_ret (v := .tuple #[.agg #[.slice none 0 0, .slice none 0 0], .int .i64 (5)]) ?_ rfl ?_
  · simp [results, Tryz.results5, go_sem, t0, t1]
  · exact HR.out
end Go.Proofs.YtkmkhadacppdnaaGreatDoor
