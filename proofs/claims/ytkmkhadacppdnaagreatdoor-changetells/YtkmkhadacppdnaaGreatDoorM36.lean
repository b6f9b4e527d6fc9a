/-
  kinref2.Change of a field that is dropped.
-/
import Derived.Test.YtkmkhadacppdnaaGreatDoorM25
import Derived.Test.YtkmkhadacppdnaaGreatDoorM30
import Derived.Test.YtkmkhadacppdnaaGreatDoorM33
namespace Go.Proofs.YtkmkhadacppdnaaGreatDoor
open Go.RowKit
set_option linter.unusedVariables false
set_option linter.unusedSimpArgs false

theorem i334d : (Tryz.prog.info? 33).map (fun i => i.size) = some 4 := by kernel_rfl
theorem i294d : (Tryz.prog.info? 29).map (fun i => i.size) = some 3 := by kernel_rfl
set_option maxHeartbeats 8000000 in
set_option maxRecDepth 100000 in
theorem rc_4d {w : World} {vk vb : Value} {L : List Kd} {B : List Bd} (c : Ch) (hK : IsK w vk L) (hP : Parts w L) (hz : SzK L) (hb : IsB w vb B) (hzb : SzB B) (hs : (sErr L B).2 = 0) (hc : ChIs w c) (hcz : ChSz c) (hw : c.wh = 4) (hx : ¬ idxK c.nm L 0 = -1) (hf : fnd c.fd.nm (fdsAt L c.nm) = true) :
    Calls Tryz.prog 5 #[.agg #[vk, vb], c.one] w (RcP w ((sErr (setFs L c.nm ((fdsAt L c.nm).eraseIdx (lo c.fd.nm (fdsAt L c.nm)))) B).2) (setFs L c.nm ((fdsAt L c.nm).eraseIdx (lo c.fd.nm (fdsAt L c.nm)))) (B)) := by
  obtain ⟨hG, hn, hnb⟩ := good_of hs
  obtain ⟨wh, nm, ⟨kn, ko, kf, vo, vf⟩, ⟨bn, bf, bt, mn, mx⟩, ⟨fn, ft, fm, fk⟩, vt, vn, vs, tn⟩ := c
  obtain ⟨a1, c1, rfl, _⟩ := hK.sln
  obtain ⟨a2, c2, rfl, _⟩ := hb.sln
  obtain ⟨ao, lo1, co, q1⟩ := hc.1.sl
  obtain ⟨af, lf1, cf, q2⟩ := hc.2.sl
  simp only at q1 q2 hw hc hcz hx hf ⊢
  subst q1 q2 hw
  obtain ⟨W0, hW0⟩ : ∃ W0, W0 = ((w.alloc (.cells #[.slice a1 L.length c1, .slice a2 B.length c2] 25)).alloc (.cells #[.int .i64 4, .string (bs nm), .string (bs kn), .slice ao lo1 co, .slice af lf1 cf, .string (bs bn), .string (bs bf), .string (bs bt), .int .i64 mn, .int .i64 mx, .string (bs fn), .int .i64 ft, .bool fm, .bool fk, .int .i64 vt, .int .i64 vn, .string (bs vs), .string (bs tn)] 37)).alloc (.cells #[.slice none 0 0, .slice none 0 0] 25) := ⟨_, rfl⟩
  have hB0 : Below w.heap.size w W0 := by rw [hW0]; exact b_alloc (b_alloc (b_alloc (Below.refl _ _) _) _) _
  have hs0 : W0.heap.size = w.heap.size + 3 := by rw [hW0]; simp
  have n0 : W0.heap[w.heap.size]? = some (.cells #[.slice a1 L.length c1, .slice a2 B.length c2] 25 (0, 0)) := by rw [hW0]; exact (heap_alloc_old _ _ (by simp; omega)).trans ((heap_alloc_old _ _ (by simp)).trans (heap_alloc_new w _))
  have n1 : W0.heap[w.heap.size + 1]? = some (.cells #[.int .i64 4, .string (bs nm), .string (bs kn), .slice ao lo1 co, .slice af lf1 cf, .string (bs bn), .string (bs bf), .string (bs bt), .int .i64 mn, .int .i64 mx, .string (bs fn), .int .i64 ft, .bool fm, .bool fk, .int .i64 vt, .int .i64 vn, .string (bs vs), .string (bs tn)] 37 (0, 0)) := by
    have := heap_alloc_new (w.alloc (.cells #[.slice a1 L.length c1, .slice a2 B.length c2] 25)) (.cells #[.int .i64 4, .string (bs nm), .string (bs kn), .slice ao lo1 co, .slice af lf1 cf, .string (bs bn), .string (bs bf), .string (bs bt), .int .i64 mn, .int .i64 mx, .string (bs fn), .int .i64 ft, .bool fm, .bool fk, .int .i64 vt, .int .i64 vn, .string (bs vs), .string (bs tn)] 37)
    rw [World.size_alloc] at this; rw [hW0]; exact (heap_alloc_old _ _ (by simp)).trans this
  have n2 : W0.heap[w.heap.size + 2]? = some (.cells #[.slice none 0 0, .slice none 0 0] 25 (0, 0)) := by
    have := heap_alloc_new ((w.alloc (.cells #[.slice a1 L.length c1, .slice a2 B.length c2] 25)).alloc (.cells #[.int .i64 4, .string (bs nm), .string (bs kn), .slice ao lo1 co, .slice af lf1 cf, .string (bs bn), .string (bs bf), .string (bs bt), .int .i64 mn, .int .i64 mx, .string (bs fn), .int .i64 ft, .bool fm, .bool fk, .int .i64 vt, .int .i64 vn, .string (bs vs), .string (bs tn)] 37)) (.cells #[.slice none 0 0, .slice none 0 0] 25)
    rw [World.size_alloc, World.size_alloc] at this; rw [hW0]; exact this
  obtain ⟨W1, hW1⟩ : ∃ W1, W1 = W0.alloc (.cells #[.slice a1 L.length c1, .slice a2 B.length c2] 25) := ⟨_, rfl⟩
  have hB1 : Below W0.heap.size W0 W1 := by rw [hW1]; exact b_alloc (Below.refl _ _) _
  have m3 : W1.heap[w.heap.size + 3]? = some (.cells #[.slice a1 L.length c1, .slice a2 B.length c2] 25 (0, 0)) := by
    have := heap_alloc_new W0 (.cells #[.slice a1 L.length c1, .slice a2 B.length c2] 25)
    rw [hs0] at this; rw [hW1]; exact this
  have h0 : Pr0 w #[.slice a1 L.length c1, .slice a2 B.length c2] #[.int .i64 4, .string (bs nm), .string (bs kn), .slice ao lo1 co, .slice af lf1 cf, .string (bs bn), .string (bs bf), .string (bs bt), .int .i64 mn, .int .i64 mx, .string (bs fn), .int .i64 ft, .bool fm, .bool fk, .int .i64 vt, .int .i64 vn, .string (bs vs), .string (bs tn)] W1 := ⟨on1K hB0 hB1 (Nat.le_refl _), (hB1.block _ (by omega)).trans n0, (hB1.block _ (by omega)).trans n1, (hB1.block _ (by omega)).trans n2, m3⟩
  have P1 := Lib.hid (pro_first h0 hK hP hn)
  have P2 : Hid (∀ W v9, Pr0 w #[.slice a1 L.length c1, .slice a2 B.length c2] #[.int .i64 4, .string (bs nm), .string (bs kn), .slice ao lo1 co, .slice af lf1 cf, .string (bs bn), .string (bs bf), .string (bs bt), .int .i64 mn, .int .i64 mx, .string (bs fn), .int .i64 ft, .bool fm, .bool fk, .int .i64 vt, .int .i64 vn, .string (bs vs), .string (bs tn)] W → W.ownsRow (w.heap.size + 4) 29 3 v9 L.length (cellsK L) → ∀ ty, ∃ v' w', (Builtin.append_ #[23, 23] ty #[.slice none 0 0, .slice a2 B.length c2]).run Tryz.prog W = .ok v' w' ∧ Pro w #[.slice a1 L.length c1, .slice a2 B.length c2] #[.int .i64 4, .string (bs nm), .string (bs kn), .slice ao lo1 co, .slice af lf1 cf, .string (bs bn), .string (bs bf), .string (bs bt), .int .i64 mn, .int .i64 mx, .string (bs fn), .int .i64 ft, .bool fm, .bool fk, .int .i64 vt, .int .i64 vn, .string (bs vs), .string (bs tn)] L B v9 v' w') := fun W v9 q0 q9 => pro_next q0 q9 hb hnb
  have ck := rkind_any (hK.on h0.1) hn nm
  have cb := rbond_any (hb.on h0.1) hnb nm
  have d0 : W0.cell? ⟨w.heap.size, 0, none⟩ = some (.slice a1 L.length c1) := cell_at n0 rfl
  have d1 : W0.cell? ⟨w.heap.size, 1, none⟩ = some (.slice a2 B.length c2) := cell_at n0 rfl
  have e0 : W1.cell? ⟨w.heap.size, 0, none⟩ = some (.slice a1 L.length c1) := cell_at h0.2.1 rfl
  have e1 : W1.cell? ⟨w.heap.size, 1, none⟩ = some (.slice a2 B.length c2) := cell_at h0.2.1 rfl
  have e2 : W1.cell? ⟨w.heap.size + 1, 1, none⟩ = some (.string (bs nm)) := cell_at h0.2.2.1 rfl
  have HK : Hid (IsK w (.slice a1 L.length c1) L ∧ Parts w L ∧ SzK L ∧ IsB w (.slice a2 B.length c2) B ∧ SzB B) := ⟨hK, hP, hz, hb, hzb⟩
  have HCC := Lib.hid hc
  have HCZ := Lib.hid hcz
  have HG := Lib.hid hG
  have HS := Lib.hid hs
  have HW1 := Lib.hid hW1
  have HS0 := Lib.hid hs0
  obtain ⟨j, q, hj, hat, hq, hqn⟩ := nmAt_has hx
  have hjl := (List.getElem?_eq_some_iff.1 hq).1
  rw [hj] at ck
  have hjn : ¬ (j : Int) < 0 := by omega
  have hji : (j : Int) < (L.length : Int) := by omega
  clear hqn
  have hfa := fdsAt_eq hat hq
  rw [hfa] at hf
  obtain ⟨hsr, h8⟩ := hG.srt q (List.mem_of_getElem? hq)
  have hqm : q ∈ L := List.mem_of_getElem? hq
  obtain ⟨b1, o1, e1'⟩ : ∃ b1 o1, a1 = some ⟨b1, o1, none⟩ := by
    rcases hK with ⟨_, h0⟩ | ⟨b, off, cap, e', _⟩
    · rw [h0] at hjl; simp at hjl
    · injection e' with e'; exact ⟨b, off, e'⟩
  subst e1'
  obtain ⟨hb1, c0, c1', c2'⟩ : b1 < w.heap.size ∧ w.cell? ⟨b1, o1 + j * 3, none⟩ = some (.string (bs q.nm)) ∧ w.cell? ⟨b1, o1 + j * 3 + 1, none⟩ = some q.vo ∧ w.cell? ⟨b1, o1 + j * 3 + 2, none⟩ = some q.vf := by
    rcases hK with ⟨_, h0⟩ | ⟨b, off, cap, e', _, _, hb, hl⟩
    · rw [h0] at hjl; simp at hjl
    · injection e' with e'; injection e' with e'; injection e' with e2 e3; subst e2 e3
      exact ⟨hb, hl j q hq⟩
  obtain ⟨qn, qo, qf, qvo, qvf⟩ := q
  obtain ⟨po, pl, pc, epo⟩ := (hP _ hqm).1.sl
  obtain ⟨pf, pm, pd, epf⟩ := (hP _ hqm).2.sl
  simp only at epo epf c0 c1' c2' hf hsr h8
  subst epo epf
  have HQ : Hid (IsS w (.slice po pl pc) qo ∧ IsF w (.slice pf pm pd) qf) := hP _ hqm
  have HFi : Hid (∀ W s, Below w.heap.size w W → Calls Tryz.prog 17 #[.agg #[.string (bs qn), .slice po pl pc, .slice pf pm pd], .string (bs s)] W fun e w' => e = .returned (.int .i64 (idxF s qf 0)) ∧ Below W.heap.size W w') := fun W s hB => rfield_any qn (HQ.out.1.on hB) (HQ.out.2.on hB) (by omega) s
  have HSr := Lib.hid hsr
  have hix : idxF fn qf 0 = ((lo fn qf : Nat) : Int) := by rw [idxF_srt fn qf 0 hsr, hf]; simp
  obtain ⟨ff, hff⟩ : ∃ ff, qf[lo fn qf]? = some ff := by
    unfold fnd at hf
    cases h : qf[lo fn qf]? with
    | none => rw [h] at hf; cases hf
    | some ff => exact ⟨ff, rfl⟩
  obtain ⟨gn, gt, gm, gk⟩ := ff
  have hKe : setFs L nm ((fdsAt L nm).eraseIdx (lo fn (fdsAt L nm))) = L.set j ⟨qn, qo, qf.eraseIdx (lo fn qf), .slice po pl pc, .slice pf pm pd⟩ := by rw [hfa]; exact setFs_eq hat hq _
  generalize setFs L nm ((fdsAt L nm).eraseIdx (lo fn (fdsAt L nm))) = K at hKe ⊢
  obtain ⟨_, _, epp, hpd⟩ := isF_cap HQ.out.2
  injection epp with ea eb ec
  subst eb ea ec
  obtain ⟨_, _, epp, hvw⟩ := isF_viewR HQ.out.2
  injection epp with ea _ ec
  subst ea ec
  obtain ⟨bF, oF, ebF, hbF, v0, v1, v2, v3⟩ := hvw _ _ hff
  subst ebF
  have hmlt := (List.getElem?_eq_some_iff.1 hff).1
  obtain ⟨m, hm⟩ : ∃ m, m = lo fn qf := ⟨_, rfl⟩
  rw [← hm] at hix hmlt v0 v1 v2 v3
  obtain ⟨i0, hi0, hz0, hz1, hz2⟩ := info_parts infoFdI
  have HLN : Hid ((cellsF qf).length = qf.length * i0.size) := by show _ = _; rw [hz1]; exact cellsF_lenR qf
  have hw1 : IntKind.i64.wrap ((m : Int) + 1) = ((m + 1 : Nat) : Int) := by rw [IntKind.wrap_i64]; omega
  have hm1 : m + 1 ≤ qf.length := hmlt
  have hmc : m ≤ pd := by omega
  have hmi : (m : Int) < (qf.length : Int) := by omega
  have hmn : ¬ (m : Int) < 0 := by omega
  have HM := Lib.hid hm
  clear hm
  generalize hX : (sErr K B).2 = x
  have HFH : Hid (FdH w (some ⟨b1, o1, none⟩) c1 a2 c2 L B j ⟨qn, qo, qf, .slice po pl pc, .slice (some ⟨bF, oF, none⟩) qf.length pd⟩) := ⟨hK, hP, hz, hb, hzb, hn, hq⟩
  rw [← HM.out] at hKe
  have HKe : Hid (K = L.set j ⟨qn, qo, qf.eraseIdx m, .slice po pl pc, .slice (some ⟨bF, oF, none⟩) qf.length pd⟩ ∧ (sErr K B).2 = x) := ⟨hKe, hX⟩
  have HZf : Hid ((∀ f ∈ qf, f.nm.length ≤ maxLen) ∧ fn.length ≤ maxLen ∧ tn.length ≤ maxLen) := ⟨(hz _ hqm).2, hcz.2.2.2.1, hcz.2.2.2.2.2⟩
  clear hKe hX
  clear hK hP hz hb hzb hc hcz hG hs n0 n1 n2 hB0 hB1 m3 h0 hW1 hs0
  go_enter Tryz.func5, Tryz.ntmps5
  go_upto_region 1 with fail
  rw [← hW0]
  clear hW0
  go_upto_region 2 with (refine wpList_store_new rfl 25 (.tmp 6) (.tmp 24) rfl _ _ rfl rfl info25s rfl rfl ?_)
  rw [← HW1.out, HS0.out]
  clear d0 d1 HW1 HS0
  go_upto_region 6 with (first | (go_at_call 14; refine ck.mono ?_; rintro e w' ⟨rfl, hw'⟩; obtain rfl := hw'.symm) | (go_at_call 15; refine cb.mono ?_; rintro e w' ⟨rfl, hw'⟩; obtain rfl := hw'.symm))
  go_upto_region 7 with (refine wpList_append_E rfl (.tmp 35) (.tmp 37) 22 rfl (.slice none 0 0) (.slice (some ⟨b1, o1, none⟩) L.length c1) (by first | rfl | simp [Act.eval, Act.put]) (by first | rfl | simp [Act.eval, Act.put]) (P1.out _) ?_; rintro v9 W2 ⟨h02, h9⟩)
  have f1 : W2.cell? ⟨w.heap.size, 1, none⟩ = some (.slice a2 B.length c2) := cell_at h02.2.1 rfl
  have P2' := Lib.hid (P2.out W2 v9 h02 h9)
  clear e0 e1 e2 P1 P2 h02 h9 ck cb
  go_upto_region 8 with (refine wpList_append_E rfl (.tmp 39) (.tmp 41) 23 rfl (.slice none 0 0) (.slice a2 B.length c2) (by first | rfl | simp [Act.eval, Act.put]) (by first | rfl | simp [Act.eval, Act.put]) (P2'.out _) ?_; rintro v10 W3 h3)
  clear f1 P2'
  obtain ⟨q0, q1, q2, q3, q4, q9, q10⟩ := h3
  obtain ⟨a10, c10, rfl⟩ := own_slice q10
  obtain ⟨a9, c9, rfl⟩ := own_slice q9
  have x0 := (q0.cell (p := ⟨b1, o1 + j * 3, none⟩) hb1).trans c0
  have x1 := (q0.cell (p := ⟨b1, o1 + j * 3 + 1, none⟩) hb1).trans c1'
  have x2 := (q0.cell (p := ⟨b1, o1 + j * 3 + 2, none⟩) hb1).trans c2'
  have s0 : W3.cell? ⟨w.heap.size, 0, none⟩ = some (.slice (some ⟨b1, o1, none⟩) L.length c1) := cell_at q1 rfl
  have k0 : W3.cell? ⟨w.heap.size + 1, 0, none⟩ = some (.int .i64 4) := cell_at q2 rfl
  obtain ⟨W4, hW4⟩ : ∃ W4, W4 = W3.alloc (.cells #[.string (bs qn), .slice po pl pc, .slice (some ⟨bF, oF, none⟩) qf.length pd] 29) := ⟨_, rfl⟩
  have hB4 : Below W3.heap.size W3 W4 := by rw [hW4]; exact b_alloc (Below.refl _ _) _
  have n4 : W4.heap[W3.heap.size]? = some (.cells #[.string (bs qn), .slice po pl pc, .slice (some ⟨bF, oF, none⟩) qf.length pd] 29 (0, 0)) := by rw [hW4]; exact heap_alloc_new W3 _
  have r0 : W4.cell? ⟨W3.heap.size, 0, none⟩ = some (.string (bs qn)) := cell_at n4 rfl
  have r1 : W4.cell? ⟨W3.heap.size, 1, none⟩ = some (.slice po pl pc) := cell_at n4 rfl
  have r2 : W4.cell? ⟨W3.heap.size, 2, none⟩ = some (.slice (some ⟨bF, oF, none⟩) qf.length pd) := cell_at n4 rfl
  have p4 : Pr0 w _ _ W4 := Pr0.grown (W := W3) ⟨q0, q1, q2, q3, q4⟩ (grown_of_below hB4 none) (fun g e => by cases e)
  have r10 : W4.cell? ⟨w.heap.size + 1, 10, none⟩ = some (.string (bs fn)) := cell_at p4.2.2.1 rfl
  have cF := HFi.out W4 fn p4.1
  rw [hix] at cF
  have HP4 := Lib.hid p4
  have HN4 := Lib.hid n4
  have HW4 := Lib.hid hW4
  have HS4 : Hid (w.heap.size + 4 ≤ W3.heap.size) := (Array.getElem?_eq_some_iff.1 q4).1
  clear q0 q1 q2 q3 q4 q9 q10 p4 n4 hB4 hW4
  go_upto_region 33 with (refine wpList_store_new rfl 29 (.tmp 14) (.tmp 121) rfl _ _ rfl rfl i294d rfl rfl ?_)
  rw [← HW4.out]
  clear x0 x1 x2 s0 k0 HW4
  go_upto_region 34 with (go_at_call 17; refine cF.mono ?_; rintro e W5 ⟨rfl, hB5⟩)
  have p5 : Pr0 w _ _ W5 := Pr0.grown HP4.out (grown_of_below hB5 none) (fun g e => by cases e)
  have n5 := (hB5.block _ (Array.getElem?_eq_some_iff.1 HN4.out).1).trans HN4.out
  have k0 : W5.cell? ⟨w.heap.size + 1, 0, none⟩ = some (.int .i64 4) := cell_at p5.2.2.1 rfl
  clear cF r0 r1 r2 r10 hB5 HP4 HN4
  have r2 : W5.cell? ⟨W3.heap.size, 2, none⟩ = some (.slice (some ⟨bF, oF, none⟩) qf.length pd) := cell_at n5 rfl
  have y0 := (p5.1.cell (p := ⟨bF, oF + m * 4, none⟩) hbF).trans v0
  have y1 := (p5.1.cell (p := ⟨bF, oF + m * 4 + 1, none⟩) hbF).trans v1
  have y2 := (p5.1.cell (p := ⟨bF, oF + m * 4 + 2, none⟩) hbF).trans v2
  have y3 := (p5.1.cell (p := ⟨bF, oF + m * 4 + 3, none⟩) hbF).trans v3
  obtain ⟨W6, hW6⟩ : ∃ W6, W6 = W5.alloc (.cells #[.string (bs gn), .int .i64 gt, .bool gm, .bool gk] 33) := ⟨_, rfl⟩
  have hB6 : Below W5.heap.size W5 W6 := by rw [hW6]; exact b_alloc (Below.refl _ _) _
  have f6 : W6.heap[W5.heap.size]? = some (.cells #[.string (bs gn), .int .i64 gt, .bool gm, .bool gk] 33 (0, 0)) := by rw [hW6]; exact heap_alloc_new W5 _
  have p6 : Pr0 w _ _ W6 := Pr0.grown p5 (grown_of_below hB6 none) (fun g e => by cases e)
  have HBF : Hid (W3.heap.size < W5.heap.size) := (Array.getElem?_eq_some_iff.1 n5).1
  have n6 := (hB6.block _ (Array.getElem?_eq_some_iff.1 n5).1).trans n5
  have HR1 := Lib.hid (rs_first (k := m) p6 n6 f6 (HQ.out.2.on p6.1) (by omega) (by omega))
  have r26 : W6.cell? ⟨W3.heap.size, 2, none⟩ = some (.slice (some ⟨bF, oF, none⟩) qf.length pd) := cell_at n6 rfl
  have HW6 := Lib.hid hW6
  clear p5 n5 hB6 f6 p6 n6 hW6 v0 v1 v2 v3 hix hvw HSr
  go_upto_region 49 with (refine wpList_store_new rfl 33 (.tmp 17) (.tmp 183) rfl _ _ rfl rfl i334d rfl rfl ?_)
  rw [← HW6.out]
  clear y0 y1 y2 y3 r2 HW6 k0
  go_upto_region 51 with (first | (refine wpList_slHi rfl 27 (.tmp 186) (.tmp 187) rfl 33 i0 Tryz.underlying27 hi0 _ _ _ m (by first | rfl | simp [Act.eval, Act.put]) (by first | rfl | simp [Act.eval, Act.put]) hmc ?_) | (refine wpList_append_E rfl (.tmp 184) (.tmp 188) 27 rfl (.slice none 0 0) (.slice (some ⟨bF, oF, none⟩) m pd) (by first | rfl | simp [Act.eval, Act.put]) (by first | rfl | simp [Act.eval, Act.put]) (HR1.out _) ?_; rintro v1 w1 h1))
  have m2 : w1.cell? ⟨W3.heap.size, 2, none⟩ = some (.slice (some ⟨bF, oF, none⟩) qf.length pd) := cell_at h1.2.1 rfl
  have HC3 := Lib.hid (hasF (HQ.out.2.on h1.1.1))
  have HR2 := Lib.hid (rs_next h1 HBF.out (Nat.le_of_lt (Nat.lt_of_le_of_lt HS4.out HBF.out)) hmlt (by omega) hi0 hz1)
  clear h1 HR1 r26
  go_upto_region 52 with (first | (refine wpList_slLo rfl 27 (.tmp 192) (.tmp 194) rfl 33 i0 Tryz.underlying27 hi0 _ _ _ (m + 1) (by first | rfl | simp [Act.eval, Act.put]) (by first | rfl | simp [Act.eval, Act.put, hw1] | (simp [Act.eval, Act.put]; go_num)) HC3.out hm1 hpd HLN.out ?_; intro v3 h3; have H3 := Lib.hid h3; clear h3) | (refine wpList_append_E rfl (.tmp 190) (.tmp 195) 27 rfl v1 v3 (by first | rfl | simp [Act.eval, Act.put]) (by first | rfl | simp [Act.eval, Act.put]) (HR2.out _ H3.out _) ?_; rintro v2 w2 ⟨⟨av, nv, cv, rfl⟩, h2⟩))
  obtain ⟨p8, nk, nf, ho⟩ := h2
  clear HR2 m2 HC3
  have k0 : w2.cell? ⟨w.heap.size + 1, 0, none⟩ = some (.int .i64 4) := cell_at p8.2.2.1 rfl
  obtain ⟨⟨z0, z1⟩, z2⟩ := rc_box p8 HFH.out nk HS4.out (own_base ho (Nat.le_of_lt (Nat.lt_of_le_of_lt HS4.out (Nat.lt_succ_of_lt HBF.out)))) (fun f hf => HZf.out.1 f (List.mem_of_mem_eraseIdx hf)) HKe.out.1 HKe.out.2
  have HZ := Lib.hid z2
  clear z2 p8 nk nf ho HK HCC HCZ HG HS HQ HFH HKe HZf HFi
  go_upto_region 60 with fail
  obtain ⟨⟨y0, y1, y2, y3⟩, cO⟩ := HZ.out _ rfl
  clear HZ
  go_upto_region 73 with (go_at_call 21; refine cO.mono ?_; rintro e W8 ⟨a', l', c', rfl, ⟨z3, z4⟩, z5⟩; have HZ5 := Lib.hid z5; clear z5)
  obtain ⟨⟨y4, y5⟩, cR⟩ := HZ5.out _ rfl
  clear HZ5 cO y0 y1 y2 y3
  go_upto_region 74 with (go_at_call 4; refine cR.mono ?_; rintro e X ⟨rfl, hE⟩)
  have HE := Lib.hid hE
  clear hE cR y4 y5 z0 z1 z3 z4
  by_cases hx : x = 0
  · obtain ⟨t0, t1, hR⟩ := HE.out.2.2 hx _ rfl
    obtain ⟨y0, y1, y2⟩ := HE.out.1
    have g0 := cell_at (i := 0) y2 rfl
    have g1 := cell_at (i := 1) y2 rfl
    have g2 := frz_at (i := 0) y2
    have g3 := frz_at (i := 1) y2
    have HR := Lib.hid hR
    have HT : Hid (_ ∧ _) := ⟨t0, t1⟩
    clear y2 hR t0 t1 HE
    subst hx
    go_wp2
    obtain ⟨t0, t1⟩ := HT.out
    refine bodyPost_ret (v := .tuple #[.agg #[.slice a' l' c', .slice a2 B.length c2], .int .i64 0]) ?_ rfl ?_
    · simp [results, Tryz.results5, go_sem, t0, t1]
    · exact HR.out
  · obtain ⟨t0, t1, hR⟩ := HE.out.2.1 hx _ rfl
    obtain ⟨y0, y1, y2⟩ := HE.out.1
    have g0 := cell_at (i := 0) y2 rfl
    have g1 := cell_at (i := 1) y2 rfl
    have g2 := frz_at (i := 0) y2
    have g3 := frz_at (i := 1) y2
    have HR := Lib.hid hR
    have HT : Hid (_ ∧ _) := ⟨t0, t1⟩
    clear y2 hR t0 t1 HE
    go_wp2
    obtain ⟨t0, t1⟩ := HT.out
    refine bodyPost_ret (v := .tuple #[.agg #[.slice none 0 0, .slice none 0 0], .int .i64 x]) ?_ rfl ?_
    · simp [results, Tryz.results5, go_sem, t0, t1]
    · exact HR.out
end Go.Proofs.YtkmkhadacppdnaaGreatDoor
