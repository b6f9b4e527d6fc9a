/-
  kinref2.Change of a field that is added, with a value.
-/
import Derived.Test.YtkmkhadacppdnaaGreatDoorM25
import Derived.Test.YtkmkhadacppdnaaGreatDoorM30
import Derived.Test.YtkmkhadacppdnaaGreatDoorM33
import Derived.Test.YtkmkhadacppdnaaGreatDoorM26
import Derived.Test.YtkmkhadacppdnaaGreatDoorM27
import Derived.Test.YtkmkhadacppdnaaGreatDoorM28
import Derived.Test.YtkmkhadacppdnaaGreatDoorM29
import Derived.Test.YtkmkhadacppdnaaGreatDoorM31
import Derived.Test.YtkmkhadacppdnaaGreatDoorM32
import Derived.Test.YtkmkhadacppdnaaGreatDoorM34
import Derived.Test.YtkmkhadacppdnaaGreatDoorM35
import Derived.Test.YtkmkhadacppdnaaGreatDoorM36
import Derived.Test.YtkmkhadacppdnaaGreatDoorM37
import Derived.Test.YtkmkhadacppdnaaGreatDoorM38
namespace Go.Proofs.YtkmkhadacppdnaaGreatDoor
open Go.RowKit
set_option linter.unusedVariables false
set_option linter.unusedSimpArgs false

theorem i293d2t : (Tryz.prog.info? 29).map (fun i => i.size) = some 3 := by kernel_rfl
set_option maxHeartbeats 16000000 in
set_option maxRecDepth 100000 in
theorem rc_3d2t {w : World} {vk vb : Value} {L : List Kd} {B : List Bd} (c : Ch) (hK : IsK w vk L) (hP : Parts w L) (hz : SzK L) (hb : IsB w vb B) (hzb : SzB B) (hs : (sErr L B).2 = 0) (hc : ChIs w c) (hcz : ChSz c) (hw : c.wh = 3) (hx : ¬ idxK c.nm L 0 = -1) (hf : fnd c.fd.nm (fdsAt L c.nm) = false) (hk1 : c.fd.key = false ∧ ¬ c.vt = 0 ∧ vErr c.vt c.vn c.vs = 0 ∧ c.vt = c.fd.t ∧ c.fd.must = true) :
    Calls Tryz.prog 5 #[.agg #[vk, vb], c.one] w (RcP w ((sErr (setFs L c.nm (insA (fdsAt L c.nm) c.fd)) B).2) (setFs L c.nm (insA (fdsAt L c.nm) c.fd)) (B)) := by
  obtain ⟨hG, hn, hnb⟩ := good_of hs
  obtain ⟨wh, nm, ⟨kn, ko, kf, vo, vf⟩, ⟨bn, bf, bt, mn, mx⟩, ⟨fn, ft, fm, fk⟩, vt, vn, vs, tn⟩ := c
  obtain ⟨a1, c1, rfl, _⟩ := hK.sln
  obtain ⟨a2, c2, rfl, _⟩ := hb.sln
  obtain ⟨ao, lo1, co, q1⟩ := hc.1.sl
  obtain ⟨af, lf1, cf, q2⟩ := hc.2.sl
  simp only at q1 q2 hw hc hcz hx hf ⊢
  subst q1 q2 hw
  obtain ⟨W0, hW0⟩ : ∃ W0, W0 = ((w.alloc (.cells #[.slice a1 L.length c1, .slice a2 B.length c2] 25)).alloc (.cells #[.int .i64 3, .string (bs nm), .string (bs kn), .slice ao lo1 co, .slice af lf1 cf, .string (bs bn), .string (bs bf), .string (bs bt), .int .i64 mn, .int .i64 mx, .string (bs fn), .int .i64 ft, .bool fm, .bool fk, .int .i64 vt, .int .i64 vn, .string (bs vs), .string (bs tn)] 37)).alloc (.cells #[.slice none 0 0, .slice none 0 0] 25) := ⟨_, rfl⟩
  have hB0 : Below w.heap.size w W0 := by rw [hW0]; exact b_alloc (b_alloc (b_alloc (Below.refl _ _) _) _) _
  have hs0 : W0.heap.size = w.heap.size + 3 := by rw [hW0]; simp
  have n0 : W0.heap[w.heap.size]? = some (.cells #[.slice a1 L.length c1, .slice a2 B.length c2] 25 (0, 0)) := by rw [hW0]; exact (heap_alloc_old _ _ (by simp; omega)).trans ((heap_alloc_old _ _ (by simp)).trans (heap_alloc_new w _))
  have n1 : W0.heap[w.heap.size + 1]? = some (.cells #[.int .i64 3, .string (bs nm), .string (bs kn), .slice ao lo1 co, .slice af lf1 cf, .string (bs bn), .string (bs bf), .string (bs bt), .int .i64 mn, .int .i64 mx, .string (bs fn), .int .i64 ft, .bool fm, .bool fk, .int .i64 vt, .int .i64 vn, .string (bs vs), .string (bs tn)] 37 (0, 0)) := by
    have := heap_alloc_new (w.alloc (.cells #[.slice a1 L.length c1, .slice a2 B.length c2] 25)) (.cells #[.int .i64 3, .string (bs nm), .string (bs kn), .slice ao lo1 co, .slice af lf1 cf, .string (bs bn), .string (bs bf), .string (bs bt), .int .i64 mn, .int .i64 mx, .string (bs fn), .int .i64 ft, .bool fm, .bool fk, .int .i64 vt, .int .i64 vn, .string (bs vs), .string (bs tn)] 37)
    rw [World.size_alloc] at this; rw [hW0]; exact (heap_alloc_old _ _ (by simp)).trans this
  have n2 : W0.heap[w.heap.size + 2]? = some (.cells #[.slice none 0 0, .slice none 0 0] 25 (0, 0)) := by
    have := heap_alloc_new ((w.alloc (.cells #[.slice a1 L.length c1, .slice a2 B.length c2] 25)).alloc (.cells #[.int .i64 3, .string (bs nm), .string (bs kn), .slice ao lo1 co, .slice af lf1 cf, .string (bs bn), .string (bs bf), .string (bs bt), .int .i64 mn, .int .i64 mx, .string (bs fn), .int .i64 ft, .bool fm, .bool fk, .int .i64 vt, .int .i64 vn, .string (bs vs), .string (bs tn)] 37)) (.cells #[.slice none 0 0, .slice none 0 0] 25)
    rw [World.size_alloc, World.size_alloc] at this; rw [hW0]; exact this
  obtain ⟨W1, hW1⟩ : ∃ W1, W1 = W0.alloc (.cells #[.slice a1 L.length c1, .slice a2 B.length c2] 25) := ⟨_, rfl⟩
  have hB1 : Below W0.heap.size W0 W1 := by rw [hW1]; exact b_alloc (Below.refl _ _) _
  have m3 : W1.heap[w.heap.size + 3]? = some (.cells #[.slice a1 L.length c1, .slice a2 B.length c2] 25 (0, 0)) := by
    have := heap_alloc_new W0 (.cells #[.slice a1 L.length c1, .slice a2 B.length c2] 25)
    rw [hs0] at this; rw [hW1]; exact this
  have h0 : Pr0 w #[.slice a1 L.length c1, .slice a2 B.length c2] #[.int .i64 3, .string (bs nm), .string (bs kn), .slice ao lo1 co, .slice af lf1 cf, .string (bs bn), .string (bs bf), .string (bs bt), .int .i64 mn, .int .i64 mx, .string (bs fn), .int .i64 ft, .bool fm, .bool fk, .int .i64 vt, .int .i64 vn, .string (bs vs), .string (bs tn)] W1 := ⟨on1K hB0 hB1 (Nat.le_refl _), (hB1.block _ (by omega)).trans n0, (hB1.block _ (by omega)).trans n1, (hB1.block _ (by omega)).trans n2, m3⟩
  have P1 := Lib.hid (pro_first h0 hK hP hn)
  have P2 : Hid (∀ W v9, Pr0 w #[.slice a1 L.length c1, .slice a2 B.length c2] #[.int .i64 3, .string (bs nm), .string (bs kn), .slice ao lo1 co, .slice af lf1 cf, .string (bs bn), .string (bs bf), .string (bs bt), .int .i64 mn, .int .i64 mx, .string (bs fn), .int .i64 ft, .bool fm, .bool fk, .int .i64 vt, .int .i64 vn, .string (bs vs), .string (bs tn)] W → W.ownsRow (w.heap.size + 4) 29 3 v9 L.length (cellsK L) → ∀ ty, ∃ v' w', (Builtin.append_ #[23, 23] ty #[.slice none 0 0, .slice a2 B.length c2]).run Tryz.prog W = .ok v' w' ∧ Pro w #[.slice a1 L.length c1, .slice a2 B.length c2] #[.int .i64 3, .string (bs nm), .string (bs kn), .slice ao lo1 co, .slice af lf1 cf, .string (bs bn), .string (bs bf), .string (bs bt), .int .i64 mn, .int .i64 mx, .string (bs fn), .int .i64 ft, .bool fm, .bool fk, .int .i64 vt, .int .i64 vn, .string (bs vs), .string (bs tn)] L B v9 v' w') := fun W v9 q0 q9 => pro_next q0 q9 hb hnb
  have ck := rkind_any (hK.on h0.1) hn nm
  have cb := rbond_any (hb.on h0.1) hnb nm
  have d0 : W0.cell? ⟨w.heap.size, 0, none⟩ = some (.slice a1 L.length c1) := cell_at n0 rfl
  have d1 : W0.cell? ⟨w.heap.size, 1, none⟩ = some (.slice a2 B.length c2) := cell_at n0 rfl
  have e0 : W1.cell? ⟨w.heap.size, 0, none⟩ = some (.slice a1 L.length c1) := cell_at h0.2.1 rfl
  have e1 : W1.cell? ⟨w.heap.size, 1, none⟩ = some (.slice a2 B.length c2) := cell_at h0.2.1 rfl
  have e2 : W1.cell? ⟨w.heap.size + 1, 1, none⟩ = some (.string (bs nm)) := cell_at h0.2.2.1 rfl
  have HK : Hid (IsK w (.slice a1 L.length c1) L ∧ Parts w L ∧ SzK L ∧ IsB w (.slice a2 B.length c2) B ∧ SzB B) := ⟨hK, hP, hz, hb, hzb⟩
  have HCC := Lib.hid hc
  have HCZ := Lib.hid hcz
  have HG := Lib.hid hG
  have HS := Lib.hid hs
  have HW1 := Lib.hid hW1
  have HS0 := Lib.hid hs0
  obtain ⟨j, q, hj, hat, hq, hqn⟩ := nmAt_has hx
  have hjl := (List.getElem?_eq_some_iff.1 hq).1
  rw [hj] at ck
  have hjn : ¬ (j : Int) < 0 := by omega
  have hji : (j : Int) < (L.length : Int) := by omega
  clear hqn
  replace hk1 := Lib.hid hk1
  have hfa := fdsAt_eq hat hq
  rw [hfa] at hf
  obtain ⟨hsr, h8⟩ := hG.srt q (List.mem_of_getElem? hq)
  have hqm : q ∈ L := List.mem_of_getElem? hq
  obtain ⟨b1, o1, e1'⟩ : ∃ b1 o1, a1 = some ⟨b1, o1, none⟩ := by
    rcases hK with ⟨_, h0⟩ | ⟨b, off, cap, e', _⟩
    · rw [h0] at hjl; simp at hjl
    · injection e' with e'; exact ⟨b, off, e'⟩
  subst e1'
  obtain ⟨hb1, c0, c1', c2'⟩ : b1 < w.heap.size ∧ w.cell? ⟨b1, o1 + j * 3, none⟩ = some (.string (bs q.nm)) ∧ w.cell? ⟨b1, o1 + j * 3 + 1, none⟩ = some q.vo ∧ w.cell? ⟨b1, o1 + j * 3 + 2, none⟩ = some q.vf := by
    rcases hK with ⟨_, h0⟩ | ⟨b, off, cap, e', _, _, hb, hl⟩
    · rw [h0] at hjl; simp at hjl
    · injection e' with e'; injection e' with e'; injection e' with e2 e3; subst e2 e3
      exact ⟨hb, hl j q hq⟩
  obtain ⟨qn, qo, qf, qvo, qvf⟩ := q
  obtain ⟨po, pl, pc, epo⟩ := (hP _ hqm).1.sl
  obtain ⟨pf, pm, pd, epf⟩ := (hP _ hqm).2.sl
  simp only at epo epf c0 c1' c2' hf hsr h8
  subst epo epf
  have HQ : Hid (IsS w (.slice po pl pc) qo ∧ IsF w (.slice pf pm pd) qf) := hP _ hqm
  have HFi : Hid (∀ W s, Below w.heap.size w W → Calls Tryz.prog 17 #[.agg #[.string (bs qn), .slice po pl pc, .slice pf pm pd], .string (bs s)] W fun e w' => e = .returned (.int .i64 (idxF s qf 0)) ∧ Below W.heap.size W w') := fun W s hB => rfield_any qn (HQ.out.1.on hB) (HQ.out.2.on hB) (by omega) s
  have HSr := Lib.hid hsr
  have hix : idxF fn qf 0 = -1 := by rw [idxF_srt fn qf 0 hsr, hf]; simp
  have HVal : Hid (∀ W, Calls Tryz.prog 18 #[.agg #[.int .i64 vt, .int .i64 vn, .string (bs vs)]] W fun e w' => e = .returned (.int .i64 (vErr vt vn vs)) ∧ Below W.heap.size W w') := fun W => by
    have := rvalue_any vt vn (bs vs) (by rw [bs_size]; exact hcz.2.2.2.2.1) W
    rw [bs_data] at this
    exact this
  have hKe : setFs L nm (insA (fdsAt L nm) (⟨fn, ft, fm, fk⟩ : Fd)) = L.set j ⟨qn, qo, insA qf ⟨fn, ft, fm, fk⟩, .slice po pl pc, .slice pf pm pd⟩ := by rw [hfa]; exact setFs_eq hat hq _
  generalize setFs L nm (insA (fdsAt L nm) (⟨fn, ft, fm, fk⟩ : Fd)) = K at hKe ⊢
  generalize hX : (sErr K B).2 = x
  have HFH : Hid (FdH w (some ⟨b1, o1, none⟩) c1 a2 c2 L B j ⟨qn, qo, qf, .slice po pl pc, .slice pf pm pd⟩) := ⟨hK, hP, hz, hb, hzb, hn, hq⟩
  have HKe : Hid (K = L.set j ⟨qn, qo, insA qf ⟨fn, ft, fm, fk⟩, .slice po pl pc, .slice pf pm pd⟩ ∧ (sErr K B).2 = x) := ⟨hKe, hX⟩
  have HZf : Hid ((∀ f ∈ qf, f.nm.length ≤ maxLen) ∧ fn.length ≤ maxLen ∧ tn.length ≤ maxLen) := ⟨(hz _ hqm).2, hcz.2.2.2.1, hcz.2.2.2.2.2⟩
  clear hKe hX
  clear hK hP hz hb hzb hc hcz hG hs n0 n1 n2 hB0 hB1 m3 h0 hW1 hs0
  go_enter Tryz.func5, Tryz.ntmps5
  go_upto_region 1 with fail
  rw [← hW0]
  clear hW0
  go_upto_region 2 with (refine wpList_store_new rfl 25 (.tmp 6) (.tmp 24) rfl _ _ rfl rfl info25s rfl rfl ?_)
  rw [← HW1.out, HS0.out]
  clear d0 d1 HW1 HS0
  go_upto_region 6 with (first | (go_at_call 14; refine ck.mono ?_; rintro e w' ⟨rfl, hw'⟩; obtain rfl := hw'.symm) | (go_at_call 15; refine cb.mono ?_; rintro e w' ⟨rfl, hw'⟩; obtain rfl := hw'.symm))
  go_upto_region 7 with (refine wpList_append_E rfl (.tmp 35) (.tmp 37) 22 rfl (.slice none 0 0) (.slice (some ⟨b1, o1, none⟩) L.length c1) (by first | rfl | simp [Act.eval, Act.put]) (by first | rfl | simp [Act.eval, Act.put]) (P1.out _) ?_; rintro v9 W2 ⟨h02, h9⟩)
  have f1 : W2.cell? ⟨w.heap.size, 1, none⟩ = some (.slice a2 B.length c2) := cell_at h02.2.1 rfl
  have P2' := Lib.hid (P2.out W2 v9 h02 h9)
  clear e0 e1 e2 P1 P2 h02 h9 ck cb
  go_upto_region 8 with (refine wpList_append_E rfl (.tmp 39) (.tmp 41) 23 rfl (.slice none 0 0) (.slice a2 B.length c2) (by first | rfl | simp [Act.eval, Act.put]) (by first | rfl | simp [Act.eval, Act.put]) (P2'.out _) ?_; rintro v10 W3 h3)
  clear f1 P2'
  obtain ⟨q0, q1, q2, q3, q4, q9, q10⟩ := h3
  obtain ⟨a10, c10, rfl⟩ := own_slice q10
  obtain ⟨a9, c9, rfl⟩ := own_slice q9
  have x0 := (q0.cell (p := ⟨b1, o1 + j * 3, none⟩) hb1).trans c0
  have x1 := (q0.cell (p := ⟨b1, o1 + j * 3 + 1, none⟩) hb1).trans c1'
  have x2 := (q0.cell (p := ⟨b1, o1 + j * 3 + 2, none⟩) hb1).trans c2'
  have s0 : W3.cell? ⟨w.heap.size, 0, none⟩ = some (.slice (some ⟨b1, o1, none⟩) L.length c1) := cell_at q1 rfl
  have k0 : W3.cell? ⟨w.heap.size + 1, 0, none⟩ = some (.int .i64 3) := cell_at q2 rfl
  obtain ⟨W4, hW4⟩ : ∃ W4, W4 = W3.alloc (.cells #[.string (bs qn), .slice po pl pc, .slice pf pm pd] 29) := ⟨_, rfl⟩
  have hB4 : Below W3.heap.size W3 W4 := by rw [hW4]; exact b_alloc (Below.refl _ _) _
  have n4 : W4.heap[W3.heap.size]? = some (.cells #[.string (bs qn), .slice po pl pc, .slice pf pm pd] 29 (0, 0)) := by rw [hW4]; exact heap_alloc_new W3 _
  have r0 : W4.cell? ⟨W3.heap.size, 0, none⟩ = some (.string (bs qn)) := cell_at n4 rfl
  have r1 : W4.cell? ⟨W3.heap.size, 1, none⟩ = some (.slice po pl pc) := cell_at n4 rfl
  have r2 : W4.cell? ⟨W3.heap.size, 2, none⟩ = some (.slice pf pm pd) := cell_at n4 rfl
  have p4 : Pr0 w _ _ W4 := Pr0.grown (W := W3) ⟨q0, q1, q2, q3, q4⟩ (grown_of_below hB4 none) (fun g e => by cases e)
  have r10 : W4.cell? ⟨w.heap.size + 1, 10, none⟩ = some (.string (bs fn)) := cell_at p4.2.2.1 rfl
  have cF := HFi.out W4 fn p4.1
  rw [hix] at cF
  have HP4 := Lib.hid p4
  have HN4 := Lib.hid n4
  have HW4 := Lib.hid hW4
  have HS4 : Hid (w.heap.size + 4 ≤ W3.heap.size) := (Array.getElem?_eq_some_iff.1 q4).1
  clear q0 q1 q2 q3 q4 q9 q10 p4 n4 hB4 hW4
  go_upto_region 33 with (refine wpList_store_new rfl 29 (.tmp 14) (.tmp 121) rfl _ _ rfl rfl i293d2t rfl rfl ?_)
  rw [← HW4.out]
  clear x0 x1 x2 s0 k0 HW4
  go_upto_region 34 with (go_at_call 17; refine cF.mono ?_; rintro e W5 ⟨rfl, hB5⟩)
  have p5 : Pr0 w _ _ W5 := Pr0.grown HP4.out (grown_of_below hB5 none) (fun g e => by cases e)
  have n5 := (hB5.block _ (Array.getElem?_eq_some_iff.1 HN4.out).1).trans HN4.out
  have k0 : W5.cell? ⟨w.heap.size + 1, 0, none⟩ = some (.int .i64 3) := cell_at p5.2.2.1 rfl
  clear cF r0 r1 r2 r10 hB5 HP4 HN4
  obtain ⟨e1, e2⟩ : fk = false ∧ fm = true := ⟨hk1.out.1, hk1.out.2.2.2.2⟩
  subst e1 e2
  have k11W5 : W5.cell? ⟨w.heap.size + 1, 11, none⟩ = some (.int .i64 ft) := cell_at p5.2.2.1 rfl
  have k12W5 : W5.cell? ⟨w.heap.size + 1, 12, none⟩ = some (.bool true) := cell_at p5.2.2.1 rfl
  have k13W5 : W5.cell? ⟨w.heap.size + 1, 13, none⟩ = some (.bool false) := cell_at p5.2.2.1 rfl
  have k14W5 : W5.cell? ⟨w.heap.size + 1, 14, none⟩ = some (.int .i64 vt) := cell_at p5.2.2.1 rfl
  have k15W5 : W5.cell? ⟨w.heap.size + 1, 15, none⟩ = some (.int .i64 vn) := cell_at p5.2.2.1 rfl
  have k16W5 : W5.cell? ⟨w.heap.size + 1, 16, none⟩ = some (.string (bs vs)) := cell_at p5.2.2.1 rfl
  have hvt : ¬ vt = 0 := hk1.out.2.1
  have cV := HVal.out W5
  rw [show vErr vt vn vs = 0 from hk1.out.2.2.1] at cV
  have hvf : Hid (vt = ft ∧ True) := ⟨hk1.out.2.2.2.1, trivial⟩
  have HP5 := Lib.hid p5
  have HN5 := Lib.hid n5
  clear p5 n5 HVal hix hk1
  go_upto_region 41 with (go_at_call 18; refine cV.mono ?_; rintro e W6 ⟨rfl, hB6⟩)
  have p6 : Pr0 w _ _ W6 := Pr0.grown HP5.out (grown_of_below hB6 none) (fun g e => by cases e)
  have n6 := (hB6.block _ (Array.getElem?_eq_some_iff.1 HN5.out).1).trans HN5.out
  have k14W6 : W6.cell? ⟨w.heap.size + 1, 14, none⟩ = some (.int .i64 vt) := cell_at p6.2.2.1 rfl
  rw [show vt = ft from hvf.out.1] at k14W6
  clear cV k0 k11W5 k12W5 k13W5 k14W5 k15W5 k16W5 HP5 HN5 hB6
  have y2K : W6.cell? ⟨W3.heap.size, 2, none⟩ = some (.slice pf pm pd) := cell_at n6 rfl
  have k10W6 : W6.cell? ⟨w.heap.size + 1, 10, none⟩ = some (.string (bs fn)) := cell_at p6.2.2.1 rfl
  have k11W6 : W6.cell? ⟨w.heap.size + 1, 11, none⟩ = some (.int .i64 ft) := cell_at p6.2.2.1 rfl
  have k12W6 : W6.cell? ⟨w.heap.size + 1, 12, none⟩ = some (.bool true) := cell_at p6.2.2.1 rfl
  have k13W6 : W6.cell? ⟨w.heap.size + 1, 13, none⟩ = some (.bool false) := cell_at p6.2.2.1 rfl
  have cW := rc_with (q := ⟨qn, qo, qf, .slice po pl pc, .slice pf pm pd⟩) (f := ⟨fn, ft, true, false⟩) p6 HFH.out n6 HS4.out (HQ.out.2.on p6.1) (by omega) HZf.out.1 HZf.out.2.1 HKe.out.1 HKe.out.2
  clear p6 n6 HK HCC HCZ HG HS HQ HFH HKe HZf HS4
  go_upto_region 60 with (go_at_call 19; refine cW.mono ?_; rintro e W7 ⟨au, lu, cu, rfl, ⟨z0, z1⟩, z2⟩; have HZ := Lib.hid z2; clear z2)
  clear cW y2K
  obtain ⟨⟨y0, y1, y2, y3⟩, cO⟩ := HZ.out _ rfl
  clear HZ
  go_upto_region 73 with (go_at_call 21; refine cO.mono ?_; rintro e W8 ⟨a', l', c', rfl, ⟨z3, z4⟩, z5⟩; have HZ5 := Lib.hid z5; clear z5)
  obtain ⟨⟨y4, y5⟩, cR⟩ := HZ5.out _ rfl
  clear HZ5 cO y0 y1 y2 y3
  go_upto_region 74 with (go_at_call 4; refine cR.mono ?_; rintro e X ⟨rfl, hE⟩)
  have HE := Lib.hid hE
  clear hE cR y4 y5 z0 z1 z3 z4
  by_cases hx : x = 0
  · obtain ⟨t0, t1, hR⟩ := HE.out.2.2 hx _ rfl
    obtain ⟨y0, y1, y2⟩ := HE.out.1
    have g0 := cell_at (i := 0) y2 rfl
    have g1 := cell_at (i := 1) y2 rfl
    have g2 := frz_at (i := 0) y2
    have g3 := frz_at (i := 1) y2
    have HR := Lib.hid hR
    have HT : Hid (_ ∧ _) := ⟨t0, t1⟩
    clear y2 hR t0 t1 HE
    subst hx
    go_wp2
    obtain ⟨t0, t1⟩ := HT.out
    refine bodyPost_ret (v := .tuple #[.agg #[.slice a' l' c', .slice a2 B.length c2], .int .i64 0]) ?_ rfl ?_
    · simp [results, Tryz.results5, go_sem, t0, t1]
    · exact HR.out
  · obtain ⟨t0, t1, hR⟩ := HE.out.2.1 hx _ rfl
    obtain ⟨y0, y1, y2⟩ := HE.out.1
    have g0 := cell_at (i := 0) y2 rfl
    have g1 := cell_at (i := 1) y2 rfl
    have g2 := frz_at (i := 0) y2
    have g3 := frz_at (i := 1) y2
    have HR := Lib.hid hR
    have HT : Hid (_ ∧ _) := ⟨t0, t1⟩
    clear y2 hR t0 t1 HE
    go_wp2
    obtain ⟨t0, t1⟩ := HT.out
    refine bodyPost_ret (v := .tuple #[.agg #[.slice none 0 0, .slice none 0 0], .int .i64 x]) ?_ rfl ?_
    · simp [results, Tryz.results5, go_sem, t0, t1]
    · exact HR.out
end Go.Proofs.YtkmkhadacppdnaaGreatDoor

/-
  kinref2.Change of any change of a schema that is right.
-/
namespace Go.Proofs.YtkmkhadacppdnaaGreatDoor
open Go.RowKit
set_option linter.unusedVariables false
set_option linter.unusedSimpArgs false

theorem rcP_bad {w : World} {x : Int} {K K' : List Kd} {B B' : List Bd} {e : Ending} {w' : World} (hx : ¬ x = 0) (h : RcP w x K B e w') : RcP w x K' B' e w' := by
  obtain ⟨uk, ub, M, h1, _, h3, h4⟩ := h
  exact ⟨uk, ub, M, h1, fun h => absurd h hx, h3, h4⟩
theorem rc_yes {w : World} {vk vb : Value} {L : List Kd} {B : List Bd} {c : Ch} (h0 : cE L B c = 0) {K : List Kd} {D : List Bd} (hk : cK L c = K) (hb : cB B c = D) (h : Calls Tryz.prog 5 #[.agg #[vk, vb], c.one] w (RcP w (sErr K D).2 K D)) : Calls Tryz.prog 5 #[.agg #[vk, vb], c.one] w (RcP w (apE L B c) (cK L c) (cB B c)) := by
  unfold apE
  rw [if_pos h0, hk, hb]
  exact h
theorem rc_no {w : World} {vk vb : Value} {L : List Kd} {B : List Bd} {c : Ch} (x : Int) (h0 : cE L B c = x) (hx : ¬ x = 0) {K : List Kd} {D : List Bd} (h : Calls Tryz.prog 5 #[.agg #[vk, vb], c.one] w (RcP w x K D)) : Calls Tryz.prog 5 #[.agg #[vk, vb], c.one] w (RcP w (apE L B c) (cK L c) (cB B c)) := by
  unfold apE
  rw [if_neg (by rw [h0]; exact hx), h0]
  exact h.mono fun e w' => rcP_bad hx
theorem rchange_any {w : World} {vk vb : Value} {L : List Kd} {B : List Bd} (c : Ch) (hK : IsK w vk L) (hP : Parts w L) (hz : SzK L) (hb : IsB w vb B) (hzb : SzB B) (hs : (sErr L B).2 = 0) (hc : ChIs w c) (hcz : ChSz c) :
    Calls Tryz.prog 5 #[.agg #[vk, vb], c.one] w (RcP w (apE L B c) (cK L c) (cB B c)) := by
  by_cases h1 : c.wh = 1
  · exact rc_yes (K := L ++ [c.kd]) (D := B) (by simp [cE, h1]) (by simp [cK, h1]) (by simp [cB, h1]) (rc_1 c hK hP hz hb hzb hs hc hcz h1)
  by_cases h2 : c.wh = 2
  · have eE : cE L B c = e2 L B c.nm := by simp [cE, h2]
    by_cases hx : idxK c.nm L 0 = -1
    · exact rc_no 5 (by rw [eE]; unfold e2; rw [if_pos hx]) (by decide) (rc_2n c hK hP hz hb hzb hs hc hcz h2 hx)
    · have key := rc_2 c hK hP hz hb hzb hs hc hcz h2 hx
      by_cases hu : usK L c.nm = true
      · rw [if_pos hu] at key
        exact rc_no 6 (by rw [eE]; unfold e2; rw [if_neg hx, if_pos hu]) (by decide) key
      · rw [if_neg hu] at key
        by_cases hv : usB B c.nm = true
        · rw [if_pos hv] at key
          exact rc_no 6 (by rw [eE]; unfold e2; rw [if_neg hx, if_neg hu, if_pos hv]) (by decide) key
        · rw [if_neg hv] at key
          exact rc_yes (by rw [eE]; unfold e2; rw [if_neg hx, if_neg hu, if_neg hv]) (by simp [cK, h2]) (by simp [cB, h2]) key
  by_cases h3 : c.wh = 3
  · have eE : cE L B c = e3 L c := by simp [cE, h3]
    by_cases hx : idxK c.nm L 0 = -1
    · exact rc_no 5 (by rw [eE]; unfold e3; rw [if_pos hx]) (by decide) (rc_3n c hK hP hz hb hzb hs hc hcz h3 hx)
    · by_cases hf : fnd c.fd.nm (fdsAt L c.nm) = true
      · exact rc_no 7 (by rw [eE]; unfold e3; rw [if_neg hx, if_pos hf]) (by decide) (rc_3a c hK hP hz hb hzb hs hc hcz h3 hx hf)
      · have hf' : fnd c.fd.nm (fdsAt L c.nm) = false := by simpa using hf
        have eA : cE L B c = adE c.fd c.vt c.vn c.vs := by rw [eE]; unfold e3; rw [if_neg hx, if_neg hf]
        have eK : cK L c = setFs L c.nm (insA (fdsAt L c.nm) c.fd) := by simp [cK, h3]
        have eB : cB B c = B := by simp [cB, h3]
        cases hk : c.fd.key with
        | true => exact rc_no 3 (by rw [eA]; simp [adE, hk]) (by decide) (rc_3b1 c hK hP hz hb hzb hs hc hcz h3 hx hf' hk)
        | false =>
          by_cases ht : c.vt = 0
          · cases hm : c.fd.must with
            | true => exact rc_no 3 (by rw [eA]; simp [adE, hk, ht, hm]) (by decide) (rc_3b2 c hK hP hz hb hzb hs hc hcz h3 hx hf' ⟨hk, hm, ht⟩)
            | false => exact rc_yes (by rw [eA]; simp [adE, hk, ht, hm]) eK eB (rc_3d1 c hK hP hz hb hzb hs hc hcz h3 hx hf' ⟨hk, hm, ht⟩)
          · by_cases hv : vErr c.vt c.vn c.vs = 0
            · by_cases hft : c.vt = c.fd.t
              · refine rc_yes ?_ eK eB (by
                  cases hm : c.fd.must with
                  | false => exact rc_3d2f c hK hP hz hb hzb hs hc hcz h3 hx hf' ⟨hk, ht, hv, hft, hm⟩
                  | true => exact rc_3d2t c hK hP hz hb hzb hs hc hcz h3 hx hf' ⟨hk, ht, hv, hft, hm⟩)
                rw [eA]; unfold adE; rw [if_neg (by rw [hk]; decide), if_neg ht, if_pos hv, if_pos hft]
              · refine rc_no 8 ?_ (by decide) (rc_3c2 c hK hP hz hb hzb hs hc hcz h3 hx hf' ⟨hk, ht, hv, hft⟩)
                rw [eA]; unfold adE; rw [if_neg (by rw [hk]; decide), if_neg ht, if_pos hv, if_neg hft]
            · refine rc_no (vErr c.vt c.vn c.vs) ?_ hv (rc_3c1 c hK hP hz hb hzb hs hc hcz h3 hx hf' ⟨hk, ht, hv⟩)
              rw [eA]; unfold adE; rw [if_neg (by rw [hk]; decide), if_neg ht, if_neg hv]
  by_cases h4 : c.wh = 4
  · have eE : cE L B c = e4 L c.nm c.fd.nm := by simp [cE, h4]
    by_cases hx : idxK c.nm L 0 = -1
    · exact rc_no 5 (by rw [eE]; unfold e4; rw [if_pos hx]) (by decide) (rc_4n c hK hP hz hb hzb hs hc hcz h4 hx)
    · by_cases hf : fnd c.fd.nm (fdsAt L c.nm) = true
      · exact rc_yes (by rw [eE]; unfold e4; rw [if_neg hx, if_pos hf]) (by simp [cK, h4]) (by simp [cB, h4]) (rc_4d c hK hP hz hb hzb hs hc hcz h4 hx hf)
      · exact rc_no 5 (by rw [eE]; unfold e4; rw [if_neg hx, if_neg hf]) (by decide) (rc_4a c hK hP hz hb hzb hs hc hcz h4 hx (by simpa using hf))
  by_cases h5 : c.wh = 5
  · exact rc_yes (K := L) (D := B ++ [c.bd]) (by simp [cE, h5]) (by simp [cK, h5]) (by simp [cB, h5]) (rc_5 c hK hP hz hb hzb hs hc hcz h5)
  by_cases h6 : c.wh = 6
  · have eE : cE L B c = e6 B c.nm := by simp [cE, h6]
    by_cases hx : idxB c.nm B 0 = -1
    · exact rc_no 5 (by rw [eE]; unfold e6; rw [if_pos hx]) (by decide) (rc_6n c hK hP hz hb hzb hs hc hcz h6 hx)
    · exact rc_yes (by rw [eE]; unfold e6; rw [if_neg hx]) (by simp [cK, h6]) (by simp [cB, h6]) (rc_6 c hK hP hz hb hzb hs hc hcz h6 hx)
  by_cases h7 : c.wh = 7
  · have eE : cE L B c = e7 L c.nm c.fd.nm c.tn := by simp [cE, h7]
    by_cases hx : idxK c.nm L 0 = -1
    · exact rc_no 5 (by rw [eE]; simp [e7, e4, hx]) (by decide) (rc_7n c hK hP hz hb hzb hs hc hcz h7 hx)
    · by_cases hf : fnd c.fd.nm (fdsAt L c.nm) = true
      · have e4' : e4 L c.nm c.fd.nm = 0 := by unfold e4; rw [if_neg hx, if_pos hf]
        by_cases hn : nErr c.tn = 0
        · by_cases hg : fnd c.tn (fdsAt L c.nm) = true
          · exact rc_no 7 (by rw [eE]; unfold e7; rw [if_pos e4', if_pos hn, if_pos hg]) (by decide) (rc_7c c hK hP hz hb hzb hs hc hcz h7 hx hf ⟨hn, hg⟩)
          · exact rc_yes (by rw [eE]; unfold e7; rw [if_pos e4', if_pos hn, if_neg hg]) (by simp [cK, h7]) (by simp [cB, h7]) (rc_7d c hK hP hz hb hzb hs hc hcz h7 hx hf ⟨hn, by simpa using hg⟩)
        · have hn2 : nErr c.tn = 2 := nErr_two hn
          exact rc_no 2 (by rw [eE]; unfold e7; rw [if_pos e4', if_neg hn, hn2]) (by decide) (rc_7b c hK hP hz hb hzb hs hc hcz h7 hx hf hn2)
      · exact rc_no 5 (by rw [eE]; unfold e7 e4; rw [if_neg hx, if_neg hf]; exact if_neg (by decide)) (by decide) (rc_7a c hK hP hz hb hzb hs hc hcz h7 hx (by simpa using hf))
  by_cases h8 : c.wh = 8
  · have eE : cE L B c = e6 B c.nm := by simp [cE, h8]
    by_cases hx : idxB c.nm B 0 = -1
    · exact rc_no 5 (by rw [eE]; unfold e6; rw [if_pos hx]) (by decide) (rc_8n c hK hP hz hb hzb hs hc hcz h8 hx)
    · exact rc_yes (by rw [eE]; unfold e6; rw [if_neg hx]) (by simp [cK, h8]) (by simp [cB, h8]) (rc_8 c hK hP hz hb hzb hs hc hcz h8 hx)
  exact rc_no 1 (by simp [cE, h1, h2, h3, h4, h5, h6, h7, h8]) (by decide) (rc_0 c hK hP hz hb hzb hs hc hcz ⟨h1, h2, h3, h4, h5, h6, h7, h8⟩)
end Go.Proofs.YtkmkhadacppdnaaGreatDoor
