/-
  The law KindTells where the kind is there.
-/
import Derived.Test.YtholhlibcofojabDoorTellA
namespace Go.Proofs.YtholhlibcofojabDoor
open Go.RowKit
set_option linter.unusedVariables false
set_option linter.unusedSimpArgs false

/-- What is known where the kind is there. -/
structure TC (L : List Kd) (a : Nm) (j : Nat) (q : Kd) : Prop where
  good : Good L
  len : L.length ≤ 12
  idx : idxK a L 0 = (j : Int)
  at_ : L[j]? = some q
  nm : q.nm = a
  kinf : kin L a = L.filter fun x => hasN (names L a) x.nm
  fs : fieldsOf (kin L a) = some (fields L a) ∧ (fields L a).length ≤ 8
  klen : (nms (kin L a)).length ≤ 1000
  ulen : (under L a).length ≤ 1000
theorem tc_of {L : List Kd} {a : Nm} (h : nmErr L a = 0) : ∃ j q, TC L a j q := by
  obtain ⟨hG, hn, j, q, hx, hat, hq, hqa⟩ := nmErr_zero h
  have hk := kin_filter h
  refine ⟨j, q, hG, hn, hx, hq, hqa, hk, ?_, ?_, ?_⟩
  · obtain ⟨l, h1, h2⟩ := hG.fields hq
    have : fieldsOf (kin L a) = some l := by unfold kin; rw [hat]; exact h1
    unfold fields
    rw [this]; exact ⟨rfl, h2⟩
  · rw [hk]; unfold nms
    have := List.length_filter_le (fun x => hasN (names L a) x.nm) L
    simp only [List.length_map]; omega
  · unfold under
    have := unds_len L a (List.range L.length)
    simp only [List.length_range] at this; omega

set_option maxHeartbeats 8000000 in
set_option maxRecDepth 100000 in
theorem tells_C1 {L : List Kd} (b off cap : Nat) (a c : Nm) (w : World) (hb : b < w.heap.size) (HL : Hid (LiesK w b off L)) (hT : TK w (.slice (some ⟨b, off, none⟩) L.length cap) L) (j : Nat) (q : Kd) (HC : Hid (TC L a j q)) (n1 : Nm) (HKS : Hid (ksErr L = (n1, 0))) (HN : Hid (nmErr L a = 0)) (hq : Hid (idxK c L 0 = -1)) : Calls Tryd.prog 4 #[.slice (some ⟨b, off, none⟩) L.length cap, .string (bs a), .string (bs c)] w fun e w' => e = .returned (.bool true) ∧ Below w.heap.size w w' := by
  have HT : Hid (TK w (.slice (some ⟨b, off, none⟩) L.length cap) L) := hT
  have HE : Hid (isErr L a c = 5 ∧ isKin L a c = false) := by
    have e : isErr L a c = 5 := by unfold isErr; rw [if_pos HN.out, hq.out, if_pos rfl]
    exact ⟨e, by unfold isKin; rw [e, if_neg (by decide)]⟩
  have HQ : Hid (∀ W, Below w.heap.size w W → Calls Tryd.prog 13 #[.slice (some ⟨b, off, none⟩) L.length cap, .string (bs a)] W fun e w' => e = .returned (.int .i64 (j : Int)) ∧ w' = W) := fun W hB => by
    have := rkind_some b off cap L a W (HL.out.on hb hB) HC.out.len; rw [HC.out.idx] at this; exact this
  have HQc : Hid (∀ W, Below w.heap.size w W → Calls Tryd.prog 13 #[.slice (some ⟨b, off, none⟩) L.length cap, .string (bs c)] W fun e w' => e = .returned (.int .i64 (-1)) ∧ w' = W) := fun W hB => by
    have := rkind_some b off cap L c W (HL.out.on hb hB) HC.out.len; rw [hq.out] at this; exact this
  have HSK : Hid (∀ W, Below w.heap.size w W → b < W.heap.size ∧ LiesK W b off L ∧ Parts W L ∧ Small L ∧ L.length ≤ 12 ∧ Right L) := fun W hB => ⟨Nat.lt_of_lt_of_le hb hB.size, HL.out.on hb hB, HT.out.2.1.on hB, HC.out.good.small, HC.out.len, HC.out.good.right⟩
  have HKF : Hid (kinF L a = kin L a) := HC.out.kinf.symm
  clear hT
  obtain ⟨k1, k2, k3, k4⟩ := HT.out
  have c1 := rkinds_any k1 k2 k3
  rw [HKS.out] at c1
  clear k1 k2 k3 k4
  go_enter Tryd.func4, Tryd.ntmps4
  go_wp2_with (go_at_call 11; refine (c1).mono ?_; rintro e W1 ⟨rfl, hB1⟩; refine Hid.out ?_)
  refine Lib.hid ?_
  obtain ⟨k1, k2, k3, k4⟩ := HT.out.on hB1
  have c2 := kcheck_any k1 k2 k3
  rw [HKS.out] at c2
  clear k1 k2 k3 k4 c1
  go_wp2_with (go_at_call 12; refine (c2).mono ?_; rintro e W2 ⟨rfl, hB2⟩; refine Hid.out ?_)
  refine Lib.hid ?_
  have hA2 := on1 hB1 hB2 (Nat.le_refl _)
  have c3 := error_any 0 W2 (HT.out.on hA2).2.2.2
  clear c2 hB1 hB2
  go_wp2_with (go_at_call 9; refine (c3).mono ?_; rintro e W3 ⟨rfl, hB3⟩; refine Hid.out ?_)
  refine Lib.hid ?_
  have hA3 := on1 hA2 hB3 (Nat.le_refl _)
  have cQ := HQ.out W3 hA3
  obtain ⟨s1, s2, s3, s4, s5, s6⟩ := HSK.out W3 hA3
  have c4 := rkin_some b off cap L a j q W3 s1 s2 s3 s4 s5 s6 HC.out.idx HC.out.at_ HC.out.nm
  rw [← HC.out.kinf] at c4
  clear c3 hB3 hA2 s1 s2 s3 s4 s5 s6
  go_wp2_with (first | (go_at_call 13; refine cQ.mono ?_; rintro e w' ⟨rfl, rfl⟩) | (go_at_call 14; refine c4.mono ?_; rintro e W4 ⟨x4, rfl, ho4, hB4⟩; refine Hid.out ?_))
  refine Lib.hid ?_
  have hA4 := on1 hA3 hB4 (Nat.le_refl _)
  have hi4 : Hid (IsS W4 x4 (nms (kin L a))) := own_isS ho4
  obtain ⟨s1, s2, s3, s4, s5, s6⟩ := HSK.out W4 hA4
  have c5 := runder_some b off cap L a W4 s1 s2 s3 s4 s5 s6
  clear c4 cQ hB4 ho4 hA3 s1 s2 s3 s4 s5 s6
  go_wp2_with (go_at_call 15; refine (c5).mono ?_; rintro e W5 ⟨x5, rfl, ho5, hB5⟩; refine Hid.out ?_)
  refine Lib.hid ?_
  have hA5 := on1 hA4 hB5 (Nat.le_refl _)
  have hi5 : Hid (IsS W5 x5 (under L a) ∧ IsS W5 x4 (nms (kin L a))) := ⟨own_isS ho5, hi4.out.on hB5⟩
  obtain ⟨s1, s2, s3, s4, s5, s6⟩ := HSK.out W5 hA5
  have c6 := rfields_some b off cap L a j q W5 s1 s2 s3 s4 s5 s6 HC.out.at_ HC.out.nm
  rw [HKF.out] at c6
  rw [show fOf [] ((kin L a).flatMap Kd.fs) = some (fields L a) from HC.out.fs.1] at c6
  clear c5 hB5 ho5 hA4 s1 s2 s3 s4 s5 s6
  go_wp2_with (go_at_call 16; refine (c6).mono ?_; rintro e W6 ⟨x6, rfl, ho6, _, hB6⟩; refine Hid.out ?_)
  refine Lib.hid ?_
  have hA6 := on1 hA5 hB6 (Nat.le_refl _)
  have hi6 : Hid (IsS W6 x5 (under L a) ∧ IsS W6 x4 (nms (kin L a)) ∧ IsF W6 x6 (fields L a)) := ⟨hi5.out.1.on hB6, hi5.out.2.on hB6, own_isF (ho6 _ rfl)⟩
  have c7 := kin_any (HT.out.on hA6).1 (HT.out.on hA6).2.1 (HT.out.on hA6).2.2.1 a
  clear c6 hB6 ho6 hA5
  go_wp2_with (go_at_call 17; refine (c7).mono ?_; rintro e W7 ⟨x7, rfl, ho7, _, hB7⟩; refine Hid.out ?_)
  refine Lib.hid ?_
  rw [HN.out]
  have hA7 := on1 hA6 hB7 (Nat.le_refl _)
  have hi7 : Hid (IsS W7 x7 (nms (kin L a))) := own_isS (ho7 HN.out)
  have hD7 := hB7
  have c8 := error_any 0 W7 (HT.out.on hA7).2.2.2
  clear c7 hB7 ho7
  go_wp2_with (go_at_call 9; refine (c8).mono ?_; rintro e W8 ⟨rfl, hB8⟩; refine Hid.out ?_)
  refine Lib.hid ?_
  have hA8 := on1 hA7 hB8 (Nat.le_refl _)
  have hD8 := on1 hD7 hB8 (Nat.le_refl _)
  have c9 := texts_same (hi7.out.on hB8) (hi6.out.2.1.on hD8) HC.out.klen
  clear c8 hB8 hA7 hD7
  go_wp2_with (go_at_call 18; refine (c9).mono ?_; rintro e W9 ⟨rfl, hB9⟩; refine Hid.out ?_)
  refine Lib.hid ?_
  have hA9 := on1 hA8 hB9 (Nat.le_refl _)
  have hD9 := on1 hD8 hB9 (Nat.le_refl _)
  have c10 := under_any (HT.out.on hA9).1 (HT.out.on hA9).2.1 (HT.out.on hA9).2.2.1 a
  clear c9 hB9 hA8 hD8
  go_wp2_with (go_at_call 19; refine (c10).mono ?_; rintro e W10 ⟨x10, rfl, ho10, _, hB10⟩; refine Hid.out ?_)
  refine Lib.hid ?_
  rw [HN.out]
  have hA10 := on1 hA9 hB10 (Nat.le_refl _)
  have hD10 := on1 hD9 hB10 (Nat.le_refl _)
  have hi10 : Hid (IsS W10 x10 (under L a)) := own_isS (ho10 HN.out)
  have c11 := error_any 0 W10 (HT.out.on hA10).2.2.2
  clear c10 hB10 ho10 hA9 hD9
  go_wp2_with (go_at_call 9; refine (c11).mono ?_; rintro e W11 ⟨rfl, hB11⟩; refine Hid.out ?_)
  refine Lib.hid ?_
  have hA11 := on1 hA10 hB11 (Nat.le_refl _)
  have hD11 := on1 hD10 hB11 (Nat.le_refl _)
  have c12 := texts_same (hi10.out.on hB11) (hi6.out.1.on hD11) HC.out.ulen
  clear c11 hB11 hA10 hD10
  go_wp2_with (go_at_call 18; refine (c12).mono ?_; rintro e W12 ⟨rfl, hB12⟩; refine Hid.out ?_)
  refine Lib.hid ?_
  have hA12 := on1 hA11 hB12 (Nat.le_refl _)
  have hD12 := on1 hD11 hB12 (Nat.le_refl _)
  have c13 := fields_any (HT.out.on hA12).1 (HT.out.on hA12).2.1 (HT.out.on hA12).2.2.1 a
  clear c12 hB12 hA11 hD11
  go_wp2_with (go_at_call 20; refine (c13).mono ?_; rintro e W13 ⟨x13, rfl, ho13, _, hB13⟩; refine Hid.out ?_)
  refine Lib.hid ?_
  rw [HN.out]
  have hA13 := on1 hA12 hB13 (Nat.le_refl _)
  have hD13 := on1 hD12 hB13 (Nat.le_refl _)
  have hi13 : Hid (IsF W13 x13 (fields L a)) := own_isF (ho13 HN.out).1
  have c14 := error_any 0 W13 (HT.out.on hA13).2.2.2
  clear c13 hB13 ho13 hA12 hD12
  go_wp2_with (go_at_call 9; refine (c14).mono ?_; rintro e W14 ⟨rfl, hB14⟩; refine Hid.out ?_)
  refine Lib.hid ?_
  have hA14 := on1 hA13 hB14 (Nat.le_refl _)
  have hD14 := on1 hD13 hB14 (Nat.le_refl _)
  have c15 := fields_same (hi13.out.on hB14) (hi6.out.2.2.on hD14) (Nat.le_trans HC.out.fs.2 (by omega))
  clear c14 hB14 hA13 hD13
  go_wp2_with (go_at_call 21; refine (c15).mono ?_; rintro e W15 ⟨rfl, hB15⟩; refine Hid.out ?_)
  refine Lib.hid ?_
  have hA15 := on1 hA14 hB15 (Nat.le_refl _)
  have cQ := HQc.out W15 hA15
  clear c15 hB15 hA14 hD14
  have c17 := is_any (HT.out.on hA15).1 (HT.out.on hA15).2.1 (HT.out.on hA15).2.2.1 a c
  rw [HE.out.1, HE.out.2] at c17
  go_wp2_with (first | (go_at_call 13; refine cQ.mono ?_; rintro e w' ⟨rfl, rfl⟩) | (go_at_call 23; refine c17.mono ?_; rintro e W17 ⟨rfl, hB17⟩; refine Hid.out ?_))
  refine Lib.hid ?_
  have hA17 := on1 hA15 hB17 (Nat.le_refl _)
  have c18 := error_any 5 W17 (HT.out.on hA17).2.2.2
  clear c17 cQ hB17 hA15
  go_wp2_with (go_at_call 9; refine (c18).mono ?_; rintro e W18 ⟨rfl, hB18⟩; refine Hid.out ?_)
  refine Lib.hid ?_
  have hA18 := on1 hA17 hB18 (Nat.le_refl _)
  clear c18 hB18 hA17
  all_goals
    go_wp2
    go_ret
    exact ⟨rfl, hA18⟩
set_option maxHeartbeats 8000000 in
set_option maxRecDepth 100000 in
theorem tells_C2 {L : List Kd} (b off cap : Nat) (a c : Nm) (w : World) (hb : b < w.heap.size) (HL : Hid (LiesK w b off L)) (hT : TK w (.slice (some ⟨b, off, none⟩) L.length cap) L) (j : Nat) (q : Kd) (HC : Hid (TC L a j q)) (n1 : Nm) (HKS : Hid (ksErr L = (n1, 0))) (HN : Hid (nmErr L a = 0)) (jc : Nat) (hq : Hid (idxK c L 0 = (jc : Int))) : Calls Tryd.prog 4 #[.slice (some ⟨b, off, none⟩) L.length cap, .string (bs a), .string (bs c)] w fun e w' => e = .returned (.bool true) ∧ Below w.heap.size w w' := by
  have HT : Hid (TK w (.slice (some ⟨b, off, none⟩) L.length cap) L) := hT
  have HE : Hid (isErr L a c = 0 ∧ isKin L a c = hasN (nms (kin L a)) c) := by
    have e : isErr L a c = 0 := by unfold isErr; rw [if_pos HN.out, hq.out, if_neg (by omega)]
    exact ⟨e, by unfold isKin; rw [e, if_pos rfl]⟩
  have HQ : Hid (∀ W, Below w.heap.size w W → Calls Tryd.prog 13 #[.slice (some ⟨b, off, none⟩) L.length cap, .string (bs a)] W fun e w' => e = .returned (.int .i64 (j : Int)) ∧ w' = W) := fun W hB => by
    have := rkind_some b off cap L a W (HL.out.on hb hB) HC.out.len; rw [HC.out.idx] at this; exact this
  have HQc : Hid (∀ W, Below w.heap.size w W → Calls Tryd.prog 13 #[.slice (some ⟨b, off, none⟩) L.length cap, .string (bs c)] W fun e w' => e = .returned (.int .i64 ((jc : Int))) ∧ w' = W) := fun W hB => by
    have := rkind_some b off cap L c W (HL.out.on hb hB) HC.out.len; rw [hq.out] at this; exact this
  have HSK : Hid (∀ W, Below w.heap.size w W → b < W.heap.size ∧ LiesK W b off L ∧ Parts W L ∧ Small L ∧ L.length ≤ 12 ∧ Right L) := fun W hB => ⟨Nat.lt_of_lt_of_le hb hB.size, HL.out.on hb hB, HT.out.2.1.on hB, HC.out.good.small, HC.out.len, HC.out.good.right⟩
  have HKF : Hid (kinF L a = kin L a) := HC.out.kinf.symm
  clear hT
  obtain ⟨k1, k2, k3, k4⟩ := HT.out
  have c1 := rkinds_any k1 k2 k3
  rw [HKS.out] at c1
  clear k1 k2 k3 k4
  go_enter Tryd.func4, Tryd.ntmps4
  go_wp2_with (go_at_call 11; refine (c1).mono ?_; rintro e W1 ⟨rfl, hB1⟩; refine Hid.out ?_)
  refine Lib.hid ?_
  obtain ⟨k1, k2, k3, k4⟩ := HT.out.on hB1
  have c2 := kcheck_any k1 k2 k3
  rw [HKS.out] at c2
  clear k1 k2 k3 k4 c1
  go_wp2_with (go_at_call 12; refine (c2).mono ?_; rintro e W2 ⟨rfl, hB2⟩; refine Hid.out ?_)
  refine Lib.hid ?_
  have hA2 := on1 hB1 hB2 (Nat.le_refl _)
  have c3 := error_any 0 W2 (HT.out.on hA2).2.2.2
  clear c2 hB1 hB2
  go_wp2_with (go_at_call 9; refine (c3).mono ?_; rintro e W3 ⟨rfl, hB3⟩; refine Hid.out ?_)
  refine Lib.hid ?_
  have hA3 := on1 hA2 hB3 (Nat.le_refl _)
  have cQ := HQ.out W3 hA3
  obtain ⟨s1, s2, s3, s4, s5, s6⟩ := HSK.out W3 hA3
  have c4 := rkin_some b off cap L a j q W3 s1 s2 s3 s4 s5 s6 HC.out.idx HC.out.at_ HC.out.nm
  rw [← HC.out.kinf] at c4
  clear c3 hB3 hA2 s1 s2 s3 s4 s5 s6
  go_wp2_with (first | (go_at_call 13; refine cQ.mono ?_; rintro e w' ⟨rfl, rfl⟩) | (go_at_call 14; refine c4.mono ?_; rintro e W4 ⟨x4, rfl, ho4, hB4⟩; refine Hid.out ?_))
  refine Lib.hid ?_
  have hA4 := on1 hA3 hB4 (Nat.le_refl _)
  have hi4 : Hid (IsS W4 x4 (nms (kin L a))) := own_isS ho4
  obtain ⟨s1, s2, s3, s4, s5, s6⟩ := HSK.out W4 hA4
  have c5 := runder_some b off cap L a W4 s1 s2 s3 s4 s5 s6
  clear c4 cQ hB4 ho4 hA3 s1 s2 s3 s4 s5 s6
  go_wp2_with (go_at_call 15; refine (c5).mono ?_; rintro e W5 ⟨x5, rfl, ho5, hB5⟩; refine Hid.out ?_)
  refine Lib.hid ?_
  have hA5 := on1 hA4 hB5 (Nat.le_refl _)
  have hi5 : Hid (IsS W5 x5 (under L a) ∧ IsS W5 x4 (nms (kin L a))) := ⟨own_isS ho5, hi4.out.on hB5⟩
  obtain ⟨s1, s2, s3, s4, s5, s6⟩ := HSK.out W5 hA5
  have c6 := rfields_some b off cap L a j q W5 s1 s2 s3 s4 s5 s6 HC.out.at_ HC.out.nm
  rw [HKF.out] at c6
  rw [show fOf [] ((kin L a).flatMap Kd.fs) = some (fields L a) from HC.out.fs.1] at c6
  clear c5 hB5 ho5 hA4 s1 s2 s3 s4 s5 s6
  go_wp2_with (go_at_call 16; refine (c6).mono ?_; rintro e W6 ⟨x6, rfl, ho6, _, hB6⟩; refine Hid.out ?_)
  refine Lib.hid ?_
  have hA6 := on1 hA5 hB6 (Nat.le_refl _)
  have hi6 : Hid (IsS W6 x5 (under L a) ∧ IsS W6 x4 (nms (kin L a)) ∧ IsF W6 x6 (fields L a)) := ⟨hi5.out.1.on hB6, hi5.out.2.on hB6, own_isF (ho6 _ rfl)⟩
  have c7 := kin_any (HT.out.on hA6).1 (HT.out.on hA6).2.1 (HT.out.on hA6).2.2.1 a
  clear c6 hB6 ho6 hA5
  go_wp2_with (go_at_call 17; refine (c7).mono ?_; rintro e W7 ⟨x7, rfl, ho7, _, hB7⟩; refine Hid.out ?_)
  refine Lib.hid ?_
  rw [HN.out]
  have hA7 := on1 hA6 hB7 (Nat.le_refl _)
  have hi7 : Hid (IsS W7 x7 (nms (kin L a))) := own_isS (ho7 HN.out)
  have hD7 := hB7
  have c8 := error_any 0 W7 (HT.out.on hA7).2.2.2
  clear c7 hB7 ho7
  go_wp2_with (go_at_call 9; refine (c8).mono ?_; rintro e W8 ⟨rfl, hB8⟩; refine Hid.out ?_)
  refine Lib.hid ?_
  have hA8 := on1 hA7 hB8 (Nat.le_refl _)
  have hD8 := on1 hD7 hB8 (Nat.le_refl _)
  have c9 := texts_same (hi7.out.on hB8) (hi6.out.2.1.on hD8) HC.out.klen
  clear c8 hB8 hA7 hD7
  go_wp2_with (go_at_call 18; refine (c9).mono ?_; rintro e W9 ⟨rfl, hB9⟩; refine Hid.out ?_)
  refine Lib.hid ?_
  have hA9 := on1 hA8 hB9 (Nat.le_refl _)
  have hD9 := on1 hD8 hB9 (Nat.le_refl _)
  have c10 := under_any (HT.out.on hA9).1 (HT.out.on hA9).2.1 (HT.out.on hA9).2.2.1 a
  clear c9 hB9 hA8 hD8
  go_wp2_with (go_at_call 19; refine (c10).mono ?_; rintro e W10 ⟨x10, rfl, ho10, _, hB10⟩; refine Hid.out ?_)
  refine Lib.hid ?_
  rw [HN.out]
  have hA10 := on1 hA9 hB10 (Nat.le_refl _)
  have hD10 := on1 hD9 hB10 (Nat.le_refl _)
  have hi10 : Hid (IsS W10 x10 (under L a)) := own_isS (ho10 HN.out)
  have c11 := error_any 0 W10 (HT.out.on hA10).2.2.2
  clear c10 hB10 ho10 hA9 hD9
  go_wp2_with (go_at_call 9; refine (c11).mono ?_; rintro e W11 ⟨rfl, hB11⟩; refine Hid.out ?_)
  refine Lib.hid ?_
  have hA11 := on1 hA10 hB11 (Nat.le_refl _)
  have hD11 := on1 hD10 hB11 (Nat.le_refl _)
  have c12 := texts_same (hi10.out.on hB11) (hi6.out.1.on hD11) HC.out.ulen
  clear c11 hB11 hA10 hD10
  go_wp2_with (go_at_call 18; refine (c12).mono ?_; rintro e W12 ⟨rfl, hB12⟩; refine Hid.out ?_)
  refine Lib.hid ?_
  have hA12 := on1 hA11 hB12 (Nat.le_refl _)
  have hD12 := on1 hD11 hB12 (Nat.le_refl _)
  have c13 := fields_any (HT.out.on hA12).1 (HT.out.on hA12).2.1 (HT.out.on hA12).2.2.1 a
  clear c12 hB12 hA11 hD11
  go_wp2_with (go_at_call 20; refine (c13).mono ?_; rintro e W13 ⟨x13, rfl, ho13, _, hB13⟩; refine Hid.out ?_)
  refine Lib.hid ?_
  rw [HN.out]
  have hA13 := on1 hA12 hB13 (Nat.le_refl _)
  have hD13 := on1 hD12 hB13 (Nat.le_refl _)
  have hi13 : Hid (IsF W13 x13 (fields L a)) := own_isF (ho13 HN.out).1
  have c14 := error_any 0 W13 (HT.out.on hA13).2.2.2
  clear c13 hB13 ho13 hA12 hD12
  go_wp2_with (go_at_call 9; refine (c14).mono ?_; rintro e W14 ⟨rfl, hB14⟩; refine Hid.out ?_)
  refine Lib.hid ?_
  have hA14 := on1 hA13 hB14 (Nat.le_refl _)
  have hD14 := on1 hD13 hB14 (Nat.le_refl _)
  have c15 := fields_same (hi13.out.on hB14) (hi6.out.2.2.on hD14) (Nat.le_trans HC.out.fs.2 (by omega))
  clear c14 hB14 hA13 hD13
  go_wp2_with (go_at_call 21; refine (c15).mono ?_; rintro e W15 ⟨rfl, hB15⟩; refine Hid.out ?_)
  refine Lib.hid ?_
  have hA15 := on1 hA14 hB15 (Nat.le_refl _)
  have cQ := HQc.out W15 hA15
  clear c15 hB15 hA14 hD14
  obtain ⟨s1, s2, s3, s4, s5, s6⟩ := HSK.out W15 hA15
  have c16 := ris_some b off cap L j q c W15 s1 s2 s3 s4 s5 s6 HC.out.at_
  rw [HC.out.nm, HKF.out] at c16
  clear s1 s2 s3 s4 s5 s6
  obtain ⟨B, hBB⟩ : ∃ B, B = hasN (nms (kin L a)) c := ⟨_, rfl⟩
  have HBB : Hid (B = hasN (nms (kin L a)) c) := hBB
  rw [← hBB] at c16
  clear hBB
  go_wp2_with (first | (go_at_call 13; refine cQ.mono ?_; rintro e w' ⟨rfl, rfl⟩) | (go_at_call 22; refine c16.mono ?_; rintro e W16 ⟨rfl, hB16⟩; refine Hid.out ?_))
  refine Lib.hid ?_
  have hA16 := on1 hA15 hB16 (Nat.le_refl _)
  have c17 := is_any (HT.out.on hA16).1 (HT.out.on hA16).2.1 (HT.out.on hA16).2.2.1 a c
  rw [HE.out.1, HE.out.2, ← HBB.out] at c17
  clear c16 cQ hB16 hA15
  go_wp2_with (go_at_call 23; refine (c17).mono ?_; rintro e W17 ⟨rfl, hB17⟩; refine Hid.out ?_)
  refine Lib.hid ?_
  have hA17 := on1 hA16 hB17 (Nat.le_refl _)
  have c18 := error_any 0 W17 (HT.out.on hA17).2.2.2
  clear c17 hB17 hA16
  go_wp2_with (go_at_call 9; refine (c18).mono ?_; rintro e W18 ⟨rfl, hB18⟩; refine Hid.out ?_)
  refine Lib.hid ?_
  have hA18 := on1 hA17 hB18 (Nat.le_refl _)
  clear c18 hB18 hA17
  cases B
  all_goals
    go_wp2
    go_ret
    exact ⟨rfl, hA18⟩
theorem tells_any {v : Value} {L : List Kd} (a c : Nm) (w : World) (hT : TK w v L) : Calls Tryd.prog 4 #[v, .string (bs a), .string (bs c)] w fun e w' => e = .returned (.bool true) ∧ Below w.heap.size w w' := by
  by_cases hx : (ksErr L).2 = 0
  · have hks : ksErr L = ((ksErr L).1, 0) := Prod.ext rfl hx
    rcases idxK_spec a L 0 with hi | ⟨j, q, hi, hq, hqa⟩
    · have hn : nmErr L a = 5 := by unfold nmErr; rw [if_pos hx, if_pos hi]
      exact tells_B a c w hT _ hks hi ⟨hn, by rw [hn]; decide⟩
    · have hn : nmErr L a = 0 := by unfold nmErr; rw [if_pos hx, if_neg (by omega)]
      obtain ⟨j', q', hC⟩ := tc_of hn
      have hK := hT.1
      rcases hK with ⟨_, hnil⟩ | ⟨b, off, cap, rfl, _, _, hb, hl⟩
      · rw [hnil] at hq; simp at hq
      · rcases idxK_spec c L 0 with hi2 | ⟨jc, _, hi2, _, _⟩
        · exact tells_C1 b off cap a c w hb hl hT j' q' hC _ hks hn hi2
        · rw [Nat.zero_add] at hi2
          exact tells_C2 b off cap a c w hb hl hT j' q' hC _ hks hn jc hi2
  · have hn : nmErr L a = (ksErr L).2 := by unfold nmErr; rw [if_neg hx]
    exact tells_A a c w hT (ksErr L).2 (ksErr L).1 (show ksErr L = _ from rfl) (by simpa using hx) ⟨hn, by rw [hn]; exact hx⟩
end Go.Proofs.YtholhlibcofojabDoor
