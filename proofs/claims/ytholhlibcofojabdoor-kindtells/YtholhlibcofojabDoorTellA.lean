/-
  The law KindTells of the program, walked: which of any kinds is wrong, what any comes of, who comes of it, which fields it has.
-/
import Derived.Test.YtholhlibcofojabDoorRefI
namespace Go.Proofs.YtholhlibcofojabDoor
open Go.RowKit
set_option linter.unusedVariables false
set_option linter.unusedSimpArgs false

theorem Hnd.on {w w' : World} (h : Hnd w) (hB : Below w.heap.size w w') : Hnd w' := by
  have hlt : 0 < w.heap.size := by
    rcases Nat.eq_zero_or_pos w.heap.size with h0 | h1
    · have hg' : w.cell? ⟨0, 0, none⟩ = _ := h
      simp [World.cell?, h0] at hg'
    · exact h1
  exact (hB.cell (p := ⟨0, 0, none⟩) hlt).trans h
/-- What is known of the call. -/
def TK (w : World) (v : Value) (L : List Kd) : Prop := IsK w v L ∧ Parts w L ∧ SzK L ∧ Hnd w
theorem TK.on {w w' : World} {v : Value} {L : List Kd} (h : TK w v L) (hB : Below w.heap.size w w') : TK w' v L := ⟨h.1.on hB, h.2.1.on hB, h.2.2.1, h.2.2.2.on hB⟩
theorem nil_isS (w : World) : IsS w (.slice none 0 0) [] := .inl ⟨none, 0, rfl, rfl, by unfold maxLen; omega, fun _ => rfl⟩
theorem nil_isF (w : World) : IsF w (.slice none 0 0) [] := .inl ⟨none, 0, rfl, rfl, by unfold maxLen; omega, fun _ => rfl⟩
theorem isErr_of {L : List Kd} {a c : Nm} (h : ¬ nmErr L a = 0) : isErr L a c = nmErr L a ∧ isKin L a c = false := by
  have e : isErr L a c = nmErr L a := by unfold isErr; rw [if_neg h]
  exact ⟨e, by unfold isKin; rw [e, if_neg h]⟩

set_option maxHeartbeats 8000000 in
set_option maxRecDepth 100000 in
theorem tells_A {v : Value} {L : List Kd} (a c : Nm) (w : World) (hT : TK w v L) (x : Int) (n1 : Nm) (HKS : Hid (ksErr L = (n1, x))) (hx0 : (x == 0) = false) (HN : Hid (nmErr L a = x ∧ ¬ nmErr L a = 0)) : Calls Tryd.prog 4 #[v, .string (bs a), .string (bs c)] w fun e w' => e = .returned (.bool true) ∧ Below w.heap.size w w' := by
  have HT : Hid (TK w v L) := hT
  have HE : Hid (isErr L a c = x ∧ isKin L a c = false) := by have := isErr_of (c := c) HN.out.2; rw [HN.out.1] at this; exact this
  clear hT
  obtain ⟨k1, k2, k3, k4⟩ := HT.out
  have c1 := rkinds_any k1 k2 k3
  rw [HKS.out] at c1
  clear k1 k2 k3 k4
  go_enter Tryd.func4, Tryd.ntmps4
  go_wp2_with (go_at_call 11; refine (c1).mono ?_; rintro e W1 ⟨rfl, hB1⟩; refine Hid.out ?_)
  refine Lib.hid ?_
  obtain ⟨k1, k2, k3, k4⟩ := HT.out.on hB1
  have c2 := kcheck_any k1 k2 k3
  rw [HKS.out] at c2
  clear k1 k2 k3 k4 c1
  go_wp2_with (go_at_call 12; refine (c2).mono ?_; rintro e W2 ⟨rfl, hB2⟩; refine Hid.out ?_)
  refine Lib.hid ?_
  have hA2 := on1 hB1 hB2 (Nat.le_refl _)
  have c3 := error_any (x) W2 (HT.out.on hA2).2.2.2
  clear c2 hB1 hB2
  go_wp2_with (go_at_call 9; refine (c3).mono ?_; rintro e W3 ⟨rfl, hB3⟩; refine Hid.out ?_)
  refine Lib.hid ?_
  have hA3 := on1 hA2 hB3 (Nat.le_refl _)
  have c4 := kin_any (HT.out.on hA3).1 (HT.out.on hA3).2.1 (HT.out.on hA3).2.2.1 a
  clear c3 hB3 hA2
  go_wp2_with (go_at_call 17; refine c4.mono ?_; rintro e W4 ⟨x4, rfl, _, hno, hB4⟩; obtain rfl := hno HN.out.2; rw [HN.out.1]; refine Hid.out ?_)
  refine Lib.hid ?_
  have hA4 := on1 hA3 hB4 (Nat.le_refl _)
  have c5 := error_any (x) W4 (HT.out.on hA4).2.2.2
  clear c4 hB4 hA3 hno
  go_wp2_with (go_at_call 9; refine (c5).mono ?_; rintro e W5 ⟨rfl, hB5⟩; refine Hid.out ?_)
  refine Lib.hid ?_
  have hA5 := on1 hA4 hB5 (Nat.le_refl _)
  have c6 := texts_same (nil_isS W5) (nil_isS W5) (by simp)
  clear c5 hB5 hA4
  go_wp2_with (go_at_call 18; refine (c6).mono ?_; rintro e W6 ⟨rfl, hB6⟩; refine Hid.out ?_)
  refine Lib.hid ?_
  have hA6 := on1 hA5 hB6 (Nat.le_refl _)
  have c7 := under_any (HT.out.on hA6).1 (HT.out.on hA6).2.1 (HT.out.on hA6).2.2.1 a
  clear c6 hB6 hA5
  go_wp2_with (go_at_call 19; refine c7.mono ?_; rintro e W7 ⟨x7, rfl, _, hno, hB7⟩; obtain rfl := hno HN.out.2; rw [HN.out.1]; refine Hid.out ?_)
  refine Lib.hid ?_
  have hA7 := on1 hA6 hB7 (Nat.le_refl _)
  have c8 := error_any (x) W7 (HT.out.on hA7).2.2.2
  clear c7 hB7 hA6 hno
  go_wp2_with (go_at_call 9; refine (c8).mono ?_; rintro e W8 ⟨rfl, hB8⟩; refine Hid.out ?_)
  refine Lib.hid ?_
  have hA8 := on1 hA7 hB8 (Nat.le_refl _)
  have c9 := texts_same (nil_isS W8) (nil_isS W8) (by simp)
  clear c8 hB8 hA7
  go_wp2_with (go_at_call 18; refine (c9).mono ?_; rintro e W9 ⟨rfl, hB9⟩; refine Hid.out ?_)
  refine Lib.hid ?_
  have hA9 := on1 hA8 hB9 (Nat.le_refl _)
  have c10 := fields_any (HT.out.on hA9).1 (HT.out.on hA9).2.1 (HT.out.on hA9).2.2.1 a
  clear c9 hB9 hA8
  go_wp2_with (go_at_call 20; refine c10.mono ?_; rintro e W10 ⟨x10, rfl, _, hno, hB10⟩; obtain rfl := hno HN.out.2; rw [HN.out.1]; refine Hid.out ?_)
  refine Lib.hid ?_
  have hA10 := on1 hA9 hB10 (Nat.le_refl _)
  have c11 := error_any (x) W10 (HT.out.on hA10).2.2.2
  clear c10 hB10 hA9 hno
  go_wp2_with (go_at_call 9; refine (c11).mono ?_; rintro e W11 ⟨rfl, hB11⟩; refine Hid.out ?_)
  refine Lib.hid ?_
  have hA11 := on1 hA10 hB11 (Nat.le_refl _)
  have c12 := fields_same (nil_isF W11) (nil_isF W11) (by simp)
  clear c11 hB11 hA10
  go_wp2_with (go_at_call 21; refine (c12).mono ?_; rintro e W12 ⟨rfl, hB12⟩; refine Hid.out ?_)
  refine Lib.hid ?_
  have hA12 := on1 hA11 hB12 (Nat.le_refl _)
  have c13 := is_any (HT.out.on hA12).1 (HT.out.on hA12).2.1 (HT.out.on hA12).2.2.1 a c
  rw [HE.out.1, HE.out.2] at c13
  clear c12 hB12 hA11
  go_wp2_with (go_at_call 23; refine (c13).mono ?_; rintro e W13 ⟨rfl, hB13⟩; refine Hid.out ?_)
  refine Lib.hid ?_
  have hA13 := on1 hA12 hB13 (Nat.le_refl _)
  have c14 := error_any (x) W13 (HT.out.on hA13).2.2.2
  clear c13 hB13 hA12
  go_wp2_with (go_at_call 9; refine (c14).mono ?_; rintro e W14 ⟨rfl, hB14⟩; refine Hid.out ?_)
  refine Lib.hid ?_
  have hA14 := on1 hA13 hB14 (Nat.le_refl _)
  clear c14 hB14 hA13
  go_wp2
  go_ret
  exact ⟨rfl, hA14⟩
set_option maxHeartbeats 8000000 in
set_option maxRecDepth 100000 in
theorem tells_B {v : Value} {L : List Kd} (a c : Nm) (w : World) (hT : TK w v L) (n1 : Nm) (HKS : Hid (ksErr L = (n1, 0))) (hq : Hid (idxK a L 0 = -1)) (HN : Hid (nmErr L a = 5 ∧ ¬ nmErr L a = 0)) : Calls Tryd.prog 4 #[v, .string (bs a), .string (bs c)] w fun e w' => e = .returned (.bool true) ∧ Below w.heap.size w w' := by
  have HT : Hid (TK w v L) := hT
  have HE : Hid (isErr L a c = 5 ∧ isKin L a c = false) := by have := isErr_of (c := c) HN.out.2; rw [HN.out.1] at this; exact this
  clear hT
  obtain ⟨k1, k2, k3, k4⟩ := HT.out
  have c1 := rkinds_any k1 k2 k3
  rw [HKS.out] at c1
  clear k1 k2 k3 k4
  go_enter Tryd.func4, Tryd.ntmps4
  go_wp2_with (go_at_call 11; refine (c1).mono ?_; rintro e W1 ⟨rfl, hB1⟩; refine Hid.out ?_)
  refine Lib.hid ?_
  obtain ⟨k1, k2, k3, k4⟩ := HT.out.on hB1
  have c2 := kcheck_any k1 k2 k3
  rw [HKS.out] at c2
  clear k1 k2 k3 k4 c1
  go_wp2_with (go_at_call 12; refine (c2).mono ?_; rintro e W2 ⟨rfl, hB2⟩; refine Hid.out ?_)
  refine Lib.hid ?_
  have hA2 := on1 hB1 hB2 (Nat.le_refl _)
  have c3 := error_any (0) W2 (HT.out.on hA2).2.2.2
  clear c2 hB1 hB2
  go_wp2_with (go_at_call 9; refine (c3).mono ?_; rintro e W3 ⟨rfl, hB3⟩; refine Hid.out ?_)
  refine Lib.hid ?_
  have hA3 := on1 hA2 hB3 (Nat.le_refl _)
  have cQ := rkind_any (HT.out.on hA3).1 (ksErr_len (by rw [HKS.out])) a
  rw [hq.out] at cQ
  have c4 := kin_any (HT.out.on hA3).1 (HT.out.on hA3).2.1 (HT.out.on hA3).2.2.1 a
  clear c3 hB3 hA2
  go_wp2_with (first | (go_at_call 13; refine cQ.mono ?_; rintro e w' ⟨rfl, rfl⟩) | (go_at_call 17; refine c4.mono ?_; rintro e W4 ⟨x4, rfl, _, hno, hB4⟩; obtain rfl := hno HN.out.2; rw [HN.out.1]; refine Hid.out ?_))
  refine Lib.hid ?_
  have hA4 := on1 hA3 hB4 (Nat.le_refl _)
  have c5 := error_any (5) W4 (HT.out.on hA4).2.2.2
  clear c4 hB4 hA3 hno
  go_wp2_with (go_at_call 9; refine (c5).mono ?_; rintro e W5 ⟨rfl, hB5⟩; refine Hid.out ?_)
  refine Lib.hid ?_
  have hA5 := on1 hA4 hB5 (Nat.le_refl _)
  have c6 := texts_same (nil_isS W5) (nil_isS W5) (by simp)
  clear c5 hB5 hA4
  go_wp2_with (go_at_call 18; refine (c6).mono ?_; rintro e W6 ⟨rfl, hB6⟩; refine Hid.out ?_)
  refine Lib.hid ?_
  have hA6 := on1 hA5 hB6 (Nat.le_refl _)
  have c7 := under_any (HT.out.on hA6).1 (HT.out.on hA6).2.1 (HT.out.on hA6).2.2.1 a
  clear c6 hB6 hA5
  go_wp2_with (go_at_call 19; refine c7.mono ?_; rintro e W7 ⟨x7, rfl, _, hno, hB7⟩; obtain rfl := hno HN.out.2; rw [HN.out.1]; refine Hid.out ?_)
  refine Lib.hid ?_
  have hA7 := on1 hA6 hB7 (Nat.le_refl _)
  have c8 := error_any (5) W7 (HT.out.on hA7).2.2.2
  clear c7 hB7 hA6 hno
  go_wp2_with (go_at_call 9; refine (c8).mono ?_; rintro e W8 ⟨rfl, hB8⟩; refine Hid.out ?_)
  refine Lib.hid ?_
  have hA8 := on1 hA7 hB8 (Nat.le_refl _)
  have c9 := texts_same (nil_isS W8) (nil_isS W8) (by simp)
  clear c8 hB8 hA7
  go_wp2_with (go_at_call 18; refine (c9).mono ?_; rintro e W9 ⟨rfl, hB9⟩; refine Hid.out ?_)
  refine Lib.hid ?_
  have hA9 := on1 hA8 hB9 (Nat.le_refl _)
  have c10 := fields_any (HT.out.on hA9).1 (HT.out.on hA9).2.1 (HT.out.on hA9).2.2.1 a
  clear c9 hB9 hA8
  go_wp2_with (go_at_call 20; refine c10.mono ?_; rintro e W10 ⟨x10, rfl, _, hno, hB10⟩; obtain rfl := hno HN.out.2; rw [HN.out.1]; refine Hid.out ?_)
  refine Lib.hid ?_
  have hA10 := on1 hA9 hB10 (Nat.le_refl _)
  have c11 := error_any (5) W10 (HT.out.on hA10).2.2.2
  clear c10 hB10 hA9 hno
  go_wp2_with (go_at_call 9; refine (c11).mono ?_; rintro e W11 ⟨rfl, hB11⟩; refine Hid.out ?_)
  refine Lib.hid ?_
  have hA11 := on1 hA10 hB11 (Nat.le_refl _)
  have c12 := fields_same (nil_isF W11) (nil_isF W11) (by simp)
  clear c11 hB11 hA10
  go_wp2_with (go_at_call 21; refine (c12).mono ?_; rintro e W12 ⟨rfl, hB12⟩; refine Hid.out ?_)
  refine Lib.hid ?_
  have hA12 := on1 hA11 hB12 (Nat.le_refl _)
  have c13 := is_any (HT.out.on hA12).1 (HT.out.on hA12).2.1 (HT.out.on hA12).2.2.1 a c
  rw [HE.out.1, HE.out.2] at c13
  clear c12 hB12 hA11
  go_wp2_with (go_at_call 23; refine (c13).mono ?_; rintro e W13 ⟨rfl, hB13⟩; refine Hid.out ?_)
  refine Lib.hid ?_
  have hA13 := on1 hA12 hB13 (Nat.le_refl _)
  have c14 := error_any (5) W13 (HT.out.on hA13).2.2.2
  clear c13 hB13 hA12
  go_wp2_with (go_at_call 9; refine (c14).mono ?_; rintro e W14 ⟨rfl, hB14⟩; refine Hid.out ?_)
  refine Lib.hid ?_
  have hA14 := on1 hA13 hB14 (Nat.le_refl _)
  clear c14 hB14 hA13
  go_wp2
  go_ret
  exact ⟨rfl, hA14⟩
end Go.Proofs.YtholhlibcofojabDoor
