/-
  The walk of change.dropKind.
-/
import Derived.Test.YtkmkhadacppdnaaDoorChE
namespace Go.Proofs.YtkmkhadacppdnaaDoor
open Go.RowKit
set_option linter.unusedVariables false
set_option linter.unusedSimpArgs false

theorem nmAt_has {n : Nm} {L : List Kd} (h : ¬ idxK n L 0 = -1) : ∃ (j : Nat) (q : Kd), idxK n L 0 = (j : Int) ∧ nmAt L n = j ∧ L[j]? = some q ∧ q.nm = n := by
  obtain ⟨j, q, h1, h2, h3⟩ := idxK_has h
  exact ⟨j, q, h1, by unfold nmAt; rw [h1]; rfl, h2, h3⟩
set_option maxHeartbeats 2000000 in
theorem dropKind_no {w : World} {base p : Nat} {L : List Kd} {B : List Bd} (h : OSc w base p L B) (hn : L.length ≤ 12) (n : Nm) (hx : idxK n L 0 = -1) :
    Calls Tryd.prog 25 #[.pointer (some ⟨p, 0, none⟩), .string (bs n)] w fun e w' => e = .returned (errV 5) ∧ Below w.heap.size w w' := by
  obtain ⟨vk, vb, hp, hX, hK, hA, hT⟩ := h
  obtain ⟨a, c, rfl⟩ := own_slice hK.1
  obtain ⟨W0, hW0⟩ : ∃ W0, W0 = w.alloc (.cells #[.string (bs n)] 9) := ⟨_, rfl⟩
  have hB0 : Below w.heap.size w W0 := by rw [hW0]; exact b_alloc (Below.refl _ _) _
  have n0 := heap_alloc_new w (.cells #[.string (bs n)] 9)
  rw [← hW0] at n0
  have hX0 := (hB0.block p (Array.getElem?_eq_some_iff.1 hX).1).trans hX
  have c0 : W0.cell? ⟨p, 0, none⟩ = some (.slice a L.length c) := cell_at hX0 rfl
  have c1 : W0.cell? ⟨w.heap.size, 0, none⟩ = some (.string (bs n)) := cell_at n0 rfl
  have cc : ∀ W, Below W0.heap.size W0 W → Calls Tryd.prog 45 #[.slice a L.length c, .string (bs n)] W fun e w' => e = .returned (.int .i64 (-1)) ∧ Below W.heap.size W w' := fun W hb => by
    have := findKind_any ((hK.isK.on hB0).on hb) hn n
    rw [hx] at this
    exact this
  have HC := Lib.hid cc
  have HB0 := Lib.hid hB0
  clear hT hK hA hX hx hX0 cc n0 hB0
  go_enter Tryd.func25, Tryd.ntmps25
  go_upto_region 1 with fail
  rw [← hW0]
  clear hW0
  go_cut [5] (fun s wx => s = .int .i64 (-1) ∧ Below W0.heap.size W0 wx)
  case first =>
    go_region_with (go_at_call 45; refine (HC.out _ (b_drewK (Below.refl _ _) 1)).mono ?_; rintro e W2 ⟨rfl, hB2⟩)
    all_goals go_wp2
    all_goals go_meet
    all_goals exact ⟨rfl, on1K (b_drewK (Below.refl _ _) 1) hB2 (Nat.le_refl _)⟩
  case rest =>
    obtain ⟨rfl, hB⟩ := hcut
    go_wp2
    go_ret
    exact ⟨rfl, on1K HB0.out hB (Nat.le_refl _)⟩
set_option maxHeartbeats 4000000 in
set_option maxRecDepth 100000 in
theorem dropKind_us {w : World} {base p : Nat} {L : List Kd} {B : List Bd} (h : OSc w base p L B) (hn : L.length ≤ 12) (hS : Small L) (hnb : B.length ≤ 12) (n : Nm) (hx : ¬ idxK n L 0 = -1) (hu : usK L n = true ∨ (usK L n = false ∧ usB B n = true)) :
    Calls Tryd.prog 25 #[.pointer (some ⟨p, 0, none⟩), .string (bs n)] w fun e w' => e = .returned (errV 6) ∧ Below w.heap.size w w' := by
  obtain ⟨vk, vb, hp, hX, hK, hA, hT⟩ := h
  obtain ⟨j, q, hj, hat, hq, _⟩ := nmAt_has hx
  obtain ⟨a, c, rfl⟩ := own_slice hK.1
  obtain ⟨a', c', rfl⟩ := own_slice hT
  obtain ⟨W0, hW0⟩ : ∃ W0, W0 = w.alloc (.cells #[.string (bs n)] 9) := ⟨_, rfl⟩
  have hB0 : Below w.heap.size w W0 := by rw [hW0]; exact b_alloc (Below.refl _ _) _
  have n0 := heap_alloc_new w (.cells #[.string (bs n)] 9)
  rw [← hW0] at n0
  have hX0 := (hB0.block p (Array.getElem?_eq_some_iff.1 hX).1).trans hX
  have c0 : W0.cell? ⟨p, 0, none⟩ = some (.slice a L.length c) := cell_at hX0 rfl
  have c1 : W0.cell? ⟨w.heap.size, 0, none⟩ = some (.string (bs n)) := cell_at n0 rfl
  have cc : ∀ W, Below W0.heap.size W0 W → Calls Tryd.prog 45 #[.slice a L.length c, .string (bs n)] W fun e w' => e = .returned (.int .i64 (j : Int)) ∧ Below W.heap.size W w' := fun W hb => by
    have := findKind_any ((hK.isK.on hB0).on hb) hn n
    rw [hj] at this
    exact this
  have hlt : w.heap.size < W0.heap.size := by rw [hW0]; simp
  have hpl : p < W0.heap.size := (Array.getElem?_eq_some_iff.1 hX0).1
  have HX : Hid (∀ W, Below W0.heap.size W0 W → W.cell? ⟨p, 0, none⟩ = some (.slice a L.length c) ∧ W.cell? ⟨p, 1, none⟩ = some (.slice a' B.length c')) := fun W hb => ⟨cell_at ((hb.block p hpl).trans hX0) rfl, cell_at ((hb.block p hpl).trans hX0) rfl⟩
  have HU : Hid (∀ W, Below W0.heap.size W0 W → Calls Tryd.prog 43 #[.slice a L.length c, .func (.func 46) #[] #[.pointer (some ⟨w.heap.size, 0, none⟩)]] W fun e w' => e = .returned (.bool (usK L n)) ∧ Below W.heap.size W w') := fun W hb => anyK_any ((hK.isK.on hB0).on hb) ((hK.parts.on hB0).on hb) hS hn w.heap.size n (Nat.lt_of_lt_of_le hlt hb.size) ((hb.cell (p := ⟨w.heap.size, 0, none⟩) hlt).trans c1)
  have HV : Hid (∀ W, Below W0.heap.size W0 W → Calls Tryd.prog 49 #[.slice a' B.length c', .func (.func 48) #[] #[.pointer (some ⟨w.heap.size, 0, none⟩)]] W fun e w' => e = .returned (.bool (usB B n)) ∧ Below W.heap.size W w') := fun W hb => anyB_any ((OwnBs.isB (own_kt hT (.of_below hB0))).on hb) hnb w.heap.size n (Nat.lt_of_lt_of_le hlt hb.size) ((hb.cell (p := ⟨w.heap.size, 0, none⟩) hlt).trans c1)
  have HC := Lib.hid cc
  have HB0 := Lib.hid hB0
  have hjn : ¬ (j : Int) < 0 := by omega
  clear hT hK hA hX hx hX0 cc n0 hB0 hj hat hq hS
  go_enter Tryd.func25, Tryd.ntmps25
  go_upto_region 1 with fail
  rw [← hW0]
  clear hW0
  go_cut [5] (fun s wx => s = .int .i64 (j : Int) ∧ Below W0.heap.size W0 wx)
  case first =>
    go_region_with (go_at_call 45; refine (HC.out _ (b_drewK (Below.refl _ _) 1)).mono ?_; rintro e W2 ⟨rfl, hB2⟩)
    all_goals go_wp2
    all_goals go_meet
    all_goals exact ⟨rfl, on1K (b_drewK (Below.refl _ _) 1) hB2 (Nat.le_refl _)⟩
  case rest =>
    obtain ⟨rfl, hB⟩ := hcut
    obtain ⟨d0, d1⟩ := HX.out wc hB
    have cu := HU.out wc hB
    rcases hu with hu | ⟨hu, hv⟩
    · rw [hu] at cu
      go_wp2_with (first | (go_at_call 43; refine cu.mono ?_; rintro e W3 ⟨rfl, hB3⟩))
      go_ret
      exact ⟨rfl, on1K HB0.out (on1K hB hB3 (Nat.le_refl _)) (Nat.le_refl _)⟩
    · rw [hu] at cu
      have HV' : Hid (∀ W, Below W0.heap.size W0 W → Calls Tryd.prog 49 #[.slice a' B.length c', .func (.func 48) #[] #[.pointer (some ⟨w.heap.size, 0, none⟩)]] W fun e w' => e = .returned (.bool true) ∧ Below W.heap.size W w') := fun W hb => by have := HV.out W hb; rw [hv] at this; exact this
      clear HV hu hv
      go_wp2_with (first | (go_at_call 43; refine cu.mono ?_; rintro e W3 ⟨rfl, hB3⟩; have hB4 := on1K hB hB3 (Nat.le_refl _); obtain ⟨g0, g1⟩ := HX.out W3 hB4) | (go_at_call 49; refine (HV'.out _ hB4).mono ?_; rintro e W5 ⟨rfl, hB5⟩))
      go_ret
      exact ⟨rfl, on1K HB0.out (on1K hB4 hB5 (Nat.le_refl _)) (Nat.le_refl _)⟩
set_option maxHeartbeats 8000000 in
set_option maxRecDepth 100000 in
theorem dropKind_yes {w : World} {base p : Nat} {L : List Kd} {B : List Bd} (h : OSc w base p L B) (hbase : base ≤ w.heap.size) (hn : L.length ≤ 12) (hS : Small L) (hnb : B.length ≤ 12) (n : Nm) (hx : ¬ idxK n L 0 = -1) (hu : usK L n = false) (hv : usB B n = false) :
    Calls Tryd.prog 25 #[.pointer (some ⟨p, 0, none⟩), .string (bs n)] w fun e w' => e = .returned (errV 0) ∧ OSc w' base p (L.eraseIdx (nmAt L n)) B ∧ Below base w w' := by
  obtain ⟨vk, vb, hp, hX, hK, hA, hT⟩ := h
  obtain ⟨j, q, hj, hat, hq, _⟩ := nmAt_has hx
  rw [hat]
  have hjl := (List.getElem?_eq_some_iff.1 hq).1
  obtain ⟨a, c, rfl⟩ := own_slice hK.1
  obtain ⟨a', c', rfl⟩ := own_slice hT
  obtain ⟨W0, hW0⟩ : ∃ W0, W0 = w.alloc (.cells #[.string (bs n)] 9) := ⟨_, rfl⟩
  have hB0 : Below w.heap.size w W0 := by rw [hW0]; exact b_alloc (Below.refl _ _) _
  have n0 := heap_alloc_new w (.cells #[.string (bs n)] 9)
  rw [← hW0] at n0
  have hX0 := (hB0.block p (Array.getElem?_eq_some_iff.1 hX).1).trans hX
  have c0 : W0.cell? ⟨p, 0, none⟩ = some (.slice a L.length c) := cell_at hX0 rfl
  have c1 : W0.cell? ⟨w.heap.size, 0, none⟩ = some (.string (bs n)) := cell_at n0 rfl
  have cc : ∀ W, Below W0.heap.size W0 W → Calls Tryd.prog 45 #[.slice a L.length c, .string (bs n)] W fun e w' => e = .returned (.int .i64 (j : Int)) ∧ Below W.heap.size W w' := fun W hb => by
    have := findKind_any ((hK.isK.on hB0).on hb) hn n
    rw [hj] at this
    exact this
  have hlt : w.heap.size < W0.heap.size := by rw [hW0]; simp
  have hpl : p < W0.heap.size := (Array.getElem?_eq_some_iff.1 hX0).1
  have HX : Hid (∀ W, Below W0.heap.size W0 W → W.cell? ⟨p, 0, none⟩ = some (.slice a L.length c) ∧ W.cell? ⟨p, 1, none⟩ = some (.slice a' B.length c')) := fun W hb => ⟨cell_at ((hb.block p hpl).trans hX0) rfl, cell_at ((hb.block p hpl).trans hX0) rfl⟩
  have HU : Hid (∀ W, Below W0.heap.size W0 W → Calls Tryd.prog 43 #[.slice a L.length c, .func (.func 46) #[] #[.pointer (some ⟨w.heap.size, 0, none⟩)]] W fun e w' => e = .returned (.bool false) ∧ Below W.heap.size W w') := fun W hb => by
    have := anyK_any ((hK.isK.on hB0).on hb) ((hK.parts.on hB0).on hb) hS hn w.heap.size n (Nat.lt_of_lt_of_le hlt hb.size) ((hb.cell (p := ⟨w.heap.size, 0, none⟩) hlt).trans c1)
    rw [hu] at this
    exact this
  have HV : Hid (∀ W, Below W0.heap.size W0 W → Calls Tryd.prog 49 #[.slice a' B.length c', .func (.func 48) #[] #[.pointer (some ⟨w.heap.size, 0, none⟩)]] W fun e w' => e = .returned (.bool false) ∧ Below W.heap.size W w') := fun W hb => by
    have := anyB_any ((OwnBs.isB (own_kt hT (.of_below hB0))).on hb) hnb w.heap.size n (Nat.lt_of_lt_of_le hlt hb.size) ((hb.cell (p := ⟨w.heap.size, 0, none⟩) hlt).trans c1)
    rw [hv] at this
    exact this
  have HD : Hid (∀ W, Below W0.heap.size W0 W → Calls Tryd.prog 50 #[.slice a L.length c, .int .i64 (j : Int), .int .i64 ((j : Int) + 1)] W fun e w' => ∃ v', e = .returned v' ∧ w'.ownsRow base 34 3 v' (L.eraseIdx j).length (cellsK (L.eraseIdx j)) ∧ W.grownBy w' (Value.slice a L.length c).ownBlock) := fun W hb => by
    have hkw := (hK.kt (.of_below hB0) (.of_below hB0) (.of_below hB0)).kt (.of_below hb) (.of_below hb) (.of_below hb)
    refine (deleteK_any hkw.1 hkw.one (by omega) j hjl).mono ?_
    rintro e w' ⟨v', h1, h2, h3, _⟩
    exact ⟨v', h1, h2, h3⟩
  have HS : Hid (∀ W, Below W0.heap.size W0 W → ∀ w2 v2, W.grownBy w2 (Value.slice a L.length c).ownBlock → w2.ownsRow base 34 3 v2 (L.eraseIdx j).length (cellsK (L.eraseIdx j)) → (w2.cell? ⟨p, 0, none⟩ = some (.slice a L.length c) ∧ w2.frozen? ⟨p, 0, none⟩ = false) ∧ OSc (w2.setCell ⟨p, 0, none⟩ v2) base p (L.eraseIdx j) B ∧ Below base w (w2.setCell ⟨p, 0, none⟩ v2)) := fun W hb w2 v2 g1 g2 => by
    have hkw := (hK.kt (.of_below hB0) (.of_below hB0) (.of_below hB0)).kt (.of_below hb) (.of_below hb) (.of_below hb)
    have hbw := on1K hB0 hb (Nat.le_refl _)
    obtain ⟨r1, r2, r3⟩ := osc_setK hp ((hb.block p hpl).trans hX0) hkw (hA.erase j) (own_kt (own_kt hT (.of_below hB0)) (.of_below hb)) (Nat.le_trans hbase hbw.size) g1 g2 (fun k hk => hkw.2 k (List.mem_of_mem_eraseIdx hk))
    exact ⟨r1, r2, (hbw.mono hbase).trans r3⟩
  have HC := Lib.hid cc
  have hjn : ¬ (j : Int) < 0 := by omega
  have hw1 : IntKind.i64.wrap ((j : Int) + 1) = (j : Int) + 1 := by rw [IntKind.wrap_i64]; omega
  have hj12 : j < 12 := by omega
  clear hT hK hA hX hx hX0 cc n0 hB0 hj hat hq hS hp
  go_enter Tryd.func25, Tryd.ntmps25
  go_upto_region 1 with fail
  rw [← hW0]
  clear hW0
  go_cut [5] (fun s wx => s = .int .i64 (j : Int) ∧ Below W0.heap.size W0 wx)
  case first =>
    go_region_with (go_at_call 45; refine (HC.out _ (b_drewK (Below.refl _ _) 1)).mono ?_; rintro e W2 ⟨rfl, hB2⟩)
    all_goals go_wp2
    all_goals go_meet
    all_goals exact ⟨rfl, on1K (b_drewK (Below.refl _ _) 1) hB2 (Nat.le_refl _)⟩
  case rest =>
    obtain ⟨rfl, hB⟩ := hcut
    obtain ⟨d0, d1⟩ := HX.out wc hB
    have cu := HU.out wc hB
    go_wp2_with (first | (go_at_call 43; refine cu.mono ?_; rintro e W3 ⟨rfl, hB3⟩; have hB4 := on1K hB hB3 (Nat.le_refl _); obtain ⟨g0, g1⟩ := HX.out W3 hB4) | (go_at_call 49; refine (HV.out _ hB4).mono ?_; rintro e W5 ⟨rfl, hB5⟩; have hB6 := on1K hB4 hB5 (Nat.le_refl _); obtain ⟨i0, i1⟩ := HX.out W5 hB6) | (go_at_call 50; refine (HD.out _ hB6).mono ?_; rintro e w7 ⟨v7, rfl, ho7, hg7⟩; obtain ⟨⟨z0, z1⟩, z2⟩ := HS.out _ hB6 w7 v7 hg7 ho7; obtain ⟨a2, c2, rfl⟩ := own_slice ho7; have HZ := Lib.hid z2; clear z2 ho7 hg7))
    go_ret
    exact ⟨rfl, HZ.out⟩
end Go.Proofs.YtkmkhadacppdnaaDoor
