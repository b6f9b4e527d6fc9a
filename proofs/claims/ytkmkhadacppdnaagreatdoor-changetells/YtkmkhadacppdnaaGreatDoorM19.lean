/-
  The walk of change.dropKind.
-/
import Derived.Test.YtkmkhadacppdnaaGreatDoorM18
import Derived.Test.YtkmkhadacppdnaaGreatDoorM11
namespace Go.Proofs.YtkmkhadacppdnaaGreatDoor
open Go.RowKit
set_option linter.unusedVariables false
set_option linter.unusedSimpArgs false

theorem nmAt_has {n : Nm} {L : List Kd} (h : ¬ idxK n L 0 = -1) : ∃ (j : Nat) (q : Kd), idxK n L 0 = (j : Int) ∧ nmAt L n = j ∧ L[j]? = some q ∧ q.nm = n := by
  obtain ⟨j, q, h1, h2, h3⟩ := idxK_has h
  exact ⟨j, q, h1, by unfold nmAt; rw [h1]; rfl, h2, h3⟩
set_option maxHeartbeats 2000000 in
theorem dropKind_no {w : World} {base p : Nat} {L : List Kd} {B : List Bd} (h : OSc w base p L B) (hn : L.length ≤ 12) (n : Nm) (hx : idxK n L 0 = -1) :
    Calls Tryz.prog 53 #[.pointer (some ⟨p, 0, none⟩), .string (bs n)] w fun e w' => e = .returned (errV 5) ∧ Below w.heap.size w w' := by
  obtain ⟨vk, vb, hp, hX, hK, hA, hT⟩ := h
  obtain ⟨a, c, rfl⟩ := own_slice hK.1
  obtain ⟨W0, hW0⟩ : ∃ W0, W0 = w.alloc (.cells #[.string (bs n)] 9) := ⟨_, rfl⟩
  have hB0 : Below w.heap.size w W0 := by rw [hW0]; exact b_alloc (Below.refl _ _) _
  have n0 := heap_alloc_new w (.cells #[.string (bs n)] 9)
  rw [← hW0] at n0
  have hX0 := (hB0.block p (Array.getElem?_eq_some_iff.1 hX).1).trans hX
  have c0 : W0.cell? ⟨p, 0, none⟩ = some (.slice a L.length c) := cell_at hX0 rfl
  have c1 : W0.cell? ⟨w.heap.size, 0, none⟩ = some (.string (bs n)) := cell_at n0 rfl
  have cc : ∀ W, Below W0.heap.size W0 W → Calls Tryz.prog 73 #[.slice a L.length c, .string (bs n)] W fun e w' => e = .returned (.int .i64 (-1)) ∧ Below W.heap.size W w' := fun W hb => by
    have := findKind_any ((hK.isK.on hB0).on hb) hn n
    rw [hx] at this
    exact this
  have HC := Lib.hid cc
  have HB0 := Lib.hid hB0
  clear hT hK hA hX hx hX0 cc n0 hB0
  go_enter Tryz.func53, Tryz.ntmps53
  go_upto_region 1 with fail
  rw [← hW0]
  clear hW0
  go_cut [5] (fun s wx => s = .int .i64 (-1) ∧ Below W0.heap.size W0 wx)
  case first =>
    go_region_with (go_at_call 73; refine (HC.out _ (b_drewK (Below.refl _ _) 1)).mono ?_; rintro e W2 ⟨rfl, hB2⟩)
    all_goals go_wp2
    all_goals go_meet
    all_goals exact ⟨rfl, on1K (b_drewK (Below.refl _ _) 1) hB2 (Nat.le_refl _)⟩
  case rest =>
    obtain ⟨rfl, hB⟩ := hcut
    go_wp2
    go_ret
    exact ⟨rfl, on1K HB0.out hB (Nat.le_refl _)⟩
set_option maxHeartbeats 4000000 in
set_option maxRecDepth 100000 in
theorem dropKind_us {w : World} {base p : Nat} {L : List Kd} {B : List Bd} (h : OSc w base p L B) (hn : L.length ≤ 12) (hS : Small L) (hnb : B.length ≤ 12) (n : Nm) (hx : ¬ idxK n L 0 = -1) (hu : usK L n = true ∨ (usK L n = false ∧ usB B n = true)) :
    Calls Tryz.prog 53 #[.pointer (some ⟨p, 0, none⟩), .string (bs n)] w fun e w' => e = .returned (errV 6) ∧ Below w.heap.size w w' := by
  obtain ⟨vk, vb, hp, hX, hK, hA, hT⟩ := h
  obtain ⟨j, q, hj, hat, hq, _⟩ := nmAt_has hx
  obtain ⟨a, c, rfl⟩ := own_slice hK.1
  obtain ⟨a', c', rfl⟩ := own_slice hT
  obtain ⟨W0, hW0⟩ : ∃ W0, W0 = w.alloc (.cells #[.string (bs n)] 9) := ⟨_, rfl⟩
  have hB0 : Below w.heap.size w W0 := by rw [hW0]; exact b_alloc (Below.refl _ _) _
  have n0 := heap_alloc_new w (.cells #[.string (bs n)] 9)
  rw [← hW0] at n0
  have hX0 := (hB0.block p (Array.getElem?_eq_some_iff.1 hX).1).trans hX
  have c0 : W0.cell? ⟨p, 0, none⟩ = some (.slice a L.length c) := cell_at hX0 rfl
  have c1 : W0.cell? ⟨w.heap.size, 0, none⟩ = some (.string (bs n)) := cell_at n0 rfl
  have cc : ∀ W, Below W0.heap.size W0 W → Calls Tryz.prog 73 #[.slice a L.length c, .string (bs n)] W fun e w' => e = .returned (.int .i64 (j : Int)) ∧ Below W.heap.size W w' := fun W hb => by
    have := findKind_any ((hK.isK.on hB0).on hb) hn n
    rw [hj] at this
    exact this
  have hlt : w.heap.size < W0.heap.size := by rw [hW0]; simp
  have hpl : p < W0.heap.size := (Array.getElem?_eq_some_iff.1 hX0).1
  have HX : Hid (∀ W, Below W0.heap.size W0 W → W.cell? ⟨p, 0, none⟩ = some (.slice a L.length c) ∧ W.cell? ⟨p, 1, none⟩ = some (.slice a' B.length c')) := fun W hb => ⟨cell_at ((hb.block p hpl).trans hX0) rfl, cell_at ((hb.block p hpl).trans hX0) rfl⟩
  have HU : Hid (∀ W, Below W0.heap.size W0 W → Calls Tryz.prog 71 #[.slice a L.length c, .func (.func 74) #[] #[.pointer (some ⟨w.heap.size, 0, none⟩)]] W fun e w' => e = .returned (.bool (usK L n)) ∧ Below W.heap.size W w') := fun W hb => anyK_any ((hK.isK.on hB0).on hb) ((hK.parts.on hB0).on hb) hS hn w.heap.size n (Nat.lt_of_lt_of_le hlt hb.size) ((hb.cell (p := ⟨w.heap.size, 0, none⟩) hlt).trans c1)
  have HV : Hid (∀ W, Below W0.heap.size W0 W → Calls Tryz.prog 76 #[.slice a' B.length c', .func (.func 75) #[] #[.pointer (some ⟨w.heap.size, 0, none⟩)]] W fun e w' => e = .returned (.bool (usB B n)) ∧ Below W.heap.size W w') := fun W hb => anyB_any ((OwnBs.isB (own_kt hT (.of_below hB0))).on hb) hnb w.heap.size n (Nat.lt_of_lt_of_le hlt hb.size) ((hb.cell (p := ⟨w.heap.size, 0, none⟩) hlt).trans c1)
  have HC := Lib.hid cc
  have HB0 := Lib.hid hB0
  have hjn : ¬ (j : Int) < 0 := by omega
  clear hT hK hA hX hx hX0 cc n0 hB0 hj hat hq hS
  go_enter Tryz.func53, Tryz.ntmps53
  go_upto_region 1 with fail
  rw [← hW0]
  clear hW0
  go_cut [5] (fun s wx => s = .int .i64 (j : Int) ∧ Below W0.heap.size W0 wx)
  case first =>
    go_region_with (go_at_call 73; refine (HC.out _ (b_drewK (Below.refl _ _) 1)).mono ?_; rintro e W2 ⟨rfl, hB2⟩)
    all_goals go_wp2
    all_goals go_meet
    all_goals exact ⟨rfl, on1K (b_drewK (Below.refl _ _) 1) hB2 (Nat.le_refl _)⟩
  case rest =>
    obtain ⟨rfl, hB⟩ := hcut
    obtain ⟨d0, d1⟩ := HX.out wc hB
    have cu := HU.out wc hB
    rcases hu with hu | ⟨hu, hv⟩
    · rw [hu] at cu
      go_wp2_with (first | (go_at_call 71; refine cu.mono ?_; rintro e W3 ⟨rfl, hB3⟩))
      go_ret
      exact ⟨rfl, on1K HB0.out (on1K hB hB3 (Nat.le_refl _)) (Nat.le_refl _)⟩
    · rw [hu] at cu
      have HV' : Hid (∀ W, Below W0.heap.size W0 W → Calls Tryz.prog 76 #[.slice a' B.length c', .func (.func 75) #[] #[.pointer (some ⟨w.heap.size, 0, none⟩)]] W fun e w' => e = .returned (.bool true) ∧ Below W.heap.size W w') := fun W hb => by have := HV.out W hb; rw [hv] at this; exact this
      clear HV hu hv
      go_wp2_with (first | (go_at_call 71; refine cu.mono ?_; rintro e W3 ⟨rfl, hB3⟩; have hB4 := on1K hB hB3 (Nat.le_refl _); obtain ⟨g0, g1⟩ := HX.out W3 hB4) | (go_at_call 76; refine (HV'.out _ hB4).mono ?_; rintro e W5 ⟨rfl, hB5⟩))
      go_ret
      exact ⟨rfl, on1K HB0.out (on1K hB4 hB5 (Nat.le_refl _)) (Nat.le_refl _)⟩
set_option maxHeartbeats 8000000 in
set_option maxRecDepth 100000 in
theorem dropKind_yes {w : World} {base p : Nat} {L : List Kd} {B : List Bd} (h : OSc w base p L B) (hbase : base ≤ w.heap.size) (hn : L.length ≤ 12) (hS : Small L) (hnb : B.length ≤ 12) (n : Nm) (hx : ¬ idxK n L 0 = -1) (hu : usK L n = false) (hv : usB B n = false) :
    Calls Tryz.prog 53 #[.pointer (some ⟨p, 0, none⟩), .string (bs n)] w fun e w' => e = .returned (errV 0) ∧ OSc w' base p (L.eraseIdx (nmAt L n)) B ∧ Below base w w' := by
  obtain ⟨vk, vb, hp, hX, hK, hA, hT⟩ := h
  obtain ⟨j, q, hj, hat, hq, _⟩ := nmAt_has hx
  rw [hat]
  have hjl := (List.getElem?_eq_some_iff.1 hq).1
  obtain ⟨a, c, rfl⟩ := own_slice hK.1
  obtain ⟨a', c', rfl⟩ := own_slice hT
  obtain ⟨W0, hW0⟩ : ∃ W0, W0 = w.alloc (.cells #[.string (bs n)] 9) := ⟨_, rfl⟩
  have hB0 : Below w.heap.size w W0 := by rw [hW0]; exact b_alloc (Below.refl _ _) _
  have n0 := heap_alloc_new w (.cells #[.string (bs n)] 9)
  rw [← hW0] at n0
  have hX0 := (hB0.block p (Array.getElem?_eq_some_iff.1 hX).1).trans hX
  have c0 : W0.cell? ⟨p, 0, none⟩ = some (.slice a L.length c) := cell_at hX0 rfl
  have c1 : W0.cell? ⟨w.heap.size, 0, none⟩ = some (.string (bs n)) := cell_at n0 rfl
  have cc : ∀ W, Below W0.heap.size W0 W → Calls Tryz.prog 73 #[.slice a L.length c, .string (bs n)] W fun e w' => e = .returned (.int .i64 (j : Int)) ∧ Below W.heap.size W w' := fun W hb => by
    have := findKind_any ((hK.isK.on hB0).on hb) hn n
    rw [hj] at this
    exact this
  have hlt : w.heap.size < W0.heap.size := by rw [hW0]; simp
  have hpl : p < W0.heap.size := (Array.getElem?_eq_some_iff.1 hX0).1
  have HX : Hid (∀ W, Below W0.heap.size W0 W → W.cell? ⟨p, 0, none⟩ = some (.slice a L.length c) ∧ W.cell? ⟨p, 1, none⟩ = some (.slice a' B.length c')) := fun W hb => ⟨cell_at ((hb.block p hpl).trans hX0) rfl, cell_at ((hb.block p hpl).trans hX0) rfl⟩
  have HU : Hid (∀ W, Below W0.heap.size W0 W → Calls Tryz.prog 71 #[.slice a L.length c, .func (.func 74) #[] #[.pointer (some ⟨w.heap.size, 0, none⟩)]] W fun e w' => e = .returned (.bool false) ∧ Below W.heap.size W w') := fun W hb => by
    have := anyK_any ((hK.isK.on hB0).on hb) ((hK.parts.on hB0).on hb) hS hn w.heap.size n (Nat.lt_of_lt_of_le hlt hb.size) ((hb.cell (p := ⟨w.heap.size, 0, none⟩) hlt).trans c1)
    rw [hu] at this
    exact this
  have HV : Hid (∀ W, Below W0.heap.size W0 W → Calls Tryz.prog 76 #[.slice a' B.length c', .func (.func 75) #[] #[.pointer (some ⟨w.heap.size, 0, none⟩)]] W fun e w' => e = .returned (.bool false) ∧ Below W.heap.size W w') := fun W hb => by
    have := anyB_any ((OwnBs.isB (own_kt hT (.of_below hB0))).on hb) hnb w.heap.size n (Nat.lt_of_lt_of_le hlt hb.size) ((hb.cell (p := ⟨w.heap.size, 0, none⟩) hlt).trans c1)
    rw [hv] at this
    exact this
  have HD : Hid (∀ W, Below W0.heap.size W0 W → Calls Tryz.prog 77 #[.slice a L.length c, .int .i64 (j : Int), .int .i64 ((j : Int) + 1)] W fun e w' => ∃ v', e = .returned v' ∧ w'.ownsRow base 29 3 v' (L.eraseIdx j).length (cellsK (L.eraseIdx j)) ∧ W.grownBy w' (Value.slice a L.length c).ownBlock) := fun W hb => by
    have hkw := (hK.kt (.of_below hB0) (.of_below hB0) (.of_below hB0)).kt (.of_below hb) (.of_below hb) (.of_below hb)
    refine (deleteK_any hkw.1 hkw.one (by omega) j hjl).mono ?_
    rintro e w' ⟨v', h1, h2, h3, _⟩
    exact ⟨v', h1, h2, h3⟩
  have HS : Hid (∀ W, Below W0.heap.size W0 W → ∀ w2 v2, W.grownBy w2 (Value.slice a L.length c).ownBlock → w2.ownsRow base 29 3 v2 (L.eraseIdx j).length (cellsK (L.eraseIdx j)) → (w2.cell? ⟨p, 0, none⟩ = some (.slice a L.length c) ∧ w2.frozen? ⟨p, 0, none⟩ = false) ∧ OSc (w2.setCell ⟨p, 0, none⟩ v2) base p (L.eraseIdx j) B ∧ Below base w (w2.setCell ⟨p, 0, none⟩ v2)) := fun W hb w2 v2 g1 g2 => by
    have hkw := (hK.kt (.of_below hB0) (.of_below hB0) (.of_below hB0)).kt (.of_below hb) (.of_below hb) (.of_below hb)
    have hbw := on1K hB0 hb (Nat.le_refl _)
    obtain ⟨r1, r2, r3⟩ := osc_setK hp ((hb.block p hpl).trans hX0) hkw (hA.erase j) (own_kt (own_kt hT (.of_below hB0)) (.of_below hb)) (Nat.le_trans hbase hbw.size) g1 g2 (fun k hk => hkw.2 k (List.mem_of_mem_eraseIdx hk))
    exact ⟨r1, r2, (hbw.mono hbase).trans r3⟩
  have HC := Lib.hid cc
  have hjn : ¬ (j : Int) < 0 := by omega
  have hw1 : IntKind.i64.wrap ((j : Int) + 1) = (j : Int) + 1 := by rw [IntKind.wrap_i64]; omega
  have hj12 : j < 12 := by omega
  clear hT hK hA hX hx hX0 cc n0 hB0 hj hat hq hS hp
  go_enter Tryz.func53, Tryz.ntmps53
  go_upto_region 1 with fail
  rw [← hW0]
  clear hW0
  go_cut [5] (fun s wx => s = .int .i64 (j : Int) ∧ Below W0.heap.size W0 wx)
  case first =>
    go_region_with (go_at_call 73; refine (HC.out _ (b_drewK (Below.refl _ _) 1)).mono ?_; rintro e W2 ⟨rfl, hB2⟩)
    all_goals go_wp2
    all_goals go_meet
    all_goals exact ⟨rfl, on1K (b_drewK (Below.refl _ _) 1) hB2 (Nat.le_refl _)⟩
  case rest =>
    obtain ⟨rfl, hB⟩ := hcut
    obtain ⟨d0, d1⟩ := HX.out wc hB
    have cu := HU.out wc hB
    go_wp2_with (first | (go_at_call 71; refine cu.mono ?_; rintro e W3 ⟨rfl, hB3⟩; have hB4 := on1K hB hB3 (Nat.le_refl _); obtain ⟨g0, g1⟩ := HX.out W3 hB4) | (go_at_call 76; refine (HV.out _ hB4).mono ?_; rintro e W5 ⟨rfl, hB5⟩; have hB6 := on1K hB4 hB5 (Nat.le_refl _); obtain ⟨i0, i1⟩ := HX.out W5 hB6) | (go_at_call 77; refine (HD.out _ hB6).mono ?_; rintro e w7 ⟨v7, rfl, ho7, hg7⟩; obtain ⟨⟨z0, z1⟩, z2⟩ := HS.out _ hB6 w7 v7 hg7 ho7; obtain ⟨a2, c2, rfl⟩ := own_slice ho7; have HZ := Lib.hid z2; clear z2 ho7 hg7))
    go_ret
    exact ⟨rfl, HZ.out⟩
end Go.Proofs.YtkmkhadacppdnaaGreatDoor

/-
  The walk of change.findField.
-/
namespace Go.Proofs.YtkmkhadacppdnaaGreatDoor
open Go.RowKit
set_option linter.unusedVariables false
set_option linter.unusedSimpArgs false

set_option maxHeartbeats 1000000 in
theorem fName_any (f : Fd) (s : Nm) (w : World) :
    Calls Tryz.prog 90 #[f.one, .string (bs s)] w fun e w' => e = .returned (.int .i64 (Lib.compareBytes f.nm s)) ∧ Below w.heap.size w w' := by
  have c := fun w => compare_any (bs f.nm) (bs s) w
  simp only [bs_data] at c
  generalize Lib.compareBytes f.nm s = r at c ⊢
  go_enter Tryz.func90, Tryz.ntmps90
  go_wp2_with (go_at_call 86; refine (c _).mono ?_; rintro e w' ⟨rfl, rfl⟩)
  go_ret
  exact ⟨rfl, b_allocK (Below.refl _ _) (Nat.le_refl _) _⟩
set_option maxHeartbeats 8000000 in
set_option maxRecDepth 100000 in
theorem searchN_some (b off cap : Nat) (L : List Fd) (s : Nm) (w : World) (hb : b < w.heap.size) (hL : LiesF w b off L) (hs : Srt L) (hn : L.length ≤ 96) :
    Calls Tryz.prog 89 #[.slice (some ⟨b, off, none⟩) L.length cap, .string (bs s), .func (.func 90) #[] #[]] w fun e w' => e = .returned (.tuple #[.int .i64 (lo s L), .bool (fnd s L)]) ∧ Below w.heap.size w w' := by
  have hlo := lo_le s L
  have HS : Hid (LiesF w b off L ∧ Srt L) := ⟨hL, hs⟩
  clear hL hs
  go_enter Tryz.func89, Tryz.ntmps89
  go_wp2
  go_loopw [9, 10] (fun i j wr => ∃ p q : Nat, p ≤ lo s L ∧ lo s L ≤ q ∧ q ≤ L.length ∧ i = .int .i64 p ∧ j = .int .i64 q ∧ Below w.heap.size w wr) (fun i j _ => (intOf j).toNat - (intOf i).toNat)
  case atStart => exact ⟨0, L.length, Nat.zero_le _, hlo, Nat.le_refl _, rfl, rfl, Below.refl _ _⟩
  case round =>
    obtain ⟨p, q, h1, h2, h3, rfl, rfl, hBw⟩ := hrel
    have HR : Hid (p ≤ lo s L ∧ lo s L ≤ q ∧ Below w.heap.size w wr) := ⟨h1, h2, hBw⟩
    by_cases hlt : p < q
    · obtain ⟨m, hm⟩ : ∃ m, m = (p + q) / 2 := ⟨_, rfl⟩
      have hml : m < L.length := by omega
      have hmq : m < q := by omega
      have hpm : p ≤ m := by omega
      have hdiv : ((p : Int) + (q : Int)) / 2 = (m : Int) := by omega
      obtain ⟨x, hx⟩ : ∃ x, L[m]? = some x := ⟨L[m], by simp [hml]⟩
      obtain ⟨c0, c1, c2, c3⟩ := HS.out.1 m x hx
      have d0 := (hBw.cell (p := ⟨b, off + m * 4, none⟩) hb).trans c0
      have d1 := (hBw.cell (p := ⟨b, off + m * 4 + 1, none⟩) hb).trans c1
      have d2 := (hBw.cell (p := ⟨b, off + m * 4 + 2, none⟩) hb).trans c2
      have d3 := (hBw.cell (p := ⟨b, off + m * 4 + 3, none⟩) hb).trans c3
      have hsp := lo_spec s HS.out.2 m x hx
      rw [less_cmp, decide_eq_true_iff] at hsp
      have cb := fun W => fName_any x s W
      obtain ⟨r, hr⟩ : ∃ r, Lib.compareBytes x.nm s = r := ⟨_, rfl⟩
      rw [hr] at cb hsp
      clear c0 c1 c2 c3 hr hx hm
      by_cases hr0 : r < 0
      · have HM : Hid (m + 1 ≤ lo s L) := hsp.2 hr0
        clear hsp h1 h2
        go_upto_region 5 with fail
        try rw [hdiv]
        clear hdiv
        go_wp2_with (go_at_call 90; refine (cb _).mono ?_; rintro e W2 ⟨rfl, hB2⟩)
        go_roundw
        case rel => exact ⟨m + 1, q, HM.out, HR.out.2.1, h3, by go_num, rfl, on1K HR.out.2.2 hB2 (Nat.le_refl _)⟩
        case measure => simp [intOf]; omega
      · have HM : Hid (lo s L ≤ m) := by
          show _ ≤ _
          have : ¬ m < lo s L := fun h => hr0 (hsp.1 h)
          omega
        clear hsp h1 h2
        go_upto_region 5 with fail
        try rw [hdiv]
        clear hdiv
        go_wp2_with (go_at_call 90; refine (cb _).mono ?_; rintro e W2 ⟨rfl, hB2⟩)
        go_roundw
        case rel => exact ⟨p, m, HR.out.1, HM.out, by omega, rfl, by go_num, on1K HR.out.2.2 hB2 (Nat.le_refl _)⟩
        case measure => simp [intOf]; omega
    · have hpl : p = lo s L := by omega
      by_cases hl : p < L.length
      · obtain ⟨x, hx⟩ : ∃ x, L[p]? = some x := ⟨L[p], by simp [hl]⟩
        obtain ⟨c0, c1, c2, c3⟩ := HS.out.1 p x hx
        have d0 := (hBw.cell (p := ⟨b, off + p * 4, none⟩) hb).trans c0
        have d1 := (hBw.cell (p := ⟨b, off + p * 4 + 1, none⟩) hb).trans c1
        have d2 := (hBw.cell (p := ⟨b, off + p * 4 + 2, none⟩) hb).trans c2
        have d3 := (hBw.cell (p := ⟨b, off + p * 4 + 3, none⟩) hb).trans c3
        have cb := fun W => fName_any x s W
        have hz := cmpB_zero x.nm s
        have hfnd : fnd s L = (Lib.compareBytes x.nm s == 0) := by
          unfold fnd; rw [← hpl, hx]; simp only
          rw [Bool.eq_iff_iff, beq_iff_eq, beq_iff_eq]; exact hz.symm
        obtain ⟨r, hr⟩ : ∃ r, Lib.compareBytes x.nm s = r := ⟨_, rfl⟩
        rw [hr] at cb hfnd
        have HF : Hid (fnd s L = (r == 0) ∧ p = lo s L) := ⟨hfnd, hpl⟩
        have hpi : (p : Int) < (L.length : Int) := by omega
        clear c0 c1 c2 c3 hr hx hz hfnd hpl h1 h2
        go_wp2_with (go_at_call 90; refine (cb _).mono ?_; rintro e W2 ⟨rfl, hB2⟩)
        go_ret2
        exact ⟨ret_v (by rw [HF.out.1, ← HF.out.2]; rfl), on1K hBw hB2 (Nat.le_refl _)⟩
      · have hfnd : fnd s L = false := by
          unfold fnd; rw [← hpl, List.getElem?_eq_none (by omega)]
        have HF : Hid (fnd s L = false ∧ p = lo s L) := ⟨hfnd, hpl⟩
        have hpi : ¬ (p : Int) < (L.length : Int) := by omega
        have hpd : decide ((p : Int) < (L.length : Int)) = false := by simpa using hpi
        clear hfnd hpl h1 h2
        go_wp2
        go_ret2
        exact ⟨ret_v (by rw [HF.out.1, ← HF.out.2]; rfl), hBw⟩
set_option maxHeartbeats 4000000 in
theorem searchN_nil (ao : Option Addr) (c : Nat) (s : Nm) (w : World) :
    Calls Tryz.prog 89 #[.slice ao 0 c, .string (bs s), .func (.func 90) #[] #[]] w fun e w' => e = .returned (.tuple #[.int .i64 0, .bool false]) ∧ Below w.heap.size w w' := by
  go_enter Tryz.func89, Tryz.ntmps89
  go_wp2
  go_loopw [9, 10] (fun i j wr => i = .int .i64 0 ∧ j = .int .i64 0 ∧ wr = w) (fun i j _ => 0)
  case atStart => exact ⟨rfl, rfl, rfl⟩
  case round =>
    obtain ⟨rfl, rfl, rfl⟩ := hrel
    go_wp2
    go_ret2
    exact ⟨rfl, Below.refl _ _⟩
theorem searchN_any {v : Value} {L : List Fd} {w : World} (h : IsF w v L) (hs : Srt L) (hn : L.length ≤ 96) (s : Nm) :
    Calls Tryz.prog 89 #[v, .string (bs s), .func (.func 90) #[] #[]] w fun e w' => e = .returned (.tuple #[.int .i64 (lo s L), .bool (fnd s L)]) ∧ Below w.heap.size w w' := by
  rcases h with ⟨ao, c, rfl, rfl, _⟩ | ⟨b, off, cap, rfl, hcap, hm, hb, hl⟩
  · exact searchN_nil ao c s w
  · exact searchN_some b off cap L s w hb hl hs hn
set_option maxHeartbeats 1000000 in
theorem findField_any {v : Value} {L : List Fd} {w : World} (h : IsF w v L) (hs : Srt L) (hn : L.length ≤ 96) (s : Nm) :
    Calls Tryz.prog 78 #[v, .string (bs s)] w fun e w' => e = .returned (.tuple #[.int .i64 (lo s L), .bool (fnd s L)]) ∧ Below w.heap.size w w' := by
  have c := searchN_any h hs hn s
  generalize (lo s L : Int) = a at c ⊢
  generalize fnd s L = r at c ⊢
  clear h hs hn
  go_enter Tryz.func78, Tryz.ntmps78
  go_wp2_with (go_at_call 89; refine c.mono ?_; rintro e w' ⟨rfl, hB1⟩)
  go_ret2
  exact ⟨rfl, hB1⟩
end Go.Proofs.YtkmkhadacppdnaaGreatDoor

/-
  The walk of change.checkAdded.
-/
namespace Go.Proofs.YtkmkhadacppdnaaGreatDoor
open Go.RowKit
set_option linter.unusedVariables false
set_option linter.unusedSimpArgs false

set_option maxHeartbeats 4000000 in
set_option maxRecDepth 100000 in
theorem checkAdded_any (f : Fd) (t n : Int) (s : Nm) (w : World) (hs : s.length ≤ maxLen) :
    Calls Tryz.prog 79 #[f.one, .agg #[.int .i64 t, .int .i64 n, .string (bs s)]] w fun e w' => e = .returned (errV (adE f t n s)) ∧ Below w.heap.size w w' := by
  obtain ⟨fn, ft, fm, fk⟩ := f
  have hB0 : Below w.heap.size w ((w.alloc (.cells #[.string (bs fn), .int .i64 ft, .bool fm, .bool fk] 33)).alloc (.cells #[.int .i64 t, .int .i64 n, .string (bs s)] 35)) := b_alloc (b_alloc (Below.refl _ _) _) _
  by_cases hk : fk = true
  · have H : Hid (adE ⟨fn, ft, fm, fk⟩ t n s = 3) := by show _ = _; unfold adE; rw [if_pos hk]
    subst hk
    go_enter Tryz.func79, Tryz.ntmps79
    go_wp2
    go_ret
    exact ⟨ret_v (by rw [H.out]; rfl), hB0⟩
  · by_cases ht : t = 0
    · by_cases hm : fm = true
      · have H : Hid (adE ⟨fn, ft, fm, fk⟩ t n s = 3) := by show _ = _; unfold adE; rw [if_neg hk, if_pos ht, if_pos hm]
        have hk' : fk = false := by simpa using hk
        subst hk' ht hm
        go_enter Tryz.func79, Tryz.ntmps79
        go_wp2
        go_ret
        exact ⟨ret_v (by rw [H.out]; rfl), hB0⟩
      · have H : Hid (adE ⟨fn, ft, fm, fk⟩ t n s = 0) := by show _ = _; unfold adE; rw [if_neg hk, if_pos ht, if_neg hm]
        have hk' : fk = false := by simpa using hk
        have hm' : fm = false := by simpa using hm
        subst hk' ht hm'
        go_enter Tryz.func79, Tryz.ntmps79
        go_wp2
        go_ret
        exact ⟨ret_v (by rw [H.out]; rfl), hB0⟩
    · have hz : (bs s).size ≤ maxLen := by rw [bs_size]; exact hs
      have cv := fun w => check_any t n (bs s) w hz
      unfold val at cv
      simp only [bs_data] at cv
      have hk' : fk = false := by simpa using hk
      have hte : (t == 0) = false := by simpa using ht
      by_cases hv : vErr t n s = 0
      · rw [hv, errV_0] at cv
        by_cases hft : t = ft
        · have H : Hid (adE ⟨fn, ft, fm, fk⟩ t n s = 0) := by show _ = _; unfold adE; rw [if_neg hk, if_neg ht, if_pos hv, if_pos hft]
          subst hk' hft
          clear hv hk
          go_enter Tryz.func79, Tryz.ntmps79
          go_wp2_with (go_at_call 91; refine (cv _).mono ?_; rintro e w' ⟨rfl, rfl⟩)
          go_ret
          exact ⟨ret_v (by rw [H.out]; rfl), b_alloc hB0 _⟩
        · have H : Hid (adE ⟨fn, ft, fm, fk⟩ t n s = 8) := by show _ = _; unfold adE; rw [if_neg hk, if_neg ht, if_pos hv, if_neg hft]
          have hne : (t != ft) = true := by simpa using hft
          subst hk'
          clear hv hk
          go_enter Tryz.func79, Tryz.ntmps79
          go_wp2_with (go_at_call 91; refine (cv _).mono ?_; rintro e w' ⟨rfl, rfl⟩)
          go_ret
          exact ⟨ret_v (by rw [H.out]; rfl), b_alloc hB0 _⟩
      · have H : Hid (adE ⟨fn, ft, fm, fk⟩ t n s = vErr t n s) := by show _ = _; unfold adE; rw [if_neg hk, if_neg ht, if_neg hv]
        rw [errV_ne hv] at cv
        have HV := Lib.hid hv
        subst hk'
        clear hv hk
        go_enter Tryz.func79, Tryz.ntmps79
        go_wp2_with (go_at_call 91; refine (cv _).mono ?_; rintro e w' ⟨rfl, rfl⟩)
        go_ret
        exact ⟨ret_v (by rw [H.out, errV_ne HV.out]; rfl), b_alloc hB0 _⟩
end Go.Proofs.YtkmkhadacppdnaaGreatDoor

/-
  The walk of change.ownField.
-/
namespace Go.Proofs.YtkmkhadacppdnaaGreatDoor
open Go.RowKit
set_option linter.unusedVariables false
set_option linter.unusedSimpArgs false

theorem fdsAt_eq {L : List Kd} {n : Nm} {j : Nat} {q : Kd} (hat : nmAt L n = j) (hq : L[j]? = some q) : fdsAt L n = q.fs := by unfold fdsAt; rw [hat, hq]
theorem Good.srt {L : List Kd} (h : Good L) : ∀ k ∈ L, Srt k.fs ∧ k.fs.length ≤ 8 := fun k hk => by
  obtain ⟨i, hi⟩ := List.getElem?_of_mem hk
  obtain ⟨_, _, ⟨_, h8⟩, _, hf, _⟩ := kErr_zero (h i k hi)
  refine ⟨?_, h8⟩
  have key : ∀ (l : List Fd) (o : Option Fd), fChk o l = 0 → Srt l ∧ ∀ q, o = some q → ∀ x ∈ l, Op.bytesLess q.nm x.nm = true := by
    intro l
    induction l with
    | nil => intro o _; exact ⟨srt_nil, fun q _ x hx => by cases hx⟩
    | cons f r ih =>
      intro o ho
      unfold fChk at ho
      split at ho
      · rename_i hb
        obtain ⟨h1, h2⟩ := ih (some f) ho
        refine ⟨List.pairwise_cons.2 ⟨fun x hx => h2 f rfl x hx, h1⟩, fun q hq x hx => ?_⟩
        subst hq
        have hqf : Op.bytesLess q.nm f.nm = true := by
          unfold fBad at hb
          split at hb
          · split at hb
            · split at hb
              · exact absurd hb (by decide)
              · simp only at hb
                split at hb
                · exact absurd hb (by decide)
                · rename_i hn
                  have hn' : (Op.bytesLess f.nm q.nm || f.nm == q.nm) = false := by simpa using hn
                  obtain ⟨a1, a2⟩ := Bool.or_eq_false_iff.1 hn'
                  exact less_tri a1 (by simpa using a2)
            · exact absurd hb (by decide)
          · rename_i hz; exact absurd hb hz
        rcases List.mem_cons.1 hx with rfl | hx
        · exact hqf
        · exact less_trans hqf (h2 f rfl x hx)
      · rename_i hb; exact absurd ho hb
  exact (key k.fs none hf).1
set_option maxHeartbeats 4000000 in
set_option maxRecDepth 100000 in
theorem ownField_none {w : World} {base p : Nat} {L : List Kd} {B : List Bd} (h : OSc w base p L B) (hn : L.length ≤ 12) (c : Ch) (hc : ChIs w c) (hx : idxK c.nm L 0 = -1) :
    Calls Tryz.prog 81 #[.pointer (some ⟨p, 0, none⟩), c.one] w fun e w' => e = .returned (.tuple #[.pointer none, .int .i64 0, .iface 65 (.int .i64 5)]) ∧ Below w.heap.size w w' := by
  obtain ⟨vk, vb, hp, hX, hK, hA, hT⟩ := h
  obtain ⟨a, cp, rfl⟩ := own_slice hK.1
  obtain ⟨wh, nm, ⟨kn, ko, kf, vo, vf⟩, ⟨bn, bf, bt, mn, mx⟩, ⟨fn, ft, fm, fk⟩, vt, vn, vs, tn⟩ := c
  obtain ⟨ao, lo1, co, q1⟩ := hc.1.sl
  obtain ⟨af, lf1, cf, q2⟩ := hc.2.sl
  simp only at q1 q2 hx ⊢
  subst q1 q2
  obtain ⟨W0, hW0⟩ : ∃ W0, W0 = w.alloc (.cells #[.int .i64 wh, .string (bs nm), .string (bs kn), .slice ao lo1 co, .slice af lf1 cf, .string (bs bn), .string (bs bf), .string (bs bt), .int .i64 mn, .int .i64 mx, .string (bs fn), .int .i64 ft, .bool fm, .bool fk, .int .i64 vt, .int .i64 vn, .string (bs vs), .string (bs tn)] 37) := ⟨_, rfl⟩
  have hB0 : Below w.heap.size w W0 := by rw [hW0]; exact b_alloc (Below.refl _ _) _
  have n0 := heap_alloc_new w (.cells #[.int .i64 wh, .string (bs nm), .string (bs kn), .slice ao lo1 co, .slice af lf1 cf, .string (bs bn), .string (bs bf), .string (bs bt), .int .i64 mn, .int .i64 mx, .string (bs fn), .int .i64 ft, .bool fm, .bool fk, .int .i64 vt, .int .i64 vn, .string (bs vs), .string (bs tn)] 37)
  rw [← hW0] at n0
  have hX0 := (hB0.block p (Array.getElem?_eq_some_iff.1 hX).1).trans hX
  have c0 : W0.cell? ⟨p, 0, none⟩ = some (.slice a L.length cp) := cell_at hX0 rfl
  have c1 : W0.cell? ⟨w.heap.size, 1, none⟩ = some (.string (bs nm)) := cell_at n0 rfl
  have cc : ∀ W, Below W0.heap.size W0 W → Calls Tryz.prog 73 #[.slice a L.length cp, .string (bs nm)] W fun e w' => e = .returned (.int .i64 (-1)) ∧ Below W.heap.size W w' := fun W hb => by
    have := findKind_any ((hK.isK.on hB0).on hb) hn nm
    rw [hx] at this
    exact this
  have HC := Lib.hid cc
  have HB0 := Lib.hid hB0
  clear hT hK hA hX hx hX0 cc n0 hB0
  go_enter Tryz.func81, Tryz.ntmps81
  go_upto_region 1 with fail
  rw [← hW0]
  clear hW0
  go_cut [7] (fun s wx => s = .int .i64 (-1) ∧ Below W0.heap.size W0 wx)
  case first =>
    go_region_with (go_at_call 73; refine (HC.out _ (b_drewK (Below.refl _ _) 1)).mono ?_; rintro e W2 ⟨rfl, hB2⟩)
    all_goals go_wp2
    all_goals go_meet
    all_goals exact ⟨rfl, on1K (b_drewK (Below.refl _ _) 1) hB2 (Nat.le_refl _)⟩
  case rest =>
    obtain ⟨rfl, hB⟩ := hcut
    go_wp2
    go_ret3
    exact ⟨rfl, on1K HB0.out hB (Nat.le_refl _)⟩
/-- What ownField finds of a kind that is there. -/
def OwR (r : Bool) (gk j n : Nat) : Value := if r = true then .tuple #[.pointer (some ⟨gk, j * 3, none⟩), .int .i64 n, .nilIface] else .tuple #[.pointer none, .int .i64 0, .iface 65 (.int .i64 5)]
set_option maxHeartbeats 8000000 in
set_option maxRecDepth 100000 in
theorem ownField_some {w : World} {base p gk cp : Nat} {L : List Kd} {B : List Bd} {vb : Value} (hp : base ≤ p) (hX : w.heap[p]? = some (.cells #[.slice (some ⟨gk, 0, none⟩) L.length cp, vb] 25 (0, 0))) (hK : OwnKs w base (.slice (some ⟨gk, 0, none⟩) L.length cp) L) (hn : L.length ≤ 12) (hG : Good L) (c : Ch) (hc : ChIs w c) {j : Nat} {q : Kd} (hj : idxK c.nm L 0 = (j : Int)) (hq : L[j]? = some q) :
    Calls Tryz.prog 81 #[.pointer (some ⟨p, 0, none⟩), c.one] w fun e w' => e = .returned (OwR (fnd c.fd.nm q.fs) gk j (lo c.fd.nm q.fs)) ∧ Below w.heap.size w w' := by
  obtain ⟨wh, nm, ⟨kn, ko, kf, vo, vf⟩, ⟨bn, bf, bt, mn, mx⟩, ⟨fn, ft, fm, fk⟩, vt, vn, vs, tn⟩ := c
  obtain ⟨ao, lo1, co, q1⟩ := hc.1.sl
  obtain ⟨af, lf1, cf, q2⟩ := hc.2.sl
  simp only at q1 q2 hj ⊢
  subst q1 q2
  obtain ⟨W0, hW0⟩ : ∃ W0, W0 = w.alloc (.cells #[.int .i64 wh, .string (bs nm), .string (bs kn), .slice ao lo1 co, .slice af lf1 cf, .string (bs bn), .string (bs bf), .string (bs bt), .int .i64 mn, .int .i64 mx, .string (bs fn), .int .i64 ft, .bool fm, .bool fk, .int .i64 vt, .int .i64 vn, .string (bs vs), .string (bs tn)] 37) := ⟨_, rfl⟩
  have hB0 : Below w.heap.size w W0 := by rw [hW0]; exact b_alloc (Below.refl _ _) _
  have n0 := heap_alloc_new w (.cells #[.int .i64 wh, .string (bs nm), .string (bs kn), .slice ao lo1 co, .slice af lf1 cf, .string (bs bn), .string (bs bf), .string (bs bt), .int .i64 mn, .int .i64 mx, .string (bs fn), .int .i64 ft, .bool fm, .bool fk, .int .i64 vt, .int .i64 vn, .string (bs vs), .string (bs tn)] 37)
  rw [← hW0] at n0
  have hX0 := (hB0.block p (Array.getElem?_eq_some_iff.1 hX).1).trans hX
  have hjl := (List.getElem?_eq_some_iff.1 hq).1
  have hwl : w.heap.size < W0.heap.size := by rw [hW0]; simp
  have hpl : p < W0.heap.size := (Array.getElem?_eq_some_iff.1 hX0).1
  have hgl : gk < W0.heap.size := Nat.lt_of_lt_of_le (hK.1.lt gk rfl).2 hB0.size
  have c0 : W0.cell? ⟨p, 0, none⟩ = some (.slice (some ⟨gk, 0, none⟩) L.length cp) := cell_at hX0 rfl
  have c1 : W0.cell? ⟨w.heap.size, 1, none⟩ = some (.string (bs nm)) := cell_at n0 rfl
  have cc : ∀ W, Below W0.heap.size W0 W → Calls Tryz.prog 73 #[.slice (some ⟨gk, 0, none⟩) L.length cp, .string (bs nm)] W fun e w' => e = .returned (.int .i64 (j : Int)) ∧ Below W.heap.size W w' := fun W hb => by
    have := findKind_any ((hK.isK.on hB0).on hb) hn nm
    rw [hj] at this
    exact this
  have hF := (hK.parts q (List.mem_of_getElem? hq)).2
  obtain ⟨aq, lq, cq, eq1⟩ := hF.sl
  have cf' : ∀ W, Below W0.heap.size W0 W → Calls Tryz.prog 78 #[.slice aq lq cq, .string (bs fn)] W fun e w' => e = .returned (.tuple #[.int .i64 (lo fn q.fs), .bool (fnd fn q.fs)]) ∧ Below W.heap.size W w' := fun W hb => by
    have hs := hG.srt q (List.mem_of_getElem? hq)
    have := findField_any ((hF.on hB0).on hb) hs.1 (by omega) fn
    rw [eq1] at this
    exact this
  have HX : Hid (∀ W, Below W0.heap.size W0 W → W.cell? ⟨p, 0, none⟩ = some (.slice (some ⟨gk, 0, none⟩) L.length cp) ∧ W.cell? ⟨gk, j * 3 + 2, none⟩ = some (.slice aq lq cq) ∧ W.cell? ⟨w.heap.size, 10, none⟩ = some (.string (bs fn))) := fun W hb => by
    refine ⟨cell_at ((hb.block p hpl).trans hX0) rfl, ?_, cell_at ((hb.block _ hwl).trans n0) rfl⟩
    have h1 := World.ownsRow.cells (own_kt (own_kt hK.1 (.of_below hB0)) (.of_below hb)) (g := gk) rfl (j * 3 + 2) q.vf ((flatK kd_len L j q 2 hq (by omega)).trans rfl)
    rw [Addr.add_lit, Nat.zero_add, eq1] at h1
    exact h1
  have HC := Lib.hid cc
  have HCf := Lib.hid cf'
  have HB0 := Lib.hid hB0
  have hjn : ¬ (j : Int) < 0 := by omega
  have hji : (j : Int) < (L.length : Int) := by omega
  have hlo : lo fn q.fs ≤ 8 := Nat.le_trans (lo_le _ _) (hG.srt q (List.mem_of_getElem? hq)).2
  generalize lo fn q.fs = m at *
  generalize fnd fn q.fs = r at *
  clear hK hX hX0 cc n0 hB0 hj hq hF cf' hG
  go_enter Tryz.func81, Tryz.ntmps81
  go_upto_region 1 with fail
  rw [← hW0]
  clear hW0
  go_cut [7] (fun s wx => s = .int .i64 (j : Int) ∧ Below W0.heap.size W0 wx)
  case first =>
    go_region_with (go_at_call 73; refine (HC.out _ (b_drewK (Below.refl _ _) 1)).mono ?_; rintro e W2 ⟨rfl, hB2⟩)
    all_goals go_wp2
    all_goals go_meet
    all_goals exact ⟨rfl, on1K (b_drewK (Below.refl _ _) 1) hB2 (Nat.le_refl _)⟩
  case rest =>
    obtain ⟨rfl, hB⟩ := hcut
    obtain ⟨d0, d1, d2⟩ := HX.out wc hB
    go_upto_region 4 with fail
    go_cut [5, 8] (fun s t wx => s = .int .i64 (m : Int) ∧ t = .bool r ∧ Below W0.heap.size W0 wx)
    case first =>
      go_region_with (go_at_call 78; refine (HCf.out _ (b_drewK hB 1)).mono ?_; rintro e W2 ⟨rfl, hB2⟩)
      all_goals go_wp2
      all_goals go_meet
      all_goals exact ⟨rfl, rfl, on1K (b_drewK hB 1) hB2 (Nat.le_refl _)⟩
    case rest =>
      obtain ⟨rfl, rfl, hB3⟩ := hcut
      obtain ⟨g0, g1, g2⟩ := HX.out _ hB3
      cases r
      · go_wp2
        go_ret3
        exact ⟨rfl, on1K HB0.out hB3 (Nat.le_refl _)⟩
      · go_wp2
        go_ret3
        exact ⟨rfl, on1K HB0.out hB3 (Nat.le_refl _)⟩
end Go.Proofs.YtkmkhadacppdnaaGreatDoor
