/-
  The walk of the law GraphFull.
-/
import Derived.Test.YtddkdppeeadakaaDoorFulB
import Derived.Test.YtddkdppeeadakaaDoorFulC
namespace Go.Proofs.YtddkdppeeadakaaDoor
open Go.RowKit
set_option linter.unusedVariables false
set_option linter.unusedSimpArgs false

theorem hndOn {w w' : World} (hg : Hnd w) (hb : Below w.heap.size w w') : Hnd w' := by
  have hlt : 0 < w.heap.size := by
    rcases Nat.eq_zero_or_pos w.heap.size with h0 | h
    · have hg' : w.cell? ⟨0, 0, none⟩ = _ := hg
      simp [World.cell?, h0] at hg'
    · exact h
  exact (hb.cell (p := ⟨0, 0, none⟩) hlt).trans hg
set_option maxHeartbeats 4000000 in
theorem error_gen (x y : Int) (w : World) (hg : Hnd w) : Calls Tryd.prog 6 #[errV x, .int .i64 y] w fun e w' => e = .returned (.bool (x == y)) ∧ Below w.heap.size w w' := by
  go_enter Tryd.func6, Tryd.ntmps6
  go_wp2_with (go_at_call 11; refine (told_any x _ hg).mono ?_; rintro e w' ⟨rfl, hb⟩)
  go_ret
  exact ⟨rfl, hb⟩

set_option maxHeartbeats 2000000 in
set_option maxRecDepth 100000 in
theorem full_in (a b : Nat) (ha : a ≤ 80) (hb : b ≤ 140) (w : World) (hg : Hnd w) : Calls Tryd.prog 3 #[.int .i64 a, .int .i64 b] w fun e w' => e = .returned (.bool true) ∧ Below w.heap.size w w' := by
  have c4 := many_any a b ha hb w
  have HG : Hid (Hnd w) := hg
  clear hg
  have h1 : ¬ (a : Int) < 0 := by omega
  have h2 : ¬ (80 : Int) < (a : Int) := by omega
  have h3 : ¬ (b : Int) < 0 := by omega
  have h4 : ¬ (140 : Int) < (b : Int) := by omega
  go_enter Tryd.func3, Tryd.ntmps3
  go_wp2_with (go_at_call 4; refine c4.mono ?_; rintro e W1 ⟨an, cn, am, cm, rfl, hRow, hT, hB1⟩; refine Hid.out ?_)
  refine Lib.hid ?_
  obtain ⟨N, hl, hN, hrow⟩ := hRow
  have hB2 : Below W1.heap.size W1 (W1.alloc (.cells #[.slice an a cn, .slice am b cm] 25)) := b_alloc (Below.refl _ _) _
  have c5 := gcheck_any (hN.on hB2) (hT.on hB2) (row_szN hrow) (row_szT b) (by unfold maxLen; omega) (by rw [rowT_len]; unfold maxLen; omega)
  clear c4
  by_cases hbig : 60 < a ∨ 120 < b
  · rw [gErr_full (by rw [rowT_len, hl]; exact hbig), errV_4] at c5
    have ce := fun W (hW : Below (W1.alloc (.cells #[.slice an a cn, .slice am b cm] 25)).heap.size (W1.alloc (.cells #[.slice an a cn, .slice am b cm] 25)) W) => error_gen 4 4 W (hndOn HG.out (on1 (on1 hB1 hB2) hW))
    rw [errV_4, show ((4 : Int) == 4) = true from rfl] at ce
    clear hN hT hrow hl
    by_cases h60 : 60 < a
    · have h60' : (60 : Int) < (a : Int) := by omega
      go_wp2_with (first | (go_at_call 5; refine c5.mono ?_; rintro e W2 ⟨rfl, hB3⟩) | (go_at_call 6; refine (ce W2 hB3).mono ?_; rintro e W3 ⟨rfl, hB4⟩))
      go_ret
      exact ⟨rfl, on1 (on1 (on1 hB1 hB2) hB3) hB4⟩
    · have h60' : ¬ (60 : Int) < (a : Int) := by omega
      have h120' : (120 : Int) < (b : Int) := by omega
      go_wp2_with (first | (go_at_call 5; refine c5.mono ?_; rintro e W2 ⟨rfl, hB3⟩) | (go_at_call 6; refine (ce W2 hB3).mono ?_; rintro e W3 ⟨rfl, hB4⟩))
      go_ret
      exact ⟨rfl, on1 (on1 (on1 hB1 hB2) hB3) hB4⟩
  · have h60' : ¬ (60 : Int) < (a : Int) := by omega
    have h120' : ¬ (120 : Int) < (b : Int) := by omega
    rw [row_gErr hrow (by omega) (by omega), errV_0] at c5
    have c7 := fun W (hW : Below (W1.alloc (.cells #[.slice an a cn, .slice am b cm] 25)).heap.size (W1.alloc (.cells #[.slice an a cn, .slice am b cm] 25)) W) => next_row hl (hN.on (on1 hB2 hW)) (hT.on (on1 hB2 hW)) hrow (by omega) (by omega)
    have HC : Hid (∀ W, Below (W1.alloc (.cells #[.slice an a cn, .slice am b cm] 25)).heap.size (W1.alloc (.cells #[.slice an a cn, .slice am b cm] 25)) W → W.cell? ⟨W1.heap.size, 0, none⟩ = some (.slice an a cn) ∧ W.cell? ⟨W1.heap.size, 1, none⟩ = some (.slice am b cm)) := fun W hW => ⟨(hW.cell (by simp)).trans (by simp), (hW.cell (by simp)).trans (by simp)⟩
    have hwa : IntKind.i64.wrap ((a : Int) + 1) = (a : Int) + 1 := by rw [IntKind.wrap_i64]; omega
    clear hN hT hrow hl hbig
    go_wp2_with (first | (go_at_call 5; refine c5.mono ?_; rintro e W2 ⟨rfl, hB3⟩; obtain ⟨k0, k1⟩ := HC.out W2 hB3) | (go_at_call 7; refine (c7 W2 hB3).mono ?_; rintro e W3 ⟨rfl, hB4⟩))
    go_ret
    exact ⟨ret_bool (by simp), on1 (on1 (on1 hB1 hB2) hB3) hB4⟩

set_option maxHeartbeats 1000000 in
theorem full_out (x y : Int) (h : x < 0 ∨ 80 < x ∨ y < 0 ∨ 140 < y) (w : World) : Calls Tryd.prog 3 #[.int .i64 x, .int .i64 y] w fun e w' => e = .returned (.bool true) ∧ Below w.heap.size w w' := by
  by_cases h1 : x < 0
  · go_enter Tryd.func3, Tryd.ntmps3
    go_wp2
    go_ret
    exact ⟨rfl, Below.refl _ _⟩
  · by_cases h2 : 80 < x
    · go_enter Tryd.func3, Tryd.ntmps3
      go_wp2
      go_ret
      exact ⟨rfl, Below.refl _ _⟩
    · by_cases h3 : y < 0
      · go_enter Tryd.func3, Tryd.ntmps3
        go_wp2
        go_ret
        exact ⟨rfl, Below.refl _ _⟩
      · have h4 : 140 < y := by omega
        go_enter Tryd.func3, Tryd.ntmps3
        go_wp2
        go_ret
        exact ⟨rfl, Below.refl _ _⟩
theorem full_any (x y : Int) (w : World) (hg : Hnd w) : Calls Tryd.prog 3 #[.int .i64 x, .int .i64 y] w fun e w' => e = .returned (.bool true) ∧ Below w.heap.size w w' := by
  by_cases h : x < 0 ∨ 80 < x ∨ y < 0 ∨ 140 < y
  · exact full_out x y h w
  · obtain ⟨a, rfl⟩ : ∃ a : Nat, x = (a : Int) := ⟨x.toNat, by omega⟩
    obtain ⟨b, rfl⟩ : ∃ b : Nat, y = (b : Int) := ⟨y.toNat, by omega⟩
    exact full_in a b (by omega) (by omega) w hg
end Go.Proofs.YtddkdppeeadakaaDoor
