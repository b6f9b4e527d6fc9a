/-
  The walk of schema.printBond.
-/
import Derived.Test.YtgjlonilbhlneaaDoorSchP
import Derived.Deep.RegionHeld3
namespace Go.Proofs.YtgjlonilbhlneaaDoor
open Go.RowKit
set_option linter.unusedVariables false
set_option linter.unusedSimpArgs false

theorem itoa_nat (i : Nat) : Lib.itoa (i : Int) = Lib.decDigits i := by
  unfold Lib.itoa; rw [if_neg (by omega)]; simp
theorem six_isS (w : World) (a b c d e f : Nm) : IsS (w.alloc (.cells #[.string (bs a), .string (bs b), .string (bs c), .string (bs d), .string (bs e), .string (bs f)] 9)) (.slice (some ⟨w.heap.size, 0, none⟩) 6 6) [a, b, c, d, e, f] := by
  refine .inr ⟨w.heap.size, 0, 6, rfl, by simp, by unfold maxLen; omega, by simp, ?_⟩
  intro k n hn
  match k, hn with
  | 0, hn => obtain rfl := Option.some.inj hn; simp
  | 1, hn => obtain rfl := Option.some.inj hn; simp
  | 2, hn => obtain rfl := Option.some.inj hn; simp
  | 3, hn => obtain rfl := Option.some.inj hn; simp
  | 4, hn => obtain rfl := Option.some.inj hn; simp
  | 5, hn => obtain rfl := Option.some.inj hn; simp
  | k + 6, hn => simp at hn
theorem isS_drewN {w : World} {v : Value} {l : List Nm} (h : IsS w v l) (n : Nat) : IsS (w.drewN n) v l := h.on (b_drewN (Below.refl _ _) n)

set_option maxHeartbeats 4000000 in
set_option maxRecDepth 100000 in
theorem printBond_w (nm fr to : Nm) (i : Nat) (mx : Int) (w : World) (hi : i < 100) (hm : mx = -1 ∨ ∃ j : Nat, mx = (j : Int) ∧ j < 100) :
    Calls Tryd.prog 9 #[.agg #[.string (bs nm), .string (bs fr), .string (bs to), .int .i64 (i : Int), .int .i64 mx]] w fun e w' => ∃ v, e = .returned v ∧ IsS w' v [[98, 111, 110, 100], nm, fr, to, Lib.itoa (i : Int), mxW mx] ∧ Below w.heap.size w w' := by
  have ci : ∀ w, Calls Tryd.prog 16 #[.int .i64 (i : Int)] w fun e w' => e = .returned (.string (bs (Lib.itoa (i : Int)))) ∧ w' = w := fun w => by
    rw [itoa_nat]; exact Tryd.strconv_Itoa_small i hi w
  obtain ⟨di, hdi⟩ : ∃ d, d = Lib.itoa (i : Int) := ⟨_, rfl⟩
  rw [← hdi] at ci ⊢
  have hB : Below w.heap.size w (w.alloc (.cells #[.string (bs nm), .string (bs fr), .string (bs to), .int .i64 (i : Int), .int .i64 mx] 44)) := b_alloc (Below.refl _ _) (Nat.le_refl _) _
  clear hdi hi
  rcases hm with rfl | ⟨j, rfl, hj⟩
  · have HS : Hid (IsS (((w.alloc (.cells #[.string (bs nm), .string (bs fr), .string (bs to), .int .i64 (i : Int), .int .i64 (-1)] 44)).alloc (.cells #[.string ⟨#[98, 111, 110, 100]⟩, .string (bs nm), .string (bs fr), .string (bs to), .string (bs di), .string ⟨#[97, 110, 121]⟩] 9)).drew) (.slice (some ⟨w.heap.size + 1, 0, none⟩) 6 6) [[98, 111, 110, 100], nm, fr, to, di, mxW (-1)]) := by
      have := six_isS (w.alloc (.cells #[.string (bs nm), .string (bs fr), .string (bs to), .int .i64 (i : Int), .int .i64 (-1)] 44)) [98, 111, 110, 100] nm fr to di [97, 110, 121]
      simp only [World.size_alloc] at this
      exact isS_drewN this 1
    go_enter Tryd.func9, Tryd.ntmps9
    go_wp2_with fail
    go_region_held3 (fun w' => w'.cell? ⟨w.heap.size, 0, none⟩ = some (.string (bs nm)) ∧ w'.cell? ⟨w.heap.size, 1, none⟩ = some (.string (bs fr)) ∧ w'.cell? ⟨w.heap.size, 2, none⟩ = some (.string (bs to)) ∧ w'.cell? ⟨w.heap.size, 3, none⟩ = some (.int .i64 (i : Int))) (go_keep) (first | (go_at_call 16; refine (ci _).mono ?_; rintro e w' ⟨rfl, rfl⟩))
    all_goals
      go_wp2
      go_ret
      exact ⟨.slice (some ⟨w.heap.size + 1, 0, none⟩) 6 6, rfl, HS.out, b_drewN (b_alloc hB (Nat.le_refl _) _) 1⟩
  · have hne : ((j : Int) != -1) = true := by simp
    have cj : ∀ w, Calls Tryd.prog 16 #[.int .i64 (j : Int)] w fun e w' => e = .returned (.string (bs (Lib.itoa (j : Int)))) ∧ w' = w := fun w => by
      rw [itoa_nat]; exact Tryd.strconv_Itoa_small j hj w
    have hmx : mxW (j : Int) = Lib.itoa (j : Int) := by unfold mxW; rw [if_neg (by omega)]
    rw [hmx]
    obtain ⟨dj, hdj⟩ : ∃ d, d = Lib.itoa (j : Int) := ⟨_, rfl⟩
    rw [← hdj] at cj ⊢
    have HS : Hid (IsS (((w.alloc (.cells #[.string (bs nm), .string (bs fr), .string (bs to), .int .i64 (i : Int), .int .i64 (j : Int)] 44)).alloc (.cells #[.string ⟨#[98, 111, 110, 100]⟩, .string (bs nm), .string (bs fr), .string (bs to), .string (bs di), .string (bs dj)] 9)).drew) (.slice (some ⟨w.heap.size + 1, 0, none⟩) 6 6) [[98, 111, 110, 100], nm, fr, to, di, dj]) := by
      have := six_isS (w.alloc (.cells #[.string (bs nm), .string (bs fr), .string (bs to), .int .i64 (i : Int), .int .i64 (j : Int)] 44)) [98, 111, 110, 100] nm fr to di dj
      simp only [World.size_alloc] at this
      exact isS_drewN this 1
    clear hdj hmx
    go_enter Tryd.func9, Tryd.ntmps9
    go_wp2_with (go_at_call 16; refine (cj _).mono ?_; rintro e w' ⟨rfl, rfl⟩)
    go_region_held3 (fun w' => w'.cell? ⟨w.heap.size, 0, none⟩ = some (.string (bs nm)) ∧ w'.cell? ⟨w.heap.size, 1, none⟩ = some (.string (bs fr)) ∧ w'.cell? ⟨w.heap.size, 2, none⟩ = some (.string (bs to)) ∧ w'.cell? ⟨w.heap.size, 3, none⟩ = some (.int .i64 (i : Int))) (go_keep) (first | (go_at_call 16; refine (ci _).mono ?_; rintro e w' ⟨rfl, rfl⟩))
    all_goals
      go_wp2
      go_ret
      exact ⟨.slice (some ⟨w.heap.size + 1, 0, none⟩) 6 6, rfl, HS.out, b_drewN (b_alloc hB (Nat.le_refl _) _) 1⟩
theorem printBond_any (x : Bd) (w : World) (hr : inR x.mn x.mx = true) :
    Calls Tryd.prog 9 #[x.one] w fun e w' => ∃ v, e = .returned v ∧ IsS w' v (bWords x) ∧ Below w.heap.size w w' := by
  obtain ⟨nm, fr, to, mn, mx⟩ := x
  obtain ⟨h1, h2, h3⟩ := inR_iff.1 hr
  simp only at h1 h2 h3
  obtain ⟨i, rfl⟩ : ∃ i : Nat, mn = (i : Int) := ⟨mn.toNat, by omega⟩
  refine printBond_w nm fr to i mx w (by omega) ?_
  rcases h3 with h3 | ⟨h3, h4⟩
  · exact .inl h3
  · exact .inr ⟨mx.toNat, by omega, by omega⟩

end Go.Proofs.YtgjlonilbhlneaaDoor
