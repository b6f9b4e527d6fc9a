/-
  The walk of kinsame.Record at two records that are the same.
-/
import Derived.Test.YtghlncdnnmpikaaGreatDoorRecE
namespace Go.Proofs.YtghlncdnnmpikaaGreatDoor
open Go.RowKit
set_option linter.unusedVariables false
set_option linter.unusedSimpArgs false

theorem IsRec.form {w : World} {v : Value} {L : List Pr} (h : IsRec w v L) : ∃ ao cap, v = .slice ao L.length cap ∧ (L ≠ [] → ∃ b off, ao = some ⟨b, off, none⟩ ∧ b < w.heap.size ∧ Lies w b off L) := by
  rcases h with ⟨rfl, rfl⟩ | ⟨b, off, cap, rfl, hc, hb, hl⟩
  · exact ⟨none, 0, rfl, fun h => absurd rfl h⟩
  · exact ⟨some ⟨b, off, none⟩, cap, rfl, fun _ => ⟨b, off, rfl, hb, hl⟩⟩

set_option maxHeartbeats 4000000 in
set_option maxRecDepth 100000 in
theorem same_nil (ao bo : Option Addr) (ca cb : Nat) (w : World) :
    Calls Tryz.prog 12 #[.slice ao 0 ca, .slice bo 0 cb] w fun e w' => e = .returned (.bool true) ∧ Below w.heap.size w w' := by
  go_enter Tryz.func12, Tryz.ntmps12
  go_wp2
  go_loopw [5] (fun i wr => i = .int .i64 0 ∧ wr = w) (fun i _ => 0)
  case atStart => exact ⟨rfl, rfl⟩
  case round =>
    obtain ⟨rfl, rfl⟩ := hrel
    go_wp2
    go_ret
    exact ⟨rfl, Below.refl _ _⟩
set_option maxHeartbeats 4000000 in
set_option maxRecDepth 100000 in
theorem same_some (b off ca b2 o2 cb : Nat) (L : List Pr) (w : World) (hb : b < w.heap.size) (hL : Lies w b off L) (hb2 : b2 < w.heap.size) (hL2 : Lies w b2 o2 L) (hn : L.length ≤ 8) :
    Calls Tryz.prog 12 #[.slice (some ⟨b, off, none⟩) L.length ca, .slice (some ⟨b2, o2, none⟩) L.length cb] w fun e w' => e = .returned (.bool true) ∧ Below w.heap.size w w' := by
  go_enter Tryz.func12, Tryz.ntmps12
  go_wp2
  go_loopw [5] (fun i wr => ∃ k : Nat, k ≤ L.length ∧ i = .int .i64 k ∧ Below w.heap.size w wr) (fun i _ => L.length - (intOf i).toNat)
  case atStart => exact ⟨0, Nat.zero_le _, rfl, Below.refl _ _⟩
  case round =>
    obtain ⟨k, hk, rfl, hB⟩ := hrel
    by_cases hlt : k < L.length
    · obtain ⟨p, hp⟩ : ∃ p, L[k]? = some p := ⟨L[k], by simp [hlt]⟩
      obtain ⟨c0, c1, c2, c3⟩ := hL k p hp
      obtain ⟨e0, e1, e2, e3⟩ := hL2 k p hp
      have d0 := (hB.cell (p := ⟨b, off + k * 4, none⟩) hb).trans c0
      have d1 := (hB.cell (p := ⟨b, off + k * 4 + 1, none⟩) hb).trans c1
      have d2 := (hB.cell (p := ⟨b, off + k * 4 + 2, none⟩) hb).trans c2
      have d3 := (hB.cell (p := ⟨b, off + k * 4 + 3, none⟩) hb).trans c3
      have f0 := (hB.cell (p := ⟨b2, o2 + k * 4, none⟩) hb2).trans e0
      have f1 := (hB.cell (p := ⟨b2, o2 + k * 4 + 1, none⟩) hb2).trans e1
      have f2 := (hB.cell (p := ⟨b2, o2 + k * 4 + 2, none⟩) hb2).trans e2
      have f3 := (hB.cell (p := ⟨b2, o2 + k * 4 + 3, none⟩) hb2).trans e3
      have hlt' : (k : Int) < (L.length : Int) := by omega
      clear c0 c1 c2 c3 e0 e1 e2 e3 hp hL hL2
      go_wp2_with fail
      go_quiet (fail)
      go_wp2
      go_roundw
      case rel => exact ⟨k + 1, by omega, by go_num, b_drewN hB _⟩
      case measure => simp [intOf]; omega
    · go_wp2
      go_ret
      exact ⟨rfl, hB⟩
theorem same_any {va vb : Value} {L : List Pr} {w : World} (ha : IsRec w va L) (hb : IsRec w vb L) (hn : L.length ≤ 8) :
    Calls Tryz.prog 12 #[va, vb] w fun e w' => e = .returned (.bool true) ∧ Below w.heap.size w w' := by
  obtain ⟨ao, ca, rfl, fa⟩ := ha.form
  obtain ⟨bo, cb, rfl, fb⟩ := hb.form
  by_cases h : L = []
  · subst h; exact same_nil ao bo ca cb w
  · obtain ⟨b, off, rfl, h1, h2⟩ := fa h
    obtain ⟨b2, o2, rfl, h3, h4⟩ := fb h
    exact same_some b off ca b2 o2 cb L w h1 h2 h3 h4 hn
end Go.Proofs.YtghlncdnnmpikaaGreatDoor
