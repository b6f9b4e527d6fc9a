/-
  The walk of record.Check at every record.
-/
import Derived.Test.YtkgblicmkijpdaaRecA
import Derived.Deep.RegionLaw
namespace Go.Proofs.Ytkgblicmkijpdaa
open Go.RowKit
set_option linter.unusedVariables false
set_option linter.unusedSimpArgs false

/-- The value is this record. -/
def IsRec (w : World) (v : Value) (L : List Pr) : Prop :=
  (v = .slice none 0 0 ∧ L = []) ∨ ∃ b off cap, v = .slice (some ⟨b, off, none⟩) L.length cap ∧ L.length ≤ cap ∧ b < w.heap.size ∧ Lies w b off L

theorem Lies.on {w w' : World} {b off : Nat} {L : List Pr} (h : Lies w b off L) (hb : b < w.heap.size) (hB : Below w.heap.size w w') : Lies w' b off L := fun k p hp => by
  obtain ⟨c0, c1, c2, c3⟩ := h k p hp
  exact ⟨(hB.cell hb).trans c0, (hB.cell hb).trans c1, (hB.cell hb).trans c2, (hB.cell hb).trans c3⟩
theorem IsRec.on {w w' : World} {v : Value} {L : List Pr} (h : IsRec w v L) (hB : Below w.heap.size w w') : IsRec w' v L := by
  rcases h with h | ⟨b, off, cap, hv, hc, hb, hl⟩
  · exact .inl h
  · exact .inr ⟨b, off, cap, hv, hc, Nat.lt_of_lt_of_le hb hB.size, hl.on hb hB⟩

set_option maxHeartbeats 1000000 in
theorem rcheck_nil (ao : Option Addr) (c : Nat) (w : World) : Calls Try.prog 49 #[.slice ao 0 c] w fun e w' => e = .returned (errV (rErr [])) ∧ Below w.heap.size w w' := by
  go_enter Try.func49, Try.ntmps49
  go_wp2
  go_loopw [13] (fun i wr => i = .int .i64 0 ∧ wr = w) (fun i _ => 0)
  case atStart => exact ⟨rfl, rfl⟩
  case round =>
    obtain ⟨rfl, rfl⟩ := hrel
    go_wp2
    go_ret
    exact ⟨rfl, Below.refl _ _⟩
set_option maxHeartbeats 1000000 in
theorem rcheck_many (ao : Option Addr) (n cap : Nat) (w : World) (h : 8 < n) (hm : n ≤ maxLen) : Calls Try.prog 49 #[.slice ao n cap] w fun e w' => e = .returned (.iface 60 (.int .i64 4)) ∧ Below w.heap.size w w' := by
  unfold maxLen at hm
  go_enter Try.func49, Try.ntmps49
  go_wp2
  go_ret
  exact ⟨rfl, Below.refl _ _⟩
theorem rcheck_any {v : Value} {L : List Pr} {w : World} (h : IsRec w v L) (hs : Sz L) (hm : L.length ≤ maxLen) : Calls Try.prog 49 #[v] w fun e w' => e = .returned (errV (rErr L)) ∧ Below w.heap.size w w' := by
  rcases h with ⟨rfl, rfl⟩ | ⟨b, off, cap, rfl, hc, hb, hl⟩
  · exact rcheck_nil _ _ w
  · by_cases h8 : 8 < L.length
    · have e : rErr L = 4 := by unfold rErr; rw [if_pos h8]
      rw [e]; exact rcheck_many _ _ _ _ h8 hm
    · have e : rErr L = chk none L := by unfold rErr; rw [if_neg h8]
      rw [e]; exact rcheck_some b off cap L w hb hl hs (by omega)

end Go.Proofs.Ytkgblicmkijpdaa
