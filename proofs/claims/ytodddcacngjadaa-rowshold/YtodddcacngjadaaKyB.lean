/-
  The keys of a map of values, collected: maps.Keys, slices.AppendSeq, slices.Collect at this program.
-/
import Derived.Test.YtodddcacngjadaaKyA
import Derived.Shelf.SlIterI.Collect
import Derived.Shelf.SlIterI.Nil
import Derived.Shelf.AbstractIn
import Derived.WalkKit
import Derived.OwnWalkIn
import Derived.TacticsInMore
import Derived.RegionIn
import Derived.LoopNIn
import Derived.LoopIn
namespace Go.Proofs.Ytodddcacngjadaa
open Go.RowKit Go.Shelf
set_option linter.unusedVariables false
set_option linter.unusedSimpArgs false

set_option maxRecDepth 100000 in
set_option maxHeartbeats 2000000 in
theorem keys1_in (F : Fence) (n : Nat) (h33 : F.fn 33) (hro : F.round = none) (hn : 1 ≤ n) (l Bm b : Nat) {G : V3 → Option Value} (J : List V3 → World → Prop)
    (hY : ∀ pre x W, J pre W → (pre ++ [x]).Nodup → (∀ y ∈ pre ++ [x], G y ≠ none) → YieldAt F (n - 1) Try.prog l #[enc3 x] W fun e W' => e = .returned (.bool true) ∧ J (pre ++ [x]) W' ∧ KeepsWalks W W')
    (W : World) (hJ : AbidesFrom W.heap.size J) (hm : W.cell? ⟨Bm, 0, none⟩ = some (.map (some b))) (hown : OwnM W Try.prog 24 enc3 b G) (h0 : J [] W) :
    CallsIn F n Try.prog 33 #[.func (.yield l) #[] #[], .pointer (some ⟨Bm, 0, none⟩)] W fun e W' => (∃ v, e = .returned v) ∧ ∃ ss : List V3, ss.Nodup ∧ (∀ x, x ∈ ss ↔ G x ≠ none) ∧ J ss W' := by
  refine callsIn_of_wp Try.func33 rfl h33 ?_ hro
  simp only [Try.ntmps33, List.size_toArray, List.length_cons, List.length_nil, Nat.reduceAdd, Nat.reduceSub, Array.replicate_succ, Array.replicate_zero, List.push_toArray, List.append_toArray, List.nil_append, List.cons_append]
  gi_wp2_with (first
    | (gi_at_range; refine wpIn_rangeM _ rfl _ 55 rfl Try.underlying55 rfl hown ?_; intro w0 hrg0 hg0 hs0)
    | gi_in)
  go_frame
  gi_loopw [3] (fun _ wr => ∃ ss : List V3, RgM wr Try.prog 24 enc3 b W.heap.size G ss ∧ ss.Nodup ∧ (∀ y ∈ ss, G y ≠ none) ∧ J ss wr)
    (fun _ wr => wr.rangeLeft b W.heap.size)
  case atStart =>
    exact ⟨[], hrg0, List.nodup_nil, by simp, hJ [] W w0 none h0 hg0 (fun r e => by cases e)⟩
  case round =>
    obtain ⟨ss, hrg, hnd, hgy, hJs⟩ := hrel
    gi_wp2_with (first
      | (gi_at_next; refine wpIn_nextM _ rfl _ rfl enc3_inj rfl hrg ?_ ?_)
      | gi_in)
    · intro hall
      gi_wp2
      go_end0
      exact ⟨⟨_, rfl⟩, ss, hnd, hall, hJs⟩
    · intro x v w2 hv hrg2 hlt hg2 hs2 hen
      have hJ2 : J ss w2 := hJ ss wr w2 (some W.heap.size) hJs hg2 (fun r e => by cases e; exact ⟨Nat.le_refl _, hrg.iter_walk⟩)
      have hnd2 : (ss ++ [x]).Nodup := by obtain ⟨_, _, _, _, _, _, _, _, _, _, _, _, _, hnd, _⟩ := hrg2; exact hnd
      have hgy2 : ∀ y ∈ ss ++ [x], G y ≠ none := fun y hy => by
        rcases List.mem_append.1 hy with hy | hy
        · exact hgy y hy
        · simp at hy; subst hy; rw [hv]; simp
      have hyy : YieldAt F (n - 1) Try.prog l #[enc3 x] (w2.alloc (.cells #[.int .i64 x.t, .int .i64 x.n, .string x.s] 24)) _ := hY ss x _ (hJ ss w2 _ none hJ2 (World.grownBy_alloc w2 _ none) (fun r e => by cases e)) hnd2 hgy2
      unfold enc3 at hyy hen
      obtain ⟨fn, tmps, assign, body, hy, hR⟩ := hyy
      clear hs2
      gi_wp2
      refine hR.mono ?_
      rintro e W3 ⟨rfl, hJ3, hk3⟩
      have hkw := (KeepsWalks.alloc w2 (.cells #[.int .i64 x.t, .int .i64 x.n, .string x.s] 24)).trans hk3
      gi_wp2
      go_roundw
      case rel => exact ⟨ss ++ [x], hrg2.walks hkw, hnd2, hgy2, hJ3⟩
      case measure => rw [hrg2.left_walks hkw]; exact hlt
end Go.Proofs.Ytodddcacngjadaa
