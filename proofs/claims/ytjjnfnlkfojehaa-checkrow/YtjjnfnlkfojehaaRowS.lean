/-
  The walk of the simple schema.
-/
import Derived.Test.YtjjnfnlkfojehaaRowM
namespace Go.Proofs.Ytjjnfnlkfojehaa
open Go.RowKit
set_option linter.unusedVariables false
set_option linter.unusedSimpArgs false

/-- The world behind it. -/
abbrev simW (w : World) (mx : Int) : World := (((w.alloc (.cells #[.slice (some ⟨w.heap.size + 1 + 1, 0, none⟩) 1 1, .slice (some ⟨w.heap.size + 1 + 1 + 1, 0, none⟩) 1 1] 25)).alloc (.cells #[.string ⟨#[107]⟩, .int .i64 1, .bool true, .bool true] 66)).alloc (.cells #[.string ⟨#[97]⟩, .slice none 0 0, .slice (some ⟨w.heap.size + 1, 0, none⟩) 1 1] 70)).alloc (.cells #[.string ⟨#[112]⟩, .string ⟨#[97]⟩, .string ⟨#[97]⟩, .int .i64 0, .int .i64 mx] 72)
set_option maxHeartbeats 1000000 in
theorem simple_any (mx : Int) (w : World) : Calls Try.prog 9 #[.int .i64 mx] w fun e w' => e = .returned (.agg #[.slice (some ⟨w.heap.size + 1 + 1, 0, none⟩) 1 1, .slice (some ⟨w.heap.size + 1 + 1 + 1, 0, none⟩) 1 1]) ∧ w' = simW w mx := by
  go_enter Try.func9, Try.ntmps9
  go_wp2
  refine bodyPost_ret (v := .agg #[.slice (some ⟨w.heap.size + 1 + 1, 0, none⟩) 1 1, .slice (some ⟨w.heap.size + 1 + 1 + 1, 0, none⟩) 1 1]) ?_ rfl ?_
  · simp [results, Try.results9, go_sem]
  · exact ⟨rfl, rfl⟩
theorem simple_sc (mx : Int) (w : World) : Calls Try.prog 9 #[.int .i64 mx] w fun e w' => ∃ vs vo vf, e = .returned vs ∧ IsSc w' vs [kdA vo vf] [bdP mx] ∧ Below w.heap.size w w' := by
  refine (simple_any mx w).mono ?_
  rintro e w' ⟨rfl, rfl⟩
  have hB : Below w.heap.size w (simW w mx) := b_allocK (b_allocK (b_allocK (b_allocK (Below.refl _ _) (Nat.le_refl _) _) (Nat.le_refl _) _) (Nat.le_refl _) _) (Nat.le_refl _) _
  have hF : (simW w mx).heap[w.heap.size + 1]? = some (.cells #[.string ⟨#[107]⟩, .int .i64 1, .bool true, .bool true] 66 (0, 0)) := by
    have := heap_alloc_new (w.alloc (.cells #[.slice (some ⟨w.heap.size + 1 + 1, 0, none⟩) 1 1, .slice (some ⟨w.heap.size + 1 + 1 + 1, 0, none⟩) 1 1] 25)) (.cells #[.string ⟨#[107]⟩, .int .i64 1, .bool true, .bool true] 66)
    rw [World.size_alloc] at this
    exact (Below.heap_alloc _ _ _ (by simp)).trans ((Below.heap_alloc _ _ _ (by simp)).trans this)
  have hK : (simW w mx).heap[w.heap.size + 1 + 1]? = some (.cells #[.string ⟨#[97]⟩, .slice none 0 0, .slice (some ⟨w.heap.size + 1, 0, none⟩) 1 1] 70 (0, 0)) := by
    have := heap_alloc_new ((w.alloc (.cells #[.slice (some ⟨w.heap.size + 1 + 1, 0, none⟩) 1 1, .slice (some ⟨w.heap.size + 1 + 1 + 1, 0, none⟩) 1 1] 25)).alloc (.cells #[.string ⟨#[107]⟩, .int .i64 1, .bool true, .bool true] 66)) (.cells #[.string ⟨#[97]⟩, .slice none 0 0, .slice (some ⟨w.heap.size + 1, 0, none⟩) 1 1] 70)
    rw [World.size_alloc, World.size_alloc] at this
    exact (Below.heap_alloc _ _ _ (by simp)).trans this
  have hP : (simW w mx).heap[w.heap.size + 1 + 1 + 1]? = some (.cells #[.string ⟨#[112]⟩, .string ⟨#[97]⟩, .string ⟨#[97]⟩, .int .i64 0, .int .i64 mx] 72 (0, 0)) := by
    have := heap_alloc_new (((w.alloc (.cells #[.slice (some ⟨w.heap.size + 1 + 1, 0, none⟩) 1 1, .slice (some ⟨w.heap.size + 1 + 1 + 1, 0, none⟩) 1 1] 25)).alloc (.cells #[.string ⟨#[107]⟩, .int .i64 1, .bool true, .bool true] 66)).alloc (.cells #[.string ⟨#[97]⟩, .slice none 0 0, .slice (some ⟨w.heap.size + 1, 0, none⟩) 1 1] 70)) (.cells #[.string ⟨#[112]⟩, .string ⟨#[97]⟩, .string ⟨#[97]⟩, .int .i64 0, .int .i64 mx] 72)
    rw [World.size_alloc, World.size_alloc, World.size_alloc] at this
    exact this
  have one : ∀ {α : Type} {a x : α} {i : Nat}, [a][i]? = some x → i = 0 ∧ a = x := fun {α a x i} h => by
    match i with
    | 0 => exact ⟨rfl, by simpa using h⟩
    | i + 1 => simp at h
  refine ⟨_, .slice none 0 0, .slice (some ⟨w.heap.size + 1, 0, none⟩) 1 1, rfl, ⟨_, _, rfl, .inr ⟨w.heap.size + 1 + 1, 0, 1, rfl, Nat.le_refl _, by unfold maxLen; omega, (Array.getElem?_eq_some_iff.1 hK).1, fun i k hk => ?_⟩, fun k hk => ?_, fun k hk => ?_, .inr ⟨w.heap.size + 1 + 1 + 1, 0, 1, rfl, Nat.le_refl _, by unfold maxLen; omega, (Array.getElem?_eq_some_iff.1 hP).1, fun i x hx => ?_⟩, fun x hx => ?_⟩, hB⟩
  · obtain ⟨rfl, rfl⟩ := one hk
    exact ⟨cell_at hK rfl, cell_at hK rfl, cell_at hK rfl⟩
  · obtain rfl := List.mem_singleton.1 hk
    refine ⟨.inl ⟨none, 0, rfl, rfl, Nat.zero_le _, fun _ => rfl⟩, .inr ⟨w.heap.size + 1, 0, 1, rfl, Nat.le_refl _, by unfold maxLen; omega, (Array.getElem?_eq_some_iff.1 hF).1, fun i f hf => ?_⟩⟩
    obtain ⟨rfl, rfl⟩ := one hf
    exact ⟨cell_at hF rfl, cell_at hF rfl, cell_at hF rfl, cell_at hF rfl⟩
  · obtain rfl := List.mem_singleton.1 hk
    refine ⟨by show (1 : Nat) ≤ maxLen; decide, fun f hf => ?_⟩
    obtain rfl := List.mem_singleton.1 hf
    show (1 : Nat) ≤ maxLen
    decide
  · obtain ⟨rfl, rfl⟩ := one hx
    exact ⟨cell_at hP rfl, cell_at hP rfl, cell_at hP rfl, cell_at hP rfl, cell_at hP rfl⟩
  · obtain rfl := List.mem_singleton.1 hx
    show (1 : Nat) ≤ maxLen
    decide
end Go.Proofs.Ytjjnfnlkfojehaa
