/-
  The walks of what is wrong with a test by itself: path.Passes of the empty record.
-/
import Derived.Test.YtmgkdghkenpmbaaGreatDoorAskK
import Derived.Laws.StructEq
namespace Go.Proofs.YtmgkdghkenpmbaaGreatDoor
open Go.RowKit
set_option linter.unusedVariables false
set_option linter.unusedSimpArgs false

theorem rcheck_nil (w : World) : Calls Tryz.prog 53 #[.slice none 0 0] w fun e w' => e = .returned .nilIface ∧ w' = w := by
  go_enter Tryz.func53, Tryz.ntmps53
  go_wp2
  go_loop [13] (fun i => i = .int .i64 0) (fun i => 0)
  case atStart => rfl
  case round =>
    subst hrel
    go_wp2
    go_ret
    exact ⟨rfl, rfl⟩
theorem index_nil (f : Value) (w : World) : Calls Tryz.prog 87 #[.slice none 0 0, f] w fun e w' => e = .returned (.int .i64 (-1)) ∧ w' = w := by
  go_enter Tryz.func87, Tryz.ntmps87
  go_wp2
  go_loop [8] (fun i => i = .int .i64 0) (fun i => 0)
  case atStart => rfl
  case round =>
    subst hrel
    go_wp2
    go_ret
    exact ⟨rfl, rfl⟩
theorem find_nil (s : ByteArray) (w : World) : Calls Tryz.prog 80 #[.slice none 0 0, .string s] w fun e w' => e = .returned (.tuple #[.int .i64 0, .iface 48 (.int .i64 5)]) ∧ Below w.heap.size w w' := by
  go_enter Tryz.func80, Tryz.ntmps80
  go_wp2_with (first | (go_at_call 53; refine (rcheck_nil _).mono ?_; rintro e w' ⟨rfl, rfl⟩) | (go_at_call 87; refine (index_nil _ _).mono ?_; rintro e w' ⟨rfl, rfl⟩))
  go_ret2
  exact ⟨rfl, (Below.refl _ w).alloc (Nat.le_refl _) _⟩
theorem get_nil (s : ByteArray) (w : World) : Calls Tryz.prog 71 #[.slice none 0 0, .string s] w fun e w' => e = .returned (.tuple #[.agg #[.int .i64 0, .int .i64 0, .string ⟨#[]⟩], .iface 48 (.int .i64 5)]) ∧ Below w.heap.size w w' := by
  have HP := Lib.hid (new_block w #[.int .i64 0, .int .i64 0, .string ⟨#[]⟩] 31)
  have HB0 : Hid (Below w.heap.size w (w.alloc (.cells #[.int .i64 0, .int .i64 0, .string ⟨#[]⟩] 31))) := (Below.refl _ w).alloc (Nat.le_refl _) _
  go_enter Tryz.func71, Tryz.ntmps71
  go_wp2_with (go_at_call 80; refine (find_nil s _).mono ?_; rintro e W1 ⟨rfl, hB1⟩; obtain ⟨a0, a1, a2, a3, a4, a5, _, _, _, _, _, _⟩ := own3 (w := W1) (g := w.heap.size) ((hB1.block w.heap.size (by simp)).trans HP.out))
  refine bodyPost_ret (v := .tuple #[.agg #[.int .i64 0, .int .i64 0, .string ⟨#[]⟩], .iface 48 (.int .i64 5)]) ?_ rfl ⟨rfl, ?_⟩
  · simp [results, Tryz.results71, go_sem, a0, a1, a2]
  · have := HB0.out.trans (hB1.mono (Nat.le_of_lt (by simp)))
    exact ((this.setCell (p := ⟨w.heap.size, 0, none⟩) (Nat.le_refl _) _).setCell (p := ⟨w.heap.size, 1, none⟩) (Nat.le_refl _) _).setCell (p := ⟨w.heap.size, 2, none⟩) (Nat.le_refl _) _
theorem passes_nil (x : Tst) (w : World) : Calls Tryz.prog 55 #[.slice none 0 0, x.one] w fun e w' => e = .returned (.bool false) ∧ Below w.heap.size w w' := by
  have HB0 : Hid (Below w.heap.size w (w.alloc (boxT x))) := (Below.refl _ w).alloc (Nat.le_refl _) _
  go_enter Tryz.func55, Tryz.ntmps55
  go_wp2_with (go_at_call 71; refine (get_nil _ _).mono ?_; rintro e W1 ⟨rfl, hB1⟩)
  go_ret
  exact ⟨rfl, b_allocK (HB0.out.trans (hB1.mono (Nat.le_of_lt (by simp)))) (Nat.le_refl _) _⟩
end Go.Proofs.YtmgkdghkenpmbaaGreatDoor
