/-
  What the specification's function Read gives, whatever the text: the same as Parse.
-/
import Derived.Test.YtmgkdghkenpmbaaGreatDoorTellsF
namespace Go.Proofs.YtmgkdghkenpmbaaGreatDoor
open Go.RowKit
set_option linter.unusedVariables false
set_option linter.unusedSimpArgs false

/-- Behind the first byte. -/
def tailB (s : ByteArray) : ByteArray := s.extract 1 s.size
theorem tailB_list (s : ByteArray) : (tailB s).data.toList = s.data.toList.drop 1 := by
  unfold tailB
  rw [ByteArray.data_extract, Array.toList_extract, List.extract_eq_take_drop, List.take_of_length_le]
  rw [List.length_drop, ← size_len]; omega
theorem slice_tail (s : ByteArray) (w : World) (hs : 1 ≤ s.size) : (Instr.slice 9 (.string s) (some (.int .i64 1)) none none).run Tryz.prog w = .ok (.string (tailB s)) w := by
  rw [run_slice_string_from_if w 9 s .i64 1 Tryz.underlying9, if_pos (by omega)]; rfl
theorem rdV_ne {e : Int} (h : ¬ e = 0) (t n : Int) (s : ByteArray) : rdV e t n s = .tuple #[agg 0 0 ⟨#[]⟩, .int .i64 e] := by unfold rdV; rw [if_neg h]
theorem rdV_0 (t n : Int) (s : ByteArray) : rdV 0 t n s = .tuple #[agg t n s, .int .i64 0] := rfl

/-- No word and no text in quotes. -/
structure Plain (s : ByteArray) : Prop where
  f : (s.toList == [102, 97, 108, 115, 101]) = false
  t : (s.toList == [116, 114, 117, 101]) = false
  e : s.toList.isEmpty = false
  n : ¬ s.toList = []
  z : 0 < s.size
  q : ∀ h : 0 < s.size, ¬ (s[0].toNat : Int) = 39

set_option maxHeartbeats 2000000 in
set_option maxRecDepth 100000 in
theorem read_less (s q : ByteArray) (n : Int) (ok : Bool) (w : World) (hs : s.size ≤ 140737488355328) (hp : Plain s) (h1 : 1 < s.size) (h45 : s[0] = 45)
    (hsl : ∀ w, (Instr.slice 9 (.string s) (some (.int .i64 1)) none none).run Tryz.prog w = .ok (.string q) w)
    (hnum : ∀ w, Calls Tryz.prog 73 #[.string q, .int .i64 9] w fun e w' => e = .returned (.tuple #[.int .i64 n, .bool ok]) ∧ w' = w) (e r : Int)
    (h : (ok = false ∧ e = 2 ∧ r = 0) ∨ (ok = true ∧ n = 0 ∧ e = 2 ∧ r = 0) ∨ (ok = true ∧ 1000000 < n ∧ n < 1000000000 ∧ e = 1 ∧ r = 0) ∨ (ok = true ∧ 0 < n ∧ n ≤ 1000000 ∧ e = 0 ∧ r = -n)) :
    Calls Tryz.prog 57 #[.string s] w fun ev w' => ev = .returned (rdV e 1 r ⟨#[]⟩) ∧ Below w.heap.size w w' := by
  obtain ⟨hF, hTr, hE, hN, hz, hq⟩ := hp
  have hq' := hq hz
  clear hq
  rcases h with ⟨rfl, rfl, rfl⟩ | ⟨rfl, rfl, rfl, rfl⟩ | ⟨rfl, hn1, hn2, rfl, rfl⟩ | ⟨rfl, hn1, hn2, rfl, rfl⟩
  · go_enter Tryz.func57, Tryz.ntmps57
    go_wp2_with (go_at_call 73; refine (hnum _).mono ?_; rintro e w' ⟨rfl, rfl⟩)
    exact bodyPost_ret (v := .tuple #[agg 0 0 ⟨#[]⟩, .int .i64 2]) (by simp [results, Tryz.results57, go_sem]) rfl ⟨rfl, (Below.refl _ w).alloc (Nat.le_refl _) _⟩
  · go_enter Tryz.func57, Tryz.ntmps57
    go_wp2_with (go_at_call 73; refine (hnum _).mono ?_; rintro e w' ⟨rfl, rfl⟩)
    exact bodyPost_ret (v := .tuple #[agg 0 0 ⟨#[]⟩, .int .i64 2]) (by simp [results, Tryz.results57, go_sem]) rfl ⟨rfl, (Below.refl _ w).alloc (Nat.le_refl _) _⟩
  · have hn0 : ¬ n = 0 := by omega
    go_enter Tryz.func57, Tryz.ntmps57
    go_wp2_with (go_at_call 73; refine (hnum _).mono ?_; rintro e w' ⟨rfl, rfl⟩)
    exact bodyPost_ret (v := .tuple #[agg 0 0 ⟨#[]⟩, .int .i64 1]) (by simp [results, Tryz.results57, go_sem]) rfl ⟨rfl, (Below.refl _ w).alloc (Nat.le_refl _) _⟩
  · have hn0 : ¬ n = 0 := by omega
    go_enter Tryz.func57, Tryz.ntmps57
    go_wp2_with (go_at_call 73; refine (hnum _).mono ?_; rintro e w' ⟨rfl, rfl⟩)
    exact bodyPost_ret (v := .tuple #[agg 1 (-n) ⟨#[]⟩, .int .i64 0]) (by simp [results, Tryz.results57, go_sem]) rfl ⟨rfl, (Below.refl _ w).alloc (Nat.le_refl _) _⟩

set_option maxHeartbeats 2000000 in
set_option maxRecDepth 100000 in
theorem read_more (s : ByteArray) (n : Int) (ok : Bool) (w : World) (hs : s.size ≤ 140737488355328) (hp : Plain s) (h1 : ¬ 1 < s.size ∨ (1 < s.size ∧ ∀ h : 0 < s.size, ¬ (s[0].toNat : Int) = 45))
    (hnum : ∀ w, Calls Tryz.prog 73 #[.string s, .int .i64 9] w fun e w' => e = .returned (.tuple #[.int .i64 n, .bool ok]) ∧ w' = w) (e r : Int)
    (h : (ok = false ∧ e = 2 ∧ r = 0) ∨ (ok = true ∧ 1000000 < n ∧ n < 1000000000 ∧ e = 1 ∧ r = 0) ∨ (ok = true ∧ 0 ≤ n ∧ n ≤ 1000000 ∧ e = 0 ∧ r = n)) :
    Calls Tryz.prog 57 #[.string s] w fun ev w' => ev = .returned (rdV e 1 r ⟨#[]⟩) ∧ Below w.heap.size w w' := by
  obtain ⟨hF, hTr, hE, hN, hz, hq⟩ := hp
  have hq' := hq hz
  clear hq
  rcases h1 with h1 | ⟨h1, h45⟩
  · rcases h with ⟨rfl, rfl, rfl⟩ | ⟨rfl, hn1, hn2, rfl, rfl⟩ | ⟨rfl, hn1, hn2, rfl, rfl⟩
    · go_enter Tryz.func57, Tryz.ntmps57
      go_wp2_with (go_at_call 73; refine (hnum _).mono ?_; rintro e w' ⟨rfl, rfl⟩)
      exact bodyPost_ret (v := .tuple #[agg 0 0 ⟨#[]⟩, .int .i64 2]) (by simp [results, Tryz.results57, go_sem]) rfl ⟨rfl, (Below.refl _ w).alloc (Nat.le_refl _) _⟩
    · go_enter Tryz.func57, Tryz.ntmps57
      go_wp2_with (go_at_call 73; refine (hnum _).mono ?_; rintro e w' ⟨rfl, rfl⟩)
      exact bodyPost_ret (v := .tuple #[agg 0 0 ⟨#[]⟩, .int .i64 1]) (by simp [results, Tryz.results57, go_sem]) rfl ⟨rfl, (Below.refl _ w).alloc (Nat.le_refl _) _⟩
    · go_enter Tryz.func57, Tryz.ntmps57
      go_wp2_with (go_at_call 73; refine (hnum _).mono ?_; rintro e w' ⟨rfl, rfl⟩)
      exact bodyPost_ret (v := .tuple #[agg 1 r ⟨#[]⟩, .int .i64 0]) (by simp [results, Tryz.results57, go_sem]) rfl ⟨rfl, (Below.refl _ w).alloc (Nat.le_refl _) _⟩
  · have h45' := h45 hz
    clear h45
    rcases h with ⟨rfl, rfl, rfl⟩ | ⟨rfl, hn1, hn2, rfl, rfl⟩ | ⟨rfl, hn1, hn2, rfl, rfl⟩
    · go_enter Tryz.func57, Tryz.ntmps57
      go_wp2_with (go_at_call 73; refine (hnum _).mono ?_; rintro e w' ⟨rfl, rfl⟩)
      exact bodyPost_ret (v := .tuple #[agg 0 0 ⟨#[]⟩, .int .i64 2]) (by simp [results, Tryz.results57, go_sem]) rfl ⟨rfl, (Below.refl _ w).alloc (Nat.le_refl _) _⟩
    · go_enter Tryz.func57, Tryz.ntmps57
      go_wp2_with (go_at_call 73; refine (hnum _).mono ?_; rintro e w' ⟨rfl, rfl⟩)
      exact bodyPost_ret (v := .tuple #[agg 0 0 ⟨#[]⟩, .int .i64 1]) (by simp [results, Tryz.results57, go_sem]) rfl ⟨rfl, (Below.refl _ w).alloc (Nat.le_refl _) _⟩
    · go_enter Tryz.func57, Tryz.ntmps57
      go_wp2_with (go_at_call 73; refine (hnum _).mono ?_; rintro e w' ⟨rfl, rfl⟩)
      exact bodyPost_ret (v := .tuple #[agg 1 r ⟨#[]⟩, .int .i64 0]) (by simp [results, Tryz.results57, go_sem]) rfl ⟨rfl, (Below.refl _ w).alloc (Nat.le_refl _) _⟩

set_option maxHeartbeats 2000000 in
set_option maxRecDepth 100000 in
theorem read_empty (w : World) : Calls Tryz.prog 57 #[.string ⟨#[]⟩] w fun ev w' => ev = .returned (rdV 2 1 0 ⟨#[]⟩) ∧ Below w.heap.size w w' := by
  have hnum : ∀ w, Calls Tryz.prog 73 #[.string ⟨#[]⟩, .int .i64 9] w fun e w' => e = .returned (.tuple #[.int .i64 0, .bool false]) ∧ w' = w := fun w => number_any ⟨#[]⟩ w (by unfold maxLen; decide)
  go_enter Tryz.func57, Tryz.ntmps57
  go_wp2_with (go_at_call 73; refine (hnum _).mono ?_; rintro e w' ⟨rfl, rfl⟩)
  exact bodyPost_ret (v := .tuple #[agg 0 0 ⟨#[]⟩, .int .i64 2]) (by simp [results, Tryz.results57, go_sem]) rfl ⟨rfl, (Below.refl _ w).alloc (Nat.le_refl _) _⟩
set_option maxHeartbeats 2000000 in
set_option maxRecDepth 100000 in
theorem read_false (w : World) : Calls Tryz.prog 57 #[.string ⟨#[102, 97, 108, 115, 101]⟩] w fun ev w' => ev = .returned (rdV 0 2 0 ⟨#[]⟩) ∧ Below w.heap.size w w' := by
  go_enter Tryz.func57, Tryz.ntmps57
  go_wp2_with fail
  exact bodyPost_ret (v := .tuple #[agg 2 0 ⟨#[]⟩, .int .i64 0]) (by simp [results, Tryz.results57, go_sem]) rfl ⟨rfl, ((Below.refl _ w).alloc (Nat.le_refl _) _).alloc (by simp) _⟩
set_option maxHeartbeats 2000000 in
set_option maxRecDepth 100000 in
theorem read_true (w : World) : Calls Tryz.prog 57 #[.string ⟨#[116, 114, 117, 101]⟩] w fun ev w' => ev = .returned (rdV 0 2 1 ⟨#[]⟩) ∧ Below w.heap.size w w' := by
  go_enter Tryz.func57, Tryz.ntmps57
  go_wp2_with fail
  exact bodyPost_ret (v := .tuple #[agg 2 1 ⟨#[]⟩, .int .i64 0]) (by simp [results, Tryz.results57, go_sem]) rfl ⟨rfl, ((Below.refl _ w).alloc (Nat.le_refl _) _).alloc (by simp) _⟩
end Go.Proofs.YtmgkdghkenpmbaaGreatDoor
