/-
  The walks of the reader: a value, a test.
-/
import Derived.Test.YtmgkdghkenpmbaaGreatDoorAskC
namespace Go.Proofs.YtmgkdghkenpmbaaGreatDoor
open Go.RowKit
set_option linter.unusedVariables false
set_option linter.unusedSimpArgs false

theorem Gw.setO {b g : Nat} {a w : World} (h : Gw b a w) (hg : a.heap.size ≤ g) (i : Nat) (v : Value) : Gw b a (w.setCell ⟨g, i, none⟩ v) :=
  ⟨h.os, h.tape, h.output, by simpa using h.size, fun k hk hne => (heap_setCell_other w ⟨g, i, none⟩ k v (by simp only; omega)).trans (h.block k hk hne)⟩
theorem Rd.setO {b : Nat} {s : ByteArray} {r : Nm} {w : World} (h : Rd b s r w) {g : Nat} (hg : b ≠ g) (i : Nat) (v : Value) : Rd b s r (w.setCell ⟨g, i, none⟩ v) := by
  obtain ⟨k, h1, h2, h3⟩ := h
  exact ⟨k, h1, h2, (heap_setCell_other w ⟨g, i, none⟩ b v hg).trans h3⟩
theorem Rd.alloc {b : Nat} {s : ByteArray} {r : Nm} {w : World} (h : Rd b s r w) (o : Obj) : Rd b s r (w.alloc o) := h.on ((Below.refl _ w).alloc (Nat.le_refl _) o)
theorem slice_tl (s : ByteArray) (m : Nat) (h2 : m ≤ s.size) (w : World) : (Instr.slice 9 (.string s) (some (.int .i64 (m : Int))) none none).run Tryz.prog w = .ok (.string (bs (s.data.toList.drop m))) w := by
  rw [run_slice_string_from_if w 9 s .i64 (m : Int) Tryz.underlying9, if_pos (by omega)]
  congr 2
  have e : (s.extract ((m : Int)).toNat s.size).data.toList = s.data.toList.drop m := by
    rw [ByteArray.data_extract, Array.toList_extract, List.extract_eq_take_drop, List.take_of_length_le]
    · simp
    · rw [List.length_drop, ← size_len]; exact Nat.le_refl _
  rw [← e]; exact (list_eq rfl)
theorem vw_le (q : Bool) (r : Nm) : (vw q r).length ≤ r.length := by
  induction r generalizing q with
  | nil => simp [vw]
  | cons c r ih =>
    simp only [vw]; split
    · simpa using ih _
    · split
      · simp
      · simpa using ih _
theorem cell_old {w : World} {a : Addr} {v : Value} (h : w.cell? a = some v) : ∀ o, (w.alloc o).cell? a = some v := fun o => by
  rw [World.cell?_alloc_lt _ _ a (cell_lt h)]; exact h
theorem frz_old {w : World} {b : Nat} (h : b < w.heap.size) {i : Nat} (hf : w.frozen? ⟨b, i, none⟩ = false) : ∀ o, (w.alloc o).frozen? ⟨b, i, none⟩ = false := fun o => by
  rw [World.frozen?_alloc_old _ _ ⟨b, i, none⟩ (Nat.ne_of_lt h)]; exact hf
theorem new_block (w : World) (cs : Array Value) (t : TypeId) : (w.alloc (.cells cs t)).heap[w.heap.size]? = some (.cells cs t (0, 0)) := by
  show (w.heap.push _)[w.heap.size]? = _; simp
theorem old_block {w : World} {b : Nat} {o : Obj} (h : w.heap[b]? = some o) (o' : Obj) : (w.alloc o').heap[b]? = some o :=
  (((Below.refl _ w).alloc (Nat.le_refl _) o').block b (Array.getElem?_eq_some_iff.1 h).1).trans h
/-- The three cells of a value of the call's own. -/
structure Own3 (w : World) (g : Nat) (a b c : Value) : Prop where
  c0 : w.cell? ⟨g, 0, none⟩ = some a
  c1 : w.cell? ⟨g, 1, none⟩ = some b
  c2 : w.cell? ⟨g, 2, none⟩ = some c
  f0 : w.frozen? ⟨g, 0, none⟩ = false
  f1 : w.frozen? ⟨g, 1, none⟩ = false
  f2 : w.frozen? ⟨g, 2, none⟩ = false
  d0 : ∀ o, (w.alloc o).cell? ⟨g, 0, none⟩ = some a
  d1 : ∀ o, (w.alloc o).cell? ⟨g, 1, none⟩ = some b
  d2 : ∀ o, (w.alloc o).cell? ⟨g, 2, none⟩ = some c
  e0 : ∀ o, (w.alloc o).frozen? ⟨g, 0, none⟩ = false
  e1 : ∀ o, (w.alloc o).frozen? ⟨g, 1, none⟩ = false
  e2 : ∀ o, (w.alloc o).frozen? ⟨g, 2, none⟩ = false
theorem own3 {w : World} {g : Nat} {a b c : Value} {t : TypeId} (h : w.heap[g]? = some (.cells #[a, b, c] t (0, 0))) : Own3 w g a b c :=
  have hl : g < w.heap.size := (Array.getElem?_eq_some_iff.1 h).1
  ⟨cell_at h rfl, cell_at h rfl, cell_at h rfl, frz_at h, frz_at h, frz_at h, cell_old (cell_at h rfl), cell_old (cell_at h rfl), cell_old (cell_at h rfl), frz_old hl (frz_at h), frz_old hl (frz_at h), frz_old hl (frz_at h)⟩
/-- A value, or the empty one. -/
def valO : Option (Int × Int × Nm) → Value
  | some v => .agg #[.int .i64 v.1, .int .i64 v.2.1, .string (bs v.2.2)]
  | none => .agg #[.int .i64 0, .int .i64 0, .string ⟨#[]⟩]
theorem pVal_no {r : Nm} (h : ¬ (parseL (vw false r)).1 = 0) : pVal r = (r, none) := by unfold pVal; rw [if_neg h]
theorem pVal_yes {r : Nm} (h : (parseL (vw false r)).1 = 0) : pVal r = (r.drop (vw false r).length, some (parseL (vw false r)).2) := by unfold pVal; rw [if_pos h]

set_option maxHeartbeats 2000000 in
set_option maxRecDepth 100000 in
theorem value_any {b : Nat} {s : ByteArray} {r : Nm} {w : World} (h : Rd b s r w) (hs : s.size ≤ 140737488355328) :
    Calls Tryz.prog 75 #[rp b] w fun e w' => e = .returned (.tuple #[valO (pVal r).2, .bool (pVal r).2.isSome]) ∧ Rd b s (pVal r).1 w' ∧ Gw b w w' := by
  have hbl := h.lt
  have hR0 := h.alloc (.cells #[.int .i64 0, .int .i64 0, .string ⟨#[]⟩] 31)
  have hG0 : Gw b w (w.alloc (.cells #[.int .i64 0, .int .i64 0, .string ⟨#[]⟩] 31)) := (Gw.refl b w).alloc _
  obtain ⟨k, hk, hr, hB⟩ := hR0
  have c0 : (w.alloc (.cells #[.int .i64 0, .int .i64 0, .string ⟨#[]⟩] 31)).cell? ⟨b, 0, none⟩ = some (.string s) := cell_at hB rfl
  have c1 : (w.alloc (.cells #[.int .i64 0, .int .i64 0, .string ⟨#[]⟩] 31)).cell? ⟨b, 1, none⟩ = some (.int .i64 (k : Int)) := cell_at hB rfl
  have hsl := fun w => slice_tl s k hk w
  rw [hr] at hsl
  have hrl : r.length ≤ s.size := by rw [← hr, List.length_drop, ← size_len]; omega
  have cW := fun w => valueWord_any (bs r) w (by rw [bs_size]; unfold maxLen; omega)
  rw [bs_data] at cW
  have hvl := vw_le false r
  have cP := fun w => parse_any (bs (vw false r)) w (by rw [bs_size]; omega)
  rw [bs_data] at cP
  by_cases hp : (parseL (vw false r)).1 = 0
  · rw [pVal_yes hp]
    rw [hp, resV_0] at cP
    have HB := Lib.hid hB
    have HG0 := Lib.hid hG0
    have HR : Hid (s.data.toList.drop (k + (vw false r).length) = r.drop (vw false r).length) := by
      show _ = _
      rw [← hr, List.drop_drop]
    have hkl : k + (vw false r).length ≤ s.size := by
      have : r.length = s.size - k := by rw [← hr, List.length_drop, ← size_len]
      omega
    have hvz : ((bs (vw false r)).size : Int) = ((vw false r).length : Int) := by rw [bs_size]
    generalize (parseL (vw false r)).2 = v at cP ⊢
    obtain ⟨t, n, l⟩ := v
    generalize (vw false r).length = m at hvl HR hkl hvz ⊢
    clear hr hB hG0 hp
    go_enter Tryz.func75, Tryz.ntmps75
    go_wp2
    go_quiet (exact Calls.quiet_of_same (cW _))
    go_wp2_with (go_at_call 84; refine (cP _).mono ?_; rintro e W1 ⟨rfl, hB1⟩; obtain ⟨a0, a1, a2, a3, a4, a5, a6, a7, a8, a9, a10, a11⟩ := own3 (w := W1) (g := w.heap.size) ((hB1.block w.heap.size (by simp)).trans (new_block w _ 31)); have hbb := (hB1.block b (by simp; omega)).trans HB.out; have x1 : W1.cell? ⟨b, 1, none⟩ = some (.int .i64 (k : Int)) := cell_at hbb rfl; have y1 : W1.frozen? ⟨b, 1, none⟩ = false := frz_at hbb; have x2 := cell_old x1; have y2 := frz_old (Array.getElem?_eq_some_iff.1 hbb).1 y1; have HBB := Lib.hid hbb; clear hbb; have hz : w.heap.size < W1.heap.size := by (have := hB1.size; simp at this; omega))
    have HG1 : Gw b w W1 := (HG0.out.drew nq).on hB1
    refine bodyPost_ret (v := .tuple #[.agg #[.int .i64 t, .int .i64 n, .string ⟨l.toArray⟩], .bool true]) ?_ rfl ⟨rfl, ?_, ?_⟩
    · simp [results, Tryz.results75, go_sem, a0, a1, a2, a6, a7, a8]
    · have hne : b ≠ w.heap.size := by omega
      have h1 : Rd b s (r.drop m) ((W1.alloc (.cells #[.int .i64 t, .int .i64 n, .string ⟨l.toArray⟩] 31)).setCell ⟨b, 1, none⟩ (.int .i64 ((k : Int) + (m : Int)))) :=
        ⟨k + m, hkl, HR.out, rd_put (old_block HBB.out _) _⟩
      exact ((h1.setO hne 0 _).setO hne 1 _).setO hne 2 _
    · exact ((((HG1.alloc _).set 1 _).setO (Nat.le_refl _) 0 _).setO (Nat.le_refl _) 1 _).setO (Nat.le_refl _) 2 _
  · rw [pVal_no hp]
    rw [resV_ne hp] at cP
    generalize (parseL (vw false r)).1 = z at cP
    have HB := Lib.hid hB
    have HG0 := Lib.hid hG0
    have HR := Lib.hid hr
    clear hr hB hG0 hp
    go_enter Tryz.func75, Tryz.ntmps75
    go_wp2
    go_quiet (exact Calls.quiet_of_same (cW _))
    go_wp2_with (go_at_call 84; refine (cP _).mono ?_; rintro e W1 ⟨rfl, hB1⟩; obtain ⟨a0, a1, a2, a3, a4, a5, a6, a7, a8, a9, a10, a11⟩ := own3 (w := W1) (g := w.heap.size) ((hB1.block w.heap.size (by simp)).trans (new_block w _ 31)))
    have HG1 : Gw b w W1 := (HG0.out.drew nq).on hB1
    have HBB := (hB1.block b (by simp; omega)).trans HB.out
    refine bodyPost_ret (v := .tuple #[.agg #[.int .i64 0, .int .i64 0, .string ⟨#[]⟩], .bool false]) ?_ rfl ⟨rfl, ?_, ?_⟩
    · simp [results, Tryz.results75, go_sem, a0, a1, a2, a6, a7, a8]
    · have hne : b ≠ w.heap.size := by omega
      have h1 : Rd b s r W1 := ⟨k, hk, HR.out, HBB⟩
      exact (((h1.alloc _).setO hne 0 _).setO hne 1 _).setO hne 2 _
    · exact (((HG1.alloc _).setO (Nat.le_refl _) 0 _).setO (Nat.le_refl _) 1 _).setO (Nat.le_refl _) 2 _
end Go.Proofs.YtmgkdghkenpmbaaGreatDoor
