/-
  The reader of a text, in memory; the walks of what it does byte by byte: is it at the end, what it sees, a word, a name.
-/
import Derived.Test.YtmgkdghkenpmbaaGreatDoorAskM
import Derived.Test.YtmgkdghkenpmbaaGreatDoorGen
import Derived.BigQuiet
import Derived.Outline
namespace Go.Proofs.YtmgkdghkenpmbaaGreatDoor
open Go.RowKit
set_option linter.unusedVariables false
set_option linter.unusedSimpArgs false

/-- A reader in block b, of the text s; r is what it has yet to read. -/
def Rd (b : Nat) (s : ByteArray) (r : Nm) (w : World) : Prop := ∃ k : Nat, k ≤ s.size ∧ s.data.toList.drop k = r ∧ w.heap[b]? = some (.cells #[.string s, .int .i64 (k : Int)] 45 (0, 0))
abbrev rp (b : Nat) : Value := .pointer (some ⟨b, 0, none⟩)
theorem Rd.drewN {b : Nat} {s : ByteArray} {r : Nm} {w : World} (h : Rd b s r w) (n : Nat) : Rd b s r (w.drewN n) := h
theorem Rd.on {b : Nat} {s : ByteArray} {r : Nm} {w w' : World} (h : Rd b s r w) (hB : Below w.heap.size w w') : Rd b s r w' := by
  obtain ⟨k, h1, h2, h3⟩ := h
  exact ⟨k, h1, h2, (hB.block b (Array.getElem?_eq_some_iff.1 h3).1).trans h3⟩
theorem Rd.lt {b : Nat} {s : ByteArray} {r : Nm} {w : World} (h : Rd b s r w) : b < w.heap.size := by
  obtain ⟨k, h1, h2, h3⟩ := h
  exact (Array.getElem?_eq_some_iff.1 h3).1
/-- Nothing turned but the reader. -/
abbrev Gw (b : Nat) (w w' : World) : Prop := w.grownBy w' (some b)
theorem Gw.refl (b : Nat) (w : World) : Gw b w w := grown_of_below (Below.refl _ w) _
theorem Gw.drew {b : Nat} {a w : World} (h : Gw b a w) (n : Nat) : Gw b a (w.drewN n) := ⟨h.os, h.tape, h.output, h.size, h.block⟩
theorem Gw.set {b : Nat} {a w : World} (h : Gw b a w) (i : Nat) (v : Value) : Gw b a (w.setCell ⟨b, i, none⟩ v) :=
  ⟨h.os, h.tape, h.output, by simpa using h.size, fun k hk hne => (heap_setCell_other w ⟨b, i, none⟩ k v (fun e => hne (congrArg some e))).trans (h.block k hk hne)⟩
theorem Gw.on {b : Nat} {a w w' : World} (h : Gw b a w) (hB : Below w.heap.size w w') : Gw b a w' := grown_trans h (grown_of_below hB _)
theorem Gw.alloc {b : Nat} {a w : World} (h : Gw b a w) (o : Obj) : Gw b a (w.alloc o) := h.on ((Below.refl _ w).alloc (Nat.le_refl _) o)
theorem rd_put {b : Nat} {s : ByteArray} {k : Int} {w : World} (h : w.heap[b]? = some (.cells #[.string s, .int .i64 k] 45 (0, 0))) (m : Int) : (w.setCell ⟨b, 1, none⟩ (.int .i64 m)).heap[b]? = some (.cells #[.string s, .int .i64 m] 45 (0, 0)) :=
  heap_setCell_same w b 1 _ 45 _ h
theorem drop_c {s : ByteArray} {k : Nat} (h : k < s.size) : s.data.toList.drop k = s[k] :: s.data.toList.drop (k + 1) := drop_cons s k h

set_option maxHeartbeats 1000000 in
theorem ended_any {b : Nat} {s : ByteArray} {r : Nm} {w : World} (h : Rd b s r w) :
    Calls Tryz.prog 25 #[rp b] w fun e w' => e = .returned (.bool r.isEmpty) ∧ ∃ n, w' = w.drewN n := by
  obtain ⟨k, hk, hr, hB⟩ := h
  have c0 : w.cell? ⟨b, 0, none⟩ = some (.string s) := cell_at hB rfl
  have c1 : w.cell? ⟨b, 1, none⟩ = some (.int .i64 (k : Int)) := cell_at hB rfl
  have HR : Hid (((k : Int) == (s.size : Int)) = r.isEmpty) := by
    show _ = _
    rw [← hr]
    by_cases h : k < s.size
    · rw [drop_c h]; simp; omega
    · rw [drop_end s k h]; simp; omega
  clear hr hB
  go_enter Tryz.func25, Tryz.ntmps25
  go_wp2
  go_quiet (fail)
  go_wp2
  go_ret
  exact ⟨ret_bool HR.out, nq, rfl⟩

theorem sees_nil {c : UInt8} : seesB [] c = false := rfl
set_option maxHeartbeats 1000000 in
theorem sees_any {b : Nat} {s : ByteArray} {r : Nm} {w : World} (h : Rd b s r w) (c : UInt8) (hs : s.size ≤ maxLen) :
    Calls Tryz.prog 59 #[rp b, .int .u8 (c.toNat : Int)] w fun e w' => e = .returned (.bool (seesB r c)) ∧ ∃ n, w' = w.drewN n := by
  have cE := fun n => ended_any (h.drewN n)
  unfold maxLen at hs
  obtain ⟨k, hk, hr, hB⟩ := h
  have c0 : w.cell? ⟨b, 0, none⟩ = some (.string s) := cell_at hB rfl
  have c1 : w.cell? ⟨b, 1, none⟩ = some (.int .i64 (k : Int)) := cell_at hB rfl
  by_cases hlt : k < s.size
  · have HR : Hid (((s[k].toNat : Int) == (c.toNat : Int)) = seesB r c) := by
      show _ = _
      rw [← hr, drop_c hlt]; unfold seesB
      rw [Bool.eq_iff_iff]; simp
      exact ⟨fun h => UInt8.toNat_inj.1 (by omega), fun h => by rw [h]⟩
    have he : r.isEmpty = false := by rw [← hr, drop_c hlt]; rfl
    rw [he] at cE
    clear hr hB he
    go_enter Tryz.func59, Tryz.ntmps59
    go_wp2
    go_quiet (exact Calls.quiet_of (cE _))
    go_wp2
    go_ret
    exact ⟨ret_bool HR.out, nq, rfl⟩
  · have HR : Hid (false = seesB r c) := by
      show _ = _
      rw [← hr, drop_end s k hlt]; rfl
    have he : r.isEmpty = true := by rw [← hr, drop_end s k hlt]; rfl
    rw [he] at cE
    clear hr hB he
    go_enter Tryz.func59, Tryz.ntmps59
    go_wp2
    go_quiet (exact Calls.quiet_of (cE _))
    go_wp2
    go_ret
    exact ⟨ret_bool HR.out, nq, rfl⟩
end Go.Proofs.YtmgkdghkenpmbaaGreatDoor
