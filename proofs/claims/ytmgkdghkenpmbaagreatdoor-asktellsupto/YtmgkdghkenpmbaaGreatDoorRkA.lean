/-
  The reader of the document's answer, in memory; the walks of what it does byte by byte.
-/
import Derived.Test.YtmgkdghkenpmbaaGreatDoorAskK
namespace Go.Proofs.YtmgkdghkenpmbaaGreatDoor
open Go.RowKit
set_option linter.unusedVariables false
set_option linter.unusedSimpArgs false

/-- A reader in block b, of the text s; what it has yet to read, and whether it went wrong. -/
def Rk (b : Nat) (s : ByteArray) (σ : Nm × Bool) (w : World) : Prop := ∃ k : Nat, k ≤ s.size ∧ s.data.toList.drop k = σ.1 ∧ w.heap[b]? = some (.cells #[.string s, .int .i64 (k : Int), .bool σ.2] 60 (0, 0))
theorem Rk.drewN {b : Nat} {s : ByteArray} {σ : Nm × Bool} {w : World} (h : Rk b s σ w) (n : Nat) : Rk b s σ (w.drewN n) := h
theorem Rk.on {b : Nat} {s : ByteArray} {σ : Nm × Bool} {w w' : World} (h : Rk b s σ w) (hB : Below w.heap.size w w') : Rk b s σ w' := by
  obtain ⟨k, h1, h2, h3⟩ := h
  exact ⟨k, h1, h2, (hB.block b (Array.getElem?_eq_some_iff.1 h3).1).trans h3⟩
theorem Rk.lt {b : Nat} {s : ByteArray} {σ : Nm × Bool} {w : World} (h : Rk b s σ w) : b < w.heap.size := by
  obtain ⟨k, h1, h2, h3⟩ := h
  exact (Array.getElem?_eq_some_iff.1 h3).1
theorem Rk.setO {b : Nat} {s : ByteArray} {σ : Nm × Bool} {w : World} (h : Rk b s σ w) {g : Nat} (hg : b ≠ g) (i : Nat) (v : Value) : Rk b s σ (w.setCell ⟨g, i, none⟩ v) := by
  obtain ⟨k, h1, h2, h3⟩ := h
  exact ⟨k, h1, h2, (heap_setCell_other w ⟨g, i, none⟩ b v hg).trans h3⟩
theorem Rk.alloc {b : Nat} {s : ByteArray} {σ : Nm × Bool} {w : World} (h : Rk b s σ w) (o : Obj) : Rk b s σ (w.alloc o) := h.on ((Below.refl _ w).alloc (Nat.le_refl _) o)
theorem Rk.own {b : Nat} {s : ByteArray} {σ : Nm × Bool} {w w' : World} {o : Option Nat} (h : Rk b s σ w) (hg : w.grownBy w' o) (hne : o ≠ some b) : Rk b s σ w' := by
  obtain ⟨k, h1, h2, h3⟩ := h
  exact ⟨k, h1, h2, (hg.block b (Array.getElem?_eq_some_iff.1 h3).1 (Ne.symm hne)).trans h3⟩
theorem Rk.kt {b : Nat} {s : ByteArray} {σ : Nm × Bool} {w w' : World} {t : TypeId} (h : Rk b s σ w) (hg : Gw b w w') (ht : (60 : TypeId) ≠ t) : Kt t w w' := by
  obtain ⟨k, h1, h2, h3⟩ := h
  exact Kt.of_grown h3 ht hg
theorem Rk.atOf {b : Nat} {s : ByteArray} {σ : Nm × Bool} {w : World} (h : Rk b s σ w) : atOf b w = s.size - σ.1.length ∧ σ.1.length ≤ s.size := by
  obtain ⟨k, h1, h2, h3⟩ := h
  rw [atOf_eq (cell_at h3 rfl), ← h2, List.length_drop, ← size_len]
  omega
theorem rk_put {b : Nat} {s : ByteArray} {k : Int} {bad : Bool} {w : World} (h : w.heap[b]? = some (.cells #[.string s, .int .i64 k, .bool bad] 60 (0, 0))) (m : Int) : (w.setCell ⟨b, 1, none⟩ (.int .i64 m)).heap[b]? = some (.cells #[.string s, .int .i64 m, .bool bad] 60 (0, 0)) :=
  heap_setCell_same w b 1 _ 60 _ h
theorem rk_bad {b : Nat} {s : ByteArray} {k : Int} {bad : Bool} {w : World} (h : w.heap[b]? = some (.cells #[.string s, .int .i64 k, .bool bad] 60 (0, 0))) (q : Bool) : (w.setCell ⟨b, 2, none⟩ (.bool q)).heap[b]? = some (.cells #[.string s, .int .i64 k, .bool q] 60 (0, 0)) :=
  heap_setCell_same w b 2 _ 60 _ h

set_option maxHeartbeats 2000000 in
set_option maxRecDepth 100000 in
theorem is_any {b : Nat} {s : ByteArray} {σ : Nm × Bool} {w : World} (h : Rk b s σ w) (c : UInt8) (hs : s.size ≤ maxLen) :
    Calls Tryz.prog 38 #[rp b, .int .u8 (c.toNat : Int)] w fun e w' => e = .returned (.bool (!σ.2 && seesB σ.1 c)) ∧ ∃ n, w' = w.drewN n := by
  obtain ⟨r, bad⟩ := σ
  obtain ⟨k, hk, hr, hB⟩ := h
  simp only at hr hB ⊢
  unfold maxLen at hs
  have c0 : w.cell? ⟨b, 0, none⟩ = some (.string s) := cell_at hB rfl
  have c1 : w.cell? ⟨b, 1, none⟩ = some (.int .i64 (k : Int)) := cell_at hB rfl
  have c2 : w.cell? ⟨b, 2, none⟩ = some (.bool bad) := cell_at hB rfl
  cases bad with
  | true =>
    rw [show (!true && seesB r c) = false from rfl]
    clear hr hB
    go_enter Tryz.func38, Tryz.ntmps38
    go_wp2
    go_quiet (fail)
    go_wp2
    go_ret
    exact ⟨rfl, nq, rfl⟩
  | false =>
    rw [show (!false && seesB r c) = seesB r c from rfl]
    by_cases hlt : k < s.size
    · have HR : Hid (((s[k].toNat : Int) == (c.toNat : Int)) = seesB r c) := by
        show _ = _
        rw [← hr, drop_c hlt]; unfold seesB
        rw [Bool.eq_iff_iff]; simp
        exact ⟨fun h => UInt8.toNat_inj.1 (by omega), fun h => by rw [h]⟩
      have g1 : decide ((k : Int) < (s.size : Int)) = true := by simp; omega
      clear hr hB
      go_enter Tryz.func38, Tryz.ntmps38
      go_wp2
      go_quiet (fail)
      go_wp2
      go_ret
      exact ⟨ret_bool HR.out, nq, rfl⟩
    · have HR : Hid (false = seesB r c) := by
        show _ = _
        rw [← hr, drop_end s k hlt]; rfl
      have g1 : decide ((k : Int) < (s.size : Int)) = false := by simp; omega
      clear hr hB
      go_enter Tryz.func38, Tryz.ntmps38
      go_wp2
      go_quiet (fail)
      go_wp2
      go_ret
      exact ⟨ret_bool HR.out, nq, rfl⟩

/-- A byte is needed. -/
def ndS (c : UInt8) (σ : Nm × Bool) : Nm × Bool := if (!σ.2 && seesB σ.1 c) = true then (σ.1.tail, false) else (σ.1, true)
set_option maxHeartbeats 2000000 in
set_option maxRecDepth 100000 in
theorem need_any {b : Nat} {s : ByteArray} {σ : Nm × Bool} {w : World} (h : Rk b s σ w) (c : UInt8) (hs : s.size ≤ maxLen) :
    Calls Tryz.prog 37 #[rp b, .int .u8 (c.toNat : Int)] w fun e w' => e = .returned (.tuple #[]) ∧ Rk b s (ndS c σ) w' ∧ Gw b w w' := by
  have cI := is_any h c hs
  unfold maxLen at hs
  obtain ⟨k, hk, hr, hB⟩ := h
  have c1 : w.cell? ⟨b, 1, none⟩ = some (.int .i64 (k : Int)) := cell_at hB rfl
  have c2 : w.cell? ⟨b, 2, none⟩ = some (.bool σ.2) := cell_at hB rfl
  have f1 : w.frozen? ⟨b, 1, none⟩ = false := frz_at hB
  have f2 : w.frozen? ⟨b, 2, none⟩ = false := frz_at hB
  by_cases hc : (!σ.2 && seesB σ.1 c) = true
  · have HE : Hid (ndS c σ = (σ.1.tail, false)) := by show _ = _; unfold ndS; rw [if_pos hc]
    rw [hc] at cI
    have hb : σ.2 = false := by cases h2 : σ.2 <;> simp [h2] at hc ⊢
    have hse : seesB σ.1 c = true := by rw [hb] at hc; simpa using hc
    obtain ⟨hk1, hq1⟩ := rd_next hr hse
    rw [hb] at hB
    have HB := Lib.hid hB
    have HQ := Lib.hid hq1
    clear hB hr hc hb hse hq1 c2 f2
    go_enter Tryz.func37, Tryz.ntmps37
    go_wp2_with (go_at_call 38; refine cI.mono ?_; rintro e W1 ⟨rfl, nq, rfl⟩)
    go_end0
    rw [HE.out]
    exact ⟨rfl, ⟨k + 1, by omega, HQ.out, rk_put (w := w.drewN nq) HB.out ((k : Int) + 1)⟩, ((Gw.refl b w).drew nq).set _ _⟩
  · have hc' : (!σ.2 && seesB σ.1 c) = false := by simpa using hc
    have HE : Hid (ndS c σ = (σ.1, true)) := by show _ = _; unfold ndS; rw [if_neg hc]
    rw [hc'] at cI
    have HB := Lib.hid hB
    have HQ := Lib.hid hr
    clear hB hr hc hc' c1 f1
    go_enter Tryz.func37, Tryz.ntmps37
    go_wp2_with (go_at_call 38; refine cI.mono ?_; rintro e W1 ⟨rfl, nq, rfl⟩)
    go_end0
    rw [HE.out]
    exact ⟨rfl, ⟨k, hk, HQ.out, rk_bad (w := w.drewN nq) HB.out true⟩, ((Gw.refl b w).drew nq).set _ _⟩
end Go.Proofs.YtmgkdghkenpmbaaGreatDoor
