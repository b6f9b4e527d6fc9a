/-
  Kinds as a parameter.
-/
import Derived.Test.YtholhlibcofojabDoorRows
import Derived.Test.YtholhlibcofojabDoorKinO
import Derived.ProofKit
import Derived.LaidMore
import Derived.OpenShut
import Derived.ShutString
import Derived.ChangeMaps5
import Derived.Stop.Joined
import Derived.Stop.LaidErr
import Derived.Lib.SmallJoins
import Derived.Carry
import Derived.SizedLaws
import Derived.MakeChecks
import Derived.Deep.Slices
import Derived.Deep.Strs
namespace Go.Proofs.YtholhlibcofojabDoor
open Go.ChangeShapes Go.WideShapes Go.ChangeAt Go.RowKit Go.Joins Go.Deep
open Go.ChangeMaps (open_string shut_string)
set_option linter.unusedVariables false
set_option linter.unusedSimpArgs false

theorem own : ownKnob Tryd.prog.godebug = none := by kernel_rfl
theorem laidOut : laidOutB Tryd.prog = true := by kernel_rfl
theorem cells28 : Tryd.prog.cellsOf 61 = 3 := by kernel_rfl
theorem cells26 : Tryd.prog.cellsOf 44 = 1 := by kernel_rfl
theorem cells25 : Tryd.prog.cellsOf 45 = 1 := by kernel_rfl
theorem cells24 : Tryd.prog.cellsOf 59 = 4 := by kernel_rfl
theorem cells9 : Tryd.prog.cellsOf 9 = 1 := by kernel_rfl
theorem cells3 : Tryd.prog.cellsOf 3 = 1 := by kernel_rfl
theorem cells4 : Tryd.prog.cellsOf 4 = 1 := by kernel_rfl

/-- A cell that is there has no spot, and its block is there. -/
theorem cell_plain {W : World} {a : Addr} {u : Value} (h : W.cell? a = some u) : a.spot = none ∧ a.block < W.heap.size := by
  refine ⟨?_, World.block_lt_of_cell? W _ h⟩
  obtain ⟨bk, off, spot⟩ := a
  cases spot with
  | none => rfl
  | some sp =>
    exfalso
    unfold World.cell? at h
    split at h
    · simp at h
    · cases h
theorem addz (a : Addr) : a.add 0 = a := by simp [Addr.add]

section
variable {H : Type} {enc : TypeId × Value → H}
set_option maxRecDepth 100000 in
/-- Four cells that read as a field. -/
theorem cells_field {W : World} {b : Nat} {sp : Nat → Bool} {hd : Bool} {n : Nat} {cs : List Value} {x : DataW H × List MemPlace} (hlen : cs.length = 4) (h : DataW.trod enc Tryd.prog W b sp hd n 59 cs = some x) :
    ∃ f : Fd, cs = f.cells ∧ f.nm.length ≤ maxLen := by
  obtain ⟨y0, y1, y2, y3, k, hxy, _, u0, u1, u2, u3⟩ := trod_struct4 Tryd.underlying59 h
  match cs, hlen with
  | [v0, v1, v2, v3], _ =>
    simp only [cells9, cells3, cells4, List.drop, List.take] at u0 u1 u2 u3
    obtain ⟨s0, e0, d0, z0⟩ := DataW.trod_string Tryd.underlying9 u0
    obtain ⟨q1, e1, d1, _⟩ := DataW.trod_int Tryd.underlying3 u1
    obtain ⟨b2, e2, _⟩ := DataW.trod_bool Tryd.underlying4 u2
    obtain ⟨b3, e3, _⟩ := DataW.trod_bool Tryd.underlying4 u3
    simp only [List.cons.injEq, and_true] at e0 e1 e2 e3
    subst e0; subst e1; subst e2; subst e3
    refine ⟨⟨s0.toList, q1, b2, b3⟩, ?_, ?_⟩
    · simp [Fd.cells, bs_self]
    · show s0.toList.length ≤ maxLen
      rw [Lib.toList_data, ← size_len]; exact z0
/-- A slice of names within. -/
theorem open_names {W : World} {b : Nat} {sp : Nat → Bool} {hd : Bool} {n : Nat} {v : Value} {x : DataW H × List MemPlace} (h : DataW.trod enc Tryd.prog W b sp hd n 44 [v] = some x) : ∃ l, IsS W v l := by
  rcases open_slice Tryd.underlying44 h with ⟨hc, _⟩ | ⟨a, len, cap, m, n, D, Pl, hc, hb, hl, hm, hmm, _, hall⟩
  · simp only [List.cons.injEq, and_true] at hc
    exact ⟨[], .inl ⟨none, 0, hc, rfl, by decide, fun _ => rfl⟩⟩
  · simp only [List.cons.injEq, and_true] at hc
    subst hc
    have hlm : len ≤ m := by rw [hmm]; split <;> omega
    by_cases h0 : len = 0
    · subst h0
      exact ⟨[], .inl ⟨some a, cap, rfl, rfl, hm, fun e => by cases e⟩⟩
    · have each : ∀ i, i < len → ∃ q : Nm, W.cell? (a.add i) = some (.string (bs q)) := by
        intro i hi
        obtain ⟨cs', h1, h2⟩ := hall i (by omega)
        rw [cells9, Nat.mul_one] at h1
        obtain ⟨_, hlen, hcell⟩ := World.cells?_some h1
        obtain ⟨s, rfl, _⟩ := DataW.trod_string Tryd.underlying9 h2
        have c0 := hcell 0 (by omega)
        refine ⟨s.toList, ?_⟩
        rw [bs_self]
        rw [addz] at c0
        simpa using c0
      obtain ⟨q, hq⟩ := choose_lt each
      have q0 := hq 0 (by omega)
      rw [addz] at q0
      obtain ⟨e1, e2⟩ := cell_plain q0
      obtain ⟨bk, off, spot⟩ := a
      simp only at e1 e2
      subst e1
      refine ⟨(List.range len).map q, .inr ⟨bk, off, cap, by simp, by simpa using hl, hm, e2, fun k y hy => ?_⟩⟩
      rw [List.getElem?_map] at hy
      obtain ⟨k', h1, h2⟩ := Option.map_eq_some_iff.1 hy
      obtain ⟨h3, h4⟩ := List.getElem?_eq_some_iff.1 h1
      simp at h3 h4
      subst h4; subst h2
      have := hq k h3
      rwa [Addr.add_lit] at this
/-- A slice of fields within. -/
theorem open_fields {W : World} {b : Nat} {sp : Nat → Bool} {hd : Bool} {n : Nat} {v : Value} {x : DataW H × List MemPlace} (h : DataW.trod enc Tryd.prog W b sp hd n 45 [v] = some x) : ∃ l, IsF W v l ∧ ∀ f ∈ l, f.nm.length ≤ maxLen := by
  rcases open_slice Tryd.underlying45 h with ⟨hc, _⟩ | ⟨a, len, cap, m, n, D, Pl, hc, hb, hl, hm, hmm, _, hall⟩
  · simp only [List.cons.injEq, and_true] at hc
    exact ⟨[], .inl ⟨none, 0, hc, rfl, by decide, fun _ => rfl⟩, fun f hf => by simp at hf⟩
  · simp only [List.cons.injEq, and_true] at hc
    subst hc
    have hlm : len ≤ m := by rw [hmm]; split <;> omega
    by_cases h0 : len = 0
    · subst h0
      exact ⟨[], .inl ⟨some a, cap, rfl, rfl, hm, fun e => by cases e⟩, fun f hf => by simp at hf⟩
    · have each : ∀ i, i < len → ∃ f : Fd, (∀ j, j < 4 → W.cell? ((a.add (i * 4)).add j) = f.cells[j]?) ∧ f.nm.length ≤ maxLen := by
        intro i hi
        obtain ⟨cs', h1, h2⟩ := hall i (by omega)
        rw [cells24] at h1
        obtain ⟨_, hlen, hcell⟩ := World.cells?_some h1
        obtain ⟨f, rfl, z⟩ := cells_field hlen h2
        exact ⟨f, hcell, z⟩
      haveI : Inhabited Fd := ⟨⟨[], 0, false, false⟩⟩
      obtain ⟨q, hq⟩ := choose_lt each
      have hsp : a.spot = none ∧ a.block < W.heap.size := by
        have c0 := (hq 0 (by omega)).1 0 (by decide)
        rw [addz, Nat.zero_mul, addz] at c0
        exact cell_plain (c0.trans rfl)
      obtain ⟨bk, off, spot⟩ := a
      obtain ⟨e1, e2⟩ := hsp
      simp only at e1 e2
      subst e1
      refine ⟨(List.range len).map q, .inr ⟨bk, off, cap, by simp, by simpa using hl, hm, e2, fun k y hy => ?_⟩, fun f hf => ?_⟩
      · rw [List.getElem?_map] at hy
        obtain ⟨k', h1, h2⟩ := Option.map_eq_some_iff.1 hy
        obtain ⟨h3, h4⟩ := List.getElem?_eq_some_iff.1 h1
        simp at h3 h4
        subst h4; subst h2
        have hh := (hq k h3).1
        have c0 := hh 0 (by decide)
        have c1 := hh 1 (by decide)
        have c2 := hh 2 (by decide)
        have c3 := hh 3 (by decide)
        rw [Addr.add_lit, Addr.add_lit] at c0 c1 c2 c3
        exact ⟨by simpa [Fd.cells] using c0, by simpa [Fd.cells] using c1, by simpa [Fd.cells] using c2, by simpa [Fd.cells] using c3⟩
      · obtain ⟨i, hi, rfl⟩ := List.mem_map.1 hf
        exact (hq i (List.mem_range.1 hi)).2
theorem shape_lt {W : World} {b : Nat} {x : TypeId × Nat} (h : W.shape? b = some x) : b < W.heap.size := by
  rcases Nat.lt_or_ge b W.heap.size with h1 | h1
  · exact h1
  · exfalso
    simp [World.shape?, Array.getElem?_eq_none h1] at h
set_option maxRecDepth 100000 in
/-- Kinds that came in. -/
theorem open_kinds {W : World} {r : Reach} {b0 b : Nat} {sp : Nat → Bool} {hd : Bool} {v : Value} {d : DataW H} {p : List MemPlace} (hv : Value.okWide Tryd.prog W r b0 38 v) (h : DataW.Trod enc Tryd.prog W b sp hd 38 v d p) :
    ∃ L, IsK W v L ∧ Parts W L ∧ SzK L := by
  obtain ⟨a, len, cap, rfl⟩ := okWide_slice Tryd.underlying38 hv
  obtain ⟨fuel, hf⟩ := h
  have hf' : DataW.trod enc Tryd.prog W b sp hd fuel 38 [.slice a len cap] = some (d, p) := by simpa [Value.cells] using hf
  rcases open_slice Tryd.underlying38 hf' with ⟨hc, _⟩ | ⟨a', len', cap', m, n, D, Pl, hc, hb, hl, hm, hmm, _, hall⟩
  · simp only [List.cons.injEq, and_true] at hc
    exact ⟨[], .inl ⟨hc, rfl⟩, fun q hq => by simp at hq, fun q hq => by simp at hq⟩
  · simp only [List.cons.injEq, and_true, Value.slice.injEq] at hc
    obtain ⟨rfl, rfl, rfl⟩ := hc
    have hlm : len ≤ m := by rw [hmm]; split <;> omega
    simp only [Value.okWide, Tryd.underlying38, Cell.okWide, Cell.ok] at hv
    obtain ⟨_, _, _, hsp, row, cells, hsh, _⟩ := hv
    have hlt := shape_lt hsh
    obtain ⟨bk, off, spot⟩ := a'
    simp only at hsp hlt
    subst hsp
    have each : ∀ i, i < len → ∃ q : Kd, (W.cell? ⟨bk, off + i * 3, none⟩ = some (.string (bs q.nm)) ∧ W.cell? ⟨bk, off + i * 3 + 1, none⟩ = some q.vo ∧ W.cell? ⟨bk, off + i * 3 + 2, none⟩ = some q.vf) ∧ (IsS W q.vo q.of ∧ IsF W q.vf q.fs) ∧ (q.nm.length ≤ maxLen ∧ ∀ f ∈ q.fs, f.nm.length ≤ maxLen) := by
      intro i hi
      obtain ⟨cs', h1, h2⟩ := hall i (by omega)
      rw [cells28] at h1
      obtain ⟨_, hlen, hcell⟩ := World.cells?_some h1
      obtain ⟨y0, y1, y2, k, hxy, _, u0, u1, u2⟩ := trod_struct3 Tryd.underlying61 h2
      match cs', hlen with
      | [v0, v1, v2], _ =>
        simp only [cells9, cells26, cells25, List.drop, List.take] at u0 u1 u2
        obtain ⟨s0, e0, d0, z0⟩ := DataW.trod_string Tryd.underlying9 u0
        simp only [List.cons.injEq, and_true] at e0
        subst e0
        obtain ⟨lo1, hS⟩ := open_names u1
        obtain ⟨lf, hF, hZ⟩ := open_fields u2
        have c0 := hcell 0 (by omega)
        have c1 := hcell 1 (by omega)
        have c2 := hcell 2 (by omega)
        rw [Addr.add_lit, Addr.add_lit] at c0 c1 c2
        refine ⟨⟨s0.toList, lo1, lf, v1, v2⟩, ⟨?_, by simpa using c1, by simpa using c2⟩, ⟨hS, hF⟩, ?_, hZ⟩
        · show _ = some (Value.string (bs s0.toList))
          rw [bs_self]; simpa using c0
        · show s0.toList.length ≤ maxLen
          rw [Lib.toList_data, ← size_len]; exact z0
    haveI : Inhabited Kd := ⟨⟨[], [], [], .nilIface, .nilIface⟩⟩
    obtain ⟨q, hq⟩ := choose_lt each
    refine ⟨(List.range len).map q, .inr ⟨bk, off, cap, by simp, by simpa using hl, hm, hlt, fun k x hx => ?_⟩, fun x hx => ?_, fun x hx => ?_⟩
    · rw [List.getElem?_map] at hx
      obtain ⟨k', h1, h2⟩ := Option.map_eq_some_iff.1 hx
      obtain ⟨h3, h4⟩ := List.getElem?_eq_some_iff.1 h1
      simp at h3 h4
      subst h4; subst h2
      exact (hq k h3).1
    · obtain ⟨i, hi, rfl⟩ := List.mem_map.1 hx
      exact (hq i (List.mem_range.1 hi)).2.1
    · obtain ⟨i, hi, rfl⟩ := List.mem_map.1 hx
      exact (hq i (List.mem_range.1 hi)).2.2
end
end Go.Proofs.YtholhlibcofojabDoor
