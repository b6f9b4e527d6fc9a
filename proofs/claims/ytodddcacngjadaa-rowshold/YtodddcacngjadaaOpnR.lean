/-
  Records as a parameter.
-/
import Derived.Test.YtodddcacngjadaaRows
import Derived.Test.YtodddcacngjadaaLwD
import Derived.ProofKit
import Derived.LaidMore
import Derived.OpenShut
import Derived.ShutString
import Derived.ChangeMaps5
import Derived.Stop.Joined
import Derived.Stop.LaidErr
import Derived.Lib.SmallJoins
import Derived.Carry
import Derived.SizedLaws
import Derived.MakeChecks
import Derived.Deep.Slices
import Derived.Deep.Strs
namespace Go.Proofs.Ytodddcacngjadaa
open Go.ChangeShapes Go.WideShapes Go.ChangeAt Go.RowKit Go.Joins Go.Deep
open Go.ChangeMaps (open_string shut_string)
set_option linter.unusedVariables false
set_option linter.unusedSimpArgs false

theorem own : ownKnob Try.prog.godebug = none := by kernel_rfl
theorem co26 : Try.prog.cellsOf 26 = 4 := by kernel_rfl
theorem co28 : Try.prog.cellsOf 28 = 1 := by kernel_rfl
/-- A cell that is there has no spot, and its block is there. -/
theorem cell_plain {W : World} {a : Addr} {u : Value} (h : W.cell? a = some u) : a.spot = none ∧ a.block < W.heap.size := by
  refine ⟨?_, World.block_lt_of_cell? W _ h⟩
  obtain ⟨bk, off, spot⟩ := a
  cases spot with
  | none => rfl
  | some sp =>
    exfalso
    unfold World.cell? at h
    split at h
    · simp at h
    · cases h
theorem addz (a : Addr) : a.add 0 = a := by simp [Addr.add]

section
variable {H : Type} {enc : TypeId × Value → H}
set_option maxRecDepth 100000 in
/-- Four cells that read as a property. -/
theorem cells_prop {W : World} {b : Nat} {sp : Nat → Bool} {hd : Bool} {n : Nat} {cs : List Value} {x : DataW H × List MemPlace} (hlen : cs.length = 4) (h : DataW.trod enc Try.prog W b sp hd n 26 cs = some x) :
    ∃ q : Pr, cs = q.cells ∧ q.nm.size ≤ maxLen ∧ q.s.size ≤ maxLen := by
  obtain ⟨y0, y1, k, hxy, _, u0, u1⟩ := trod_struct2 Try.underlying26 h
  match cs, hlen with
  | [v0, v1, v2, v3], _ =>
    simp only [co9, co24, List.drop, List.take] at u0 u1
    obtain ⟨s0, e0, d0, z0⟩ := DataW.trod_string Try.underlying9 u0
    obtain ⟨w0, w1, w2, k2, hw, _, t0, t1, t2⟩ := trod_struct3 Try.underlying24 u1
    simp only [co9, co3, List.drop, List.take] at t0 t1 t2
    obtain ⟨q1, e1, d1, _⟩ := DataW.trod_int Try.underlying3 t0
    obtain ⟨q2, e2, d2, _⟩ := DataW.trod_int Try.underlying3 t1
    obtain ⟨s3, e3, d3, z3⟩ := DataW.trod_string Try.underlying9 t2
    simp only [List.cons.injEq, and_true] at e0 e1 e2 e3
    subst e0; subst e1; subst e2; subst e3
    exact ⟨⟨s0, q1, q2, s3⟩, rfl, z0, z3⟩
/-- A record within. -/
theorem open_props {W : World} {b : Nat} {sp : Nat → Bool} {hd : Bool} {n : Nat} {v : Value} {x : DataW H × List MemPlace} (h : DataW.trod enc Try.prog W b sp hd n 28 [v] = some x) : ∃ l, IsR W v l ∧ Sz l ∧ l.length ≤ maxLen := by
  rcases open_slice Try.underlying28 h with ⟨hc, _⟩ | ⟨a, len, cap, m, n, D, Pl, hc, hb, hl, hm, hmm, _, hall⟩
  · simp only [List.cons.injEq, and_true] at hc
    exact ⟨[], ⟨none, 0, hc, .inl rfl⟩, fun f hf => by simp at hf, by decide⟩
  · simp only [List.cons.injEq, and_true] at hc
    subst hc
    have hlm : len ≤ m := by rw [hmm]; split <;> omega
    by_cases h0 : len = 0
    · subst h0
      exact ⟨[], ⟨some a, cap, rfl, .inl rfl⟩, fun f hf => by simp at hf, by decide⟩
    · have each : ∀ i, i < len → ∃ f : Pr, (∀ j, j < 4 → W.cell? ((a.add (i * 4)).add j) = f.cells[j]?) ∧ f.nm.size ≤ maxLen ∧ f.s.size ≤ maxLen := by
        intro i hi
        obtain ⟨cs', h1, h2⟩ := hall i (by omega)
        rw [co26] at h1
        obtain ⟨_, hlen, hcell⟩ := World.cells?_some h1
        obtain ⟨f, rfl, z⟩ := cells_prop hlen h2
        exact ⟨f, hcell, z⟩
      haveI : Inhabited Pr := ⟨⟨⟨#[]⟩, 0, 0, ⟨#[]⟩⟩⟩
      obtain ⟨q, hq⟩ := choose_lt each
      have hsp : a.spot = none ∧ a.block < W.heap.size := by
        have c0 := (hq 0 (by omega)).1 0 (by decide)
        rw [addz, Nat.zero_mul, addz] at c0
        exact cell_plain (c0.trans rfl)
      obtain ⟨bk, off, spot⟩ := a
      obtain ⟨e1, e2⟩ := hsp
      simp only at e1 e2
      subst e1
      refine ⟨(List.range len).map q, ⟨_, cap, by simp, .inr ⟨bk, off, rfl, e2, fun k y hy => ?_⟩⟩, fun f hf => ?_, by simp; omega⟩
      · rw [List.getElem?_map] at hy
        obtain ⟨k', h1, h2⟩ := Option.map_eq_some_iff.1 hy
        obtain ⟨h3, h4⟩ := List.getElem?_eq_some_iff.1 h1
        simp at h3 h4
        subst h4; subst h2
        have hh := (hq k h3).1
        have c0 := hh 0 (by decide)
        have c1 := hh 1 (by decide)
        have c2 := hh 2 (by decide)
        have c3 := hh 3 (by decide)
        rw [Addr.add_lit, Addr.add_lit] at c0 c1 c2 c3
        exact ⟨by simpa [Pr.cells] using c0, by simpa [Pr.cells] using c1, by simpa [Pr.cells] using c2, by simpa [Pr.cells] using c3⟩
      · obtain ⟨i, hi, rfl⟩ := List.mem_map.1 hf
        exact (hq i (List.mem_range.1 hi)).2
set_option maxRecDepth 100000 in
/-- Records that came in. -/
theorem open_recs {W : World} {r : Reach} {b0 b : Nat} {sp : Nat → Bool} {hd : Bool} {v : Value} {d : DataW H} {p : List MemPlace} (hv : Value.okWide Try.prog W r b0 22 v) (h0 : DataW.Trod enc Try.prog W b sp hd 22 v d p) :
    ∃ L, IsRs W v L ∧ SzRs L ∧ L.length ≤ maxLen := by
  obtain ⟨a0, l0, c0, rfl⟩ := okWide_slice Try.underlying22 hv
  obtain ⟨fuel, hf⟩ := h0
  have h : DataW.trod enc Try.prog W b sp hd fuel 22 [.slice a0 l0 c0] = some (d, p) := by simpa [Value.cells] using hf
  rcases open_slice Try.underlying22 h with ⟨hc, _⟩ | ⟨a, len, cap, m, n, D, Pl, hc, hb, hl, hm, hmm, _, hall⟩
  · simp only [List.cons.injEq, and_true] at hc
    exact ⟨[], ⟨none, 0, hc, .inl rfl⟩, fun f hf => by simp at hf, by decide⟩
  · simp only [List.cons.injEq, and_true] at hc
    rw [hc]
    clear hc
    have hlm : len ≤ m := by rw [hmm]; split <;> omega
    by_cases h0 : len = 0
    · subst h0
      exact ⟨[], ⟨some a, cap, rfl, .inl rfl⟩, fun f hf => by simp at hf, by decide⟩
    · have each : ∀ i, i < len → ∃ f : Rv, W.cell? (a.add (i * 1)) = some f.rv ∧ IsR W f.rv f.rc ∧ Sz f.rc ∧ f.rc.length ≤ maxLen := by
        intro i hi
        obtain ⟨cs', h1, h2⟩ := hall i (by omega)
        rw [co28] at h1
        obtain ⟨_, hlen, hcell⟩ := World.cells?_some h1
        match cs', hlen with
        | [v0], _ =>
          obtain ⟨l, hR, hZ, hl'⟩ := open_props h2
          have c0 := hcell 0 (by omega)
          rw [addz] at c0
          exact ⟨⟨v0, l⟩, by simpa using c0, hR, hZ, hl'⟩
      haveI : Inhabited Rv := ⟨⟨.nilIface, []⟩⟩
      obtain ⟨q, hq⟩ := choose_lt each
      have hsp : a.spot = none ∧ a.block < W.heap.size := by
        have c0 := (hq 0 (by omega)).1
        rw [Nat.zero_mul, addz] at c0
        exact cell_plain c0
      obtain ⟨bk, off, spot⟩ := a
      obtain ⟨e1, e2⟩ := hsp
      simp only at e1 e2
      subst e1
      refine ⟨(List.range len).map q, ⟨_, cap, by simp, .inr ⟨bk, off, rfl, e2, fun k y hy => ?_⟩⟩, fun f hf => ?_, by simp; omega⟩
      · rw [List.getElem?_map] at hy
        obtain ⟨k', h1, h2⟩ := Option.map_eq_some_iff.1 hy
        obtain ⟨h3, h4⟩ := List.getElem?_eq_some_iff.1 h1
        simp at h3 h4
        subst h4; subst h2
        have c0 := (hq k h3).1
        rw [Addr.add_lit, Nat.mul_one] at c0
        exact ⟨c0, (hq k h3).2.1⟩
      · obtain ⟨i, hi, rfl⟩ := List.mem_map.1 hf
        exact (hq i (List.mem_range.1 hi)).2.2
end
end Go.Proofs.Ytodddcacngjadaa
