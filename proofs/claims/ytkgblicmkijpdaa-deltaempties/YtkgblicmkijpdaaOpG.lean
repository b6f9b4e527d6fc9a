/-
  A graph as a parameter.
-/
import Derived.Test.YtkgblicmkijpdaaRows
import Derived.Test.YtkgblicmkijpdaaDelM
import Derived.ProofKit
import Derived.LaidMore
import Derived.OpenShut
import Derived.ShutString
import Derived.ChangeMaps5
import Derived.Stop.Joined
import Derived.Stop.LaidErr
import Derived.Lib.SmallJoins
import Derived.Carry
import Derived.SizedLaws
import Derived.MakeChecks
import Derived.Deep.Slices
import Derived.Deep.Strs
namespace Go.Proofs.Ytkgblicmkijpdaa
open Go.ChangeShapes Go.WideShapes Go.ChangeAt Go.RowKit Go.Joins Go.Deep
open Go.ChangeMaps (open_string shut_string)
set_option linter.unusedVariables false
set_option linter.unusedSimpArgs false

theorem own : ownKnob Try.prog.godebug = none := by kernel_rfl
theorem laidOut : laidOutB Try.prog = true := by kernel_rfl
theorem cells56 : Try.prog.cellsOf 38 = 4 := by kernel_rfl
theorem cells54 : Try.prog.cellsOf 36 = 3 := by kernel_rfl
theorem cells9 : Try.prog.cellsOf 9 = 1 := by kernel_rfl
theorem cells3 : Try.prog.cellsOf 3 = 1 := by kernel_rfl
theorem cells27 : Try.prog.cellsOf 28 = 1 := by kernel_rfl
theorem cells29 : Try.prog.cellsOf 30 = 3 := by kernel_rfl
theorem cells31 : Try.prog.cellsOf 40 = 3 := by kernel_rfl
theorem cells22 : Try.prog.cellsOf 22 = 1 := by kernel_rfl
theorem cells23 : Try.prog.cellsOf 23 = 1 := by kernel_rfl
theorem cells25 : Try.prog.cellsOf 25 = 2 := by kernel_rfl
theorem types25 : Try.prog.cellTypes Try.prog.depth 25 = some [22, 23] := by kernel_rfl
/-- A cell that is there has no spot, and its block is there. -/
theorem cell_plain {W : World} {a : Addr} {u : Value} (h : W.cell? a = some u) : a.spot = none ∧ a.block < W.heap.size := by
  refine ⟨?_, World.block_lt_of_cell? W _ h⟩
  obtain ⟨bk, off, spot⟩ := a
  cases spot with
  | none => rfl
  | some sp =>
    exfalso
    unfold World.cell? at h
    split at h
    · simp at h
    · cases h
theorem addz (a : Addr) : a.add 0 = a := by simp [Addr.add]

section
variable {H : Type} {enc : TypeId × Value → H}
set_option maxRecDepth 100000 in
/-- Four cells that read as a property. -/
theorem cells_prop {W : World} {b : Nat} {sp : Nat → Bool} {hd : Bool} {n : Nat} {cs : List Value} {x : DataW H × List MemPlace} (hlen : cs.length = 4) (h : DataW.trod enc Try.prog W b sp hd n 38 cs = some x) :
    ∃ q : Pr, cs = q.cells ∧ q.nm.size ≤ maxLen ∧ q.s.size ≤ maxLen := by
  obtain ⟨y0, y1, k, hxy, _, u0, u1⟩ := trod_struct2 Try.underlying38 h
  match cs, hlen with
  | [v0, v1, v2, v3], _ =>
    simp only [cells9, cells54, List.drop, List.take] at u0 u1
    obtain ⟨s0, e0, d0, z0⟩ := DataW.trod_string Try.underlying9 u0
    obtain ⟨w0, w1, w2, k2, hw, _, t0, t1, t2⟩ := trod_struct3 Try.underlying36 u1
    simp only [cells9, cells3, List.drop, List.take] at t0 t1 t2
    obtain ⟨q1, e1, d1, _⟩ := DataW.trod_int Try.underlying3 t0
    obtain ⟨q2, e2, d2, _⟩ := DataW.trod_int Try.underlying3 t1
    obtain ⟨s3, e3, d3, z3⟩ := DataW.trod_string Try.underlying9 t2
    simp only [List.cons.injEq, and_true] at e0 e1 e2 e3
    subst e0; subst e1; subst e2; subst e3
    exact ⟨⟨s0, q1, q2, s3⟩, rfl, z0, z3⟩
/-- A record within. -/
theorem open_props {W : World} {b : Nat} {sp : Nat → Bool} {hd : Bool} {n : Nat} {v : Value} {x : DataW H × List MemPlace} (h : DataW.trod enc Try.prog W b sp hd n 28 [v] = some x) : ∃ l, IsR W v l ∧ Sz l ∧ l.length ≤ maxLen := by
  rcases open_slice Try.underlying28 h with ⟨hc, _⟩ | ⟨a, len, cap, m, n, D, Pl, hc, hb, hl, hm, hmm, _, hall⟩
  · simp only [List.cons.injEq, and_true] at hc
    exact ⟨[], ⟨none, 0, hc, .inl rfl⟩, fun f hf => by simp at hf, by decide⟩
  · simp only [List.cons.injEq, and_true] at hc
    subst hc
    have hlm : len ≤ m := by rw [hmm]; split <;> omega
    by_cases h0 : len = 0
    · subst h0
      exact ⟨[], ⟨some a, cap, rfl, .inl rfl⟩, fun f hf => by simp at hf, by decide⟩
    · have each : ∀ i, i < len → ∃ f : Pr, (∀ j, j < 4 → W.cell? ((a.add (i * 4)).add j) = f.cells[j]?) ∧ f.nm.size ≤ maxLen ∧ f.s.size ≤ maxLen := by
        intro i hi
        obtain ⟨cs', h1, h2⟩ := hall i (by omega)
        rw [cells56] at h1
        obtain ⟨_, hlen, hcell⟩ := World.cells?_some h1
        obtain ⟨f, rfl, z⟩ := cells_prop hlen h2
        exact ⟨f, hcell, z⟩
      haveI : Inhabited Pr := ⟨⟨⟨#[]⟩, 0, 0, ⟨#[]⟩⟩⟩
      obtain ⟨q, hq⟩ := choose_lt each
      have hsp : a.spot = none ∧ a.block < W.heap.size := by
        have c0 := (hq 0 (by omega)).1 0 (by decide)
        rw [addz, Nat.zero_mul, addz] at c0
        exact cell_plain (c0.trans rfl)
      obtain ⟨bk, off, spot⟩ := a
      obtain ⟨e1, e2⟩ := hsp
      simp only at e1 e2
      subst e1
      refine ⟨(List.range len).map q, ⟨_, cap, by simp, .inr ⟨bk, off, rfl, e2, fun k y hy => ?_⟩⟩, fun f hf => ?_, by simp; omega⟩
      · rw [List.getElem?_map] at hy
        obtain ⟨k', h1, h2⟩ := Option.map_eq_some_iff.1 hy
        obtain ⟨h3, h4⟩ := List.getElem?_eq_some_iff.1 h1
        simp at h3 h4
        subst h4; subst h2
        have hh := (hq k h3).1
        have c0 := hh 0 (by decide)
        have c1 := hh 1 (by decide)
        have c2 := hh 2 (by decide)
        have c3 := hh 3 (by decide)
        rw [Addr.add_lit, Addr.add_lit] at c0 c1 c2 c3
        exact ⟨by simpa [Pr.cells] using c0, by simpa [Pr.cells] using c1, by simpa [Pr.cells] using c2, by simpa [Pr.cells] using c3⟩
      · obtain ⟨i, hi, rfl⟩ := List.mem_map.1 hf
        exact (hq i (List.mem_range.1 hi)).2
set_option maxRecDepth 100000 in
/-- Nodes within. -/
theorem open_nodes {W : World} {b : Nat} {sp : Nat → Bool} {hd : Bool} {n : Nat} {v : Value} {x : DataW H × List MemPlace} (h : DataW.trod enc Try.prog W b sp hd n 22 [v] = some x) : ∃ N, IsN W v N ∧ SzN N ∧ N.length ≤ maxLen := by
  rcases open_slice Try.underlying22 h with ⟨hc, _⟩ | ⟨a, len, cap, m, n, D, Pl, hc, hb, hl, hm, hmm, _, hall⟩
  · simp only [List.cons.injEq, and_true] at hc
    exact ⟨[], ⟨none, 0, hc, Nat.le_refl _, .inl rfl⟩, fun f hf => by simp at hf, by decide⟩
  · simp only [List.cons.injEq, and_true] at hc
    subst hc
    have hlm : len ≤ m := by rw [hmm]; split <;> omega
    by_cases h0 : len = 0
    · subst h0
      exact ⟨[], ⟨some a, cap, rfl, Nat.zero_le _, .inl rfl⟩, fun f hf => by simp at hf, by decide⟩
    · have each : ∀ i, i < len → ∃ f : Nd, (W.cell? ((a.add (i * 3)).add 0) = some (.int .i64 f.id) ∧ W.cell? ((a.add (i * 3)).add 1) = some (.string f.kd) ∧ W.cell? ((a.add (i * 3)).add 2) = some f.rv ∧ IsR W f.rv f.rc) ∧ f.kd.size ≤ maxLen ∧ Sz f.rc ∧ f.rc.length ≤ maxLen := by
        intro i hi
        obtain ⟨cs', h1, h2⟩ := hall i (by omega)
        rw [cells29] at h1
        obtain ⟨_, hlen, hcell⟩ := World.cells?_some h1
        obtain ⟨y0, y1, y2, k, hxy, _, u0, u1, u2⟩ := trod_struct3 Try.underlying30 h2
        match cs', hlen with
        | [v0, v1, v2], _ =>
          simp only [cells9, cells3, cells27, List.drop, List.take] at u0 u1 u2
          obtain ⟨q0, e0, d0, _⟩ := DataW.trod_int Try.underlying3 u0
          obtain ⟨s1, e1, d1, z1⟩ := DataW.trod_string Try.underlying9 u1
          simp only [List.cons.injEq, and_true] at e0 e1
          subst e0; subst e1
          obtain ⟨l, hR, hZ, hl'⟩ := open_props u2
          have c0 := hcell 0 (by omega)
          have c1 := hcell 1 (by omega)
          have c2 := hcell 2 (by omega)
          exact ⟨⟨q0, s1, v2, l⟩, ⟨by simpa using c0, by simpa using c1, by simpa using c2, hR⟩, z1, hZ, hl'⟩
      haveI : Inhabited Nd := ⟨⟨0, ⟨#[]⟩, .nilIface, []⟩⟩
      obtain ⟨q, hq⟩ := choose_lt each
      have hsp : a.spot = none ∧ a.block < W.heap.size := by
        have c0 := (hq 0 (by omega)).1.1
        rw [addz, Nat.zero_mul, addz] at c0
        exact cell_plain c0
      obtain ⟨bk, off, spot⟩ := a
      obtain ⟨e1, e2⟩ := hsp
      simp only at e1 e2
      subst e1
      refine ⟨(List.range len).map q, ⟨_, cap, by simp, by simpa using hl, .inr ⟨bk, off, rfl, e2, fun k y hy => ?_⟩⟩, fun f hf => ?_, by simp; omega⟩
      · rw [List.getElem?_map] at hy
        obtain ⟨k', h1, h2⟩ := Option.map_eq_some_iff.1 hy
        obtain ⟨h3, h4⟩ := List.getElem?_eq_some_iff.1 h1
        simp at h3 h4
        subst h4; subst h2
        obtain ⟨c0, c1, c2, c3⟩ := (hq k h3).1
        rw [Addr.add_lit, Addr.add_lit] at c0 c1 c2
        exact ⟨c0, c1, c2, c3⟩
      · obtain ⟨i, hi, rfl⟩ := List.mem_map.1 hf
        exact (hq i (List.mem_range.1 hi)).2
set_option maxRecDepth 100000 in
/-- Ties within. -/
theorem open_ties {W : World} {b : Nat} {sp : Nat → Bool} {hd : Bool} {n : Nat} {v : Value} {x : DataW H × List MemPlace} (h : DataW.trod enc Try.prog W b sp hd n 23 [v] = some x) : ∃ T, IsT W v T ∧ SzT T ∧ T.length ≤ maxLen := by
  rcases open_slice Try.underlying23 h with ⟨hc, _⟩ | ⟨a, len, cap, m, n, D, Pl, hc, hb, hl, hm, hmm, _, hall⟩
  · simp only [List.cons.injEq, and_true] at hc
    exact ⟨[], ⟨none, 0, hc, Nat.le_refl _, .inl rfl⟩, fun f hf => by simp at hf, by decide⟩
  · simp only [List.cons.injEq, and_true] at hc
    subst hc
    have hlm : len ≤ m := by rw [hmm]; split <;> omega
    by_cases h0 : len = 0
    · subst h0
      exact ⟨[], ⟨some a, cap, rfl, Nat.zero_le _, .inl rfl⟩, fun f hf => by simp at hf, by decide⟩
    · have each : ∀ i, i < len → ∃ f : Te, (W.cell? ((a.add (i * 3)).add 0) = some (.string f.bd) ∧ W.cell? ((a.add (i * 3)).add 1) = some (.int .i64 f.fr) ∧ W.cell? ((a.add (i * 3)).add 2) = some (.int .i64 f.tt)) ∧ f.bd.size ≤ maxLen := by
        intro i hi
        obtain ⟨cs', h1, h2⟩ := hall i (by omega)
        rw [cells31] at h1
        obtain ⟨_, hlen, hcell⟩ := World.cells?_some h1
        obtain ⟨y0, y1, y2, k, hxy, _, u0, u1, u2⟩ := trod_struct3 Try.underlying40 h2
        match cs', hlen with
        | [v0, v1, v2], _ =>
          simp only [cells9, cells3, List.drop, List.take] at u0 u1 u2
          obtain ⟨s0, e0, d0, z0⟩ := DataW.trod_string Try.underlying9 u0
          obtain ⟨q1, e1, d1, _⟩ := DataW.trod_int Try.underlying3 u1
          obtain ⟨q2, e2, d2, _⟩ := DataW.trod_int Try.underlying3 u2
          simp only [List.cons.injEq, and_true] at e0 e1 e2
          subst e0; subst e1; subst e2
          have c0 := hcell 0 (by omega)
          have c1 := hcell 1 (by omega)
          have c2 := hcell 2 (by omega)
          exact ⟨⟨s0, q1, q2⟩, ⟨by simpa using c0, by simpa using c1, by simpa using c2⟩, z0⟩
      haveI : Inhabited Te := ⟨⟨⟨#[]⟩, 0, 0⟩⟩
      obtain ⟨q, hq⟩ := choose_lt each
      have hsp : a.spot = none ∧ a.block < W.heap.size := by
        have c0 := (hq 0 (by omega)).1.1
        rw [addz, Nat.zero_mul, addz] at c0
        exact cell_plain c0
      obtain ⟨bk, off, spot⟩ := a
      obtain ⟨e1, e2⟩ := hsp
      simp only at e1 e2
      subst e1
      refine ⟨(List.range len).map q, ⟨_, cap, by simp, by simpa using hl, .inr ⟨bk, off, rfl, e2, fun k y hy => ?_⟩⟩, fun f hf => ?_, by simp; omega⟩
      · rw [List.getElem?_map] at hy
        obtain ⟨k', h1, h2⟩ := Option.map_eq_some_iff.1 hy
        obtain ⟨h3, h4⟩ := List.getElem?_eq_some_iff.1 h1
        simp at h3 h4
        subst h4; subst h2
        obtain ⟨c0, c1, c2⟩ := (hq k h3).1
        rw [Addr.add_lit, Addr.add_lit] at c0 c1 c2
        exact ⟨c0, c1, c2⟩
      · obtain ⟨i, hi, rfl⟩ := List.mem_map.1 hf
        exact (hq i (List.mem_range.1 hi)).2
set_option maxRecDepth 100000 in
/-- A graph that came in. -/
theorem open_graph {W : World} {r : Reach} {b0 b : Nat} {sp : Nat → Bool} {hd : Bool} {v : Value} {d : DataW H} {p : List MemPlace} (hv : Value.okWide Try.prog W r b0 25 v) (h : DataW.Trod enc Try.prog W b sp hd 25 v d p) :
    ∃ vn vt N T, v = .agg #[vn, vt] ∧ IsN W vn N ∧ IsT W vt T ∧ SzN N ∧ SzT T ∧ N.length ≤ maxLen ∧ T.length ≤ maxLen := by
  simp only [Value.okWide, Try.underlying25] at hv
  obtain ⟨cs, rfl, hcs, ts, hts, _, hrow⟩ := hv
  rw [cells25] at hcs
  obtain rfl := Option.some.inj (types25.symm.trans hts)
  obtain ⟨l⟩ := cs
  match l, hcs with
  | [vk, vb], _ =>
    obtain ⟨t0, e0, w0⟩ := hrow 0 vk rfl
    obtain ⟨t1, e1, w1⟩ := hrow 1 vb rfl
    obtain rfl : 22 = t0 := by simpa using e0
    obtain rfl : 23 = t1 := by simpa using e1
    have o0 : Value.okWide Try.prog W r b0 22 vk := by simp only [Value.okWide, Try.underlying22]; exact w0
    have o1 : Value.okWide Try.prog W r b0 23 vb := by simp only [Value.okWide, Try.underlying23]; exact w1
    obtain ⟨a0, l0, c0, rfl⟩ := okWide_slice Try.underlying22 o0
    obtain ⟨a1, l1, c1, rfl⟩ := okWide_slice Try.underlying23 o1
    obtain ⟨fuel, hf⟩ := h
    have hf' : DataW.trod enc Try.prog W b sp hd fuel 25 [.slice a0 l0 c0, .slice a1 l1 c1] = some (d, p) := by simpa [Value.cells] using hf
    obtain ⟨y0, y1, k, _, _, u0, u1⟩ := trod_struct2 Try.underlying25 hf'
    simp only [cells22, cells23, List.drop, List.take] at u0 u1
    obtain ⟨N, h1, h2, h3⟩ := open_nodes u0
    obtain ⟨T, h4, h5, h6⟩ := open_ties u1
    exact ⟨_, _, N, T, rfl, h1, h4, h2, h5, h3, h6⟩
end
end Go.Proofs.Ytkgblicmkijpdaa
