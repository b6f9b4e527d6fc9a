/-
  A path as a parameter.
-/
import Derived.Test.YtifcpjimhhpcpaaGreatDoorM36
import Derived.Test.YtifcpjimhhpcpaaGreatDoorM26
import Derived.ProofKit
import Derived.LaidMore
import Derived.OpenShut
import Derived.ShutString
import Derived.ChangeMaps5
import Derived.Stop.Joined
import Derived.Stop.LaidErr
import Derived.Lib.SmallJoins
import Derived.Carry
import Derived.SizedLaws
import Derived.MakeChecks
import Derived.Deep.Slices
import Derived.Deep.Strs
namespace Go.Proofs.YtifcpjimhhpcpaaGreatDoor
open Go.ChangeShapes Go.WideShapes Go.ChangeAt Go.RowKit Go.Joins Go.Deep
open Go.ChangeMaps (open_string shut_string)
set_option linter.unusedVariables false
set_option linter.unusedSimpArgs false

theorem cells56P : Tryz.prog.cellsOf 56 = 5 := by kernel_rfl
theorem cells46P : Tryz.prog.cellsOf 46 = 4 := by kernel_rfl
theorem cells44P : Tryz.prog.cellsOf 44 = 1 := by kernel_rfl
/-- The five cells of a test. -/
def Tst.cells (x : Tst) : List Value := [.string x.nm, .int .i64 x.hw, .int .i64 x.t, .int .i64 x.n, .string x.s]

section
variable {H : Type} {enc : TypeId × Value → H}
set_option maxRecDepth 100000 in
/-- Five cells that read as a test. -/
theorem cells_test {W : World} {b : Nat} {sp : Nat → Bool} {hd : Bool} {n : Nat} {cs : List Value} {x : DataW H × List MemPlace} (hlen : cs.length = 5) (h : DataW.trod enc Tryz.prog W b sp hd n 56 cs = some x) :
    ∃ q : Tst, cs = q.cells ∧ TsSz q := by
  obtain ⟨y0, y1, y2, k, hxy, _, u0, u1, u2⟩ := trod_struct3 Tryz.underlying56 h
  match cs, hlen with
  | [v0, v1, v2, v3, v4], _ =>
    simp only [cells9C, cells3C, cells54G, List.drop, List.take] at u0 u1 u2
    obtain ⟨s0, e0, d0, z0⟩ := DataW.trod_string Tryz.underlying9 u0
    obtain ⟨q1, e1, d1, _⟩ := DataW.trod_int Tryz.underlying3 u1
    obtain ⟨w0, w1, w2, k2, hw, _, t0, t1, t2⟩ := trod_struct3 Tryz.underlying54 u2
    simp only [cells9C, cells3C, List.drop, List.take] at t0 t1 t2
    obtain ⟨q2, e2, d2, _⟩ := DataW.trod_int Tryz.underlying3 t0
    obtain ⟨q3, e3, d3, _⟩ := DataW.trod_int Tryz.underlying3 t1
    obtain ⟨s4, e4, d4, z4⟩ := DataW.trod_string Tryz.underlying9 t2
    simp only [List.cons.injEq, and_true] at e0 e1 e2 e3 e4
    subst e0; subst e1; subst e2; subst e3; subst e4
    exact ⟨⟨s0, q1, q2, q3, s4⟩, rfl, z0, z4⟩
/-- Tests within. -/
theorem open_tests {W : World} {b : Nat} {sp : Nat → Bool} {hd : Bool} {n : Nat} {v : Value} {x : DataW H × List MemPlace} (h : DataW.trod enc Tryz.prog W b sp hd n 44 [v] = some x) : ∃ l, IsTs W v l ∧ l.length ≤ maxLen ∧ ∀ t ∈ l, TsSz t := by
  rcases open_slice Tryz.underlying44 h with ⟨hc, _⟩ | ⟨a, len, cap, m, n, D, Pl, hc, hb, hl, hm, hmm, _, hall⟩
  · simp only [List.cons.injEq, and_true] at hc
    exact ⟨[], ⟨none, 0, hc, .inl rfl⟩, by decide, fun f hf => by simp at hf⟩
  · simp only [List.cons.injEq, and_true] at hc
    subst hc
    have hlm : len ≤ m := by rw [hmm]; split <;> omega
    by_cases h0 : len = 0
    · subst h0
      exact ⟨[], ⟨some a, cap, rfl, .inl rfl⟩, by decide, fun f hf => by simp at hf⟩
    · have each : ∀ i, i < len → ∃ f : Tst, (∀ j, j < 5 → W.cell? ((a.add (i * 5)).add j) = f.cells[j]?) ∧ TsSz f := by
        intro i hi
        obtain ⟨cs', h1, h2⟩ := hall i (by omega)
        rw [cells56P] at h1
        obtain ⟨_, hlen, hcell⟩ := World.cells?_some h1
        obtain ⟨f, rfl, z⟩ := cells_test hlen h2
        exact ⟨f, hcell, z⟩
      haveI : Inhabited Tst := ⟨⟨⟨#[]⟩, 0, 0, 0, ⟨#[]⟩⟩⟩
      obtain ⟨q, hq⟩ := choose_lt each
      have hsp : a.spot = none ∧ a.block < W.heap.size := by
        have c0 := (hq 0 (by omega)).1 0 (by decide)
        rw [addzC, Nat.zero_mul, addzC] at c0
        exact cell_plainC (c0.trans rfl)
      obtain ⟨bk, off, spot⟩ := a
      obtain ⟨e1, e2⟩ := hsp
      simp only at e1 e2
      subst e1
      refine ⟨(List.range len).map q, ⟨_, cap, by simp, .inr ⟨bk, off, rfl, e2, fun k y hy => ?_⟩⟩, by simp; omega, fun f hf => ?_⟩
      · rw [List.getElem?_map] at hy
        obtain ⟨k', h1, h2⟩ := Option.map_eq_some_iff.1 hy
        obtain ⟨h3, h4⟩ := List.getElem?_eq_some_iff.1 h1
        simp at h3 h4
        subst h4; subst h2
        have hh := (hq k h3).1
        have c0 := hh 0 (by decide)
        have c1 := hh 1 (by decide)
        have c2 := hh 2 (by decide)
        have c3 := hh 3 (by decide)
        have c4 := hh 4 (by decide)
        rw [Addr.add_lit, Addr.add_lit] at c0 c1 c2 c3 c4
        exact ⟨by simpa [Tst.cells] using c0, by simpa [Tst.cells] using c1, by simpa [Tst.cells] using c2, by simpa [Tst.cells] using c3, by simpa [Tst.cells] using c4⟩
      · obtain ⟨i, hi, rfl⟩ := List.mem_map.1 hf
        exact (hq i (List.mem_range.1 hi)).2
set_option maxRecDepth 100000 in
/-- A path that came in. -/
theorem open_path {W : World} {r : Reach} {b0 b : Nat} {sp : Nat → Bool} {hd : Bool} {v : Value} {d : DataW H} {p : List MemPlace} (hv : Value.okWide Tryz.prog W r b0 30 v) (h0 : DataW.Trod enc Tryz.prog W b sp hd 30 v d p) :
    ∃ L, IsSp W v L ∧ ∀ p ∈ L, SpSz p := by
  obtain ⟨a0, l0, c0, rfl⟩ := okWide_slice Tryz.underlying30 hv
  obtain ⟨fuel, hf⟩ := h0
  have h : DataW.trod enc Tryz.prog W b sp hd fuel 30 [.slice a0 l0 c0] = some (d, p) := by simpa [Value.cells] using hf
  rcases open_slice Tryz.underlying30 h with ⟨hc, _⟩ | ⟨a, len, cap, m, n, D, Pl, hc, hb, hl, hm, hmm, _, hall⟩
  · simp only [List.cons.injEq, and_true] at hc
    exact ⟨[], ⟨none, 0, hc, Nat.le_refl _, by decide, .inl rfl⟩, fun f hf => by simp at hf⟩
  · simp only [List.cons.injEq, and_true] at hc
    rw [hc]
    clear hc
    have hlm : len ≤ m := by rw [hmm]; split <;> omega
    by_cases h0 : len = 0
    · subst h0
      exact ⟨[], ⟨some a, cap, rfl, Nat.zero_le _, hm, .inl rfl⟩, fun f hf => by simp at hf⟩
    · have each : ∀ i, i < len → ∃ f : Sp, (W.cell? ((a.add (i * 4)).add 0) = some (.string (bs f.bd)) ∧ W.cell? ((a.add (i * 4)).add 1) = some (.bool f.back) ∧ W.cell? ((a.add (i * 4)).add 2) = some (.string (bs f.kd)) ∧ W.cell? ((a.add (i * 4)).add 3) = some f.vt ∧ IsTs W f.vt f.ts) ∧ SpSz f := by
        intro i hi
        obtain ⟨cs', h1, h2⟩ := hall i (by omega)
        rw [cells46P] at h1
        obtain ⟨_, hlen, hcell⟩ := World.cells?_some h1
        obtain ⟨y0, y1, y2, y3, k, hxy, _, u0, u1, u2, u3⟩ := trod_struct4 Tryz.underlying46 h2
        match cs', hlen with
        | [v0, v1, v2, v3], _ =>
          simp only [cells9C, cells4, cells44P, List.drop, List.take] at u0 u1 u2 u3
          obtain ⟨s0, e0, d0, z0⟩ := DataW.trod_string Tryz.underlying9 u0
          obtain ⟨b1, e1, _⟩ := DataW.trod_bool Tryz.underlying4 u1
          obtain ⟨s2, e2, d2, z2⟩ := DataW.trod_string Tryz.underlying9 u2
          obtain ⟨ts, hT, lT, zT⟩ := open_tests u3
          simp only [List.cons.injEq, and_true] at e0 e1 e2
          subst e0; subst e1; subst e2
          have c0 := hcell 0 (by omega)
          have c1 := hcell 1 (by omega)
          have c2 := hcell 2 (by omega)
          have c3 := hcell 3 (by omega)
          refine ⟨⟨s0.toList, b1, s2.toList, v3, ts⟩, ⟨?_, by simpa using c1, ?_, by simpa using c3, hT⟩, lT, zT⟩
          · show _ = some (Value.string (bs s0.toList))
            rw [bs_self]; simpa using c0
          · show _ = some (Value.string (bs s2.toList))
            rw [bs_self]; simpa using c2
      haveI : Inhabited Sp := ⟨⟨[], false, [], .nilIface, []⟩⟩
      obtain ⟨q, hq⟩ := choose_lt each
      have hsp : a.spot = none ∧ a.block < W.heap.size := by
        have c0 := (hq 0 (by omega)).1.1
        rw [addzC, Nat.zero_mul, addzC] at c0
        exact cell_plainC c0
      obtain ⟨bk, off, spot⟩ := a
      obtain ⟨e1, e2⟩ := hsp
      simp only at e1 e2
      subst e1
      refine ⟨(List.range len).map q, ⟨_, cap, by simp, by simpa using hl, hm, .inr ⟨bk, off, rfl, e2, fun k y hy => ?_⟩⟩, fun f hf => ?_⟩
      · rw [List.getElem?_map] at hy
        obtain ⟨k', h1, h2⟩ := Option.map_eq_some_iff.1 hy
        obtain ⟨h3, h4⟩ := List.getElem?_eq_some_iff.1 h1
        simp at h3 h4
        subst h4; subst h2
        obtain ⟨⟨c0, c1, c2, c3, hT⟩, _⟩ := hq k h3
        rw [Addr.add_lit, Addr.add_lit] at c0 c1 c2 c3
        exact ⟨⟨c0, c1, c2, c3⟩, hT⟩
      · obtain ⟨i, hi, rfl⟩ := List.mem_map.1 hf
        exact (hq i (List.mem_range.1 hi)).2
end
end Go.Proofs.YtifcpjimhhpcpaaGreatDoor
