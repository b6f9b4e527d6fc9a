/-
  A schema as a parameter; the table of words out of what the row lays.
-/
import Derived.Test.YtgjlonilbhlneaaDoorRows
import Derived.Test.YtgjlonilbhlneaaDoorLawW
import Derived.Lib.LaidTab
import Derived.ProofKit
import Derived.LaidMore
import Derived.OpenShut
import Derived.ShutString
import Derived.ChangeMaps5
import Derived.Stop.Joined
import Derived.Stop.LaidErr
import Derived.Lib.SmallJoins
import Derived.Carry
import Derived.SizedLaws
import Derived.MakeChecks
import Derived.Deep.Slices
import Derived.Deep.Strs
namespace Go.Proofs.YtgjlonilbhlneaaDoor
open Go.ChangeShapes Go.WideShapes Go.ChangeAt Go.RowKit Go.Joins Go.Deep
open Go.ChangeMaps (open_string shut_string)
set_option linter.unusedVariables false
set_option linter.unusedSimpArgs false

theorem own : ownKnob Tryd.prog.godebug = none := by kernel_rfl
theorem laidOut : laidOutB Tryd.prog = true := by kernel_rfl
theorem cells28 : Tryd.prog.cellsOf 33 = 3 := by kernel_rfl
theorem cells26 : Tryd.prog.cellsOf 30 = 1 := by kernel_rfl
theorem cells25 : Tryd.prog.cellsOf 31 = 1 := by kernel_rfl
theorem cells24 : Tryd.prog.cellsOf 52 = 4 := by kernel_rfl
theorem cells9 : Tryd.prog.cellsOf 9 = 1 := by kernel_rfl
theorem cells3 : Tryd.prog.cellsOf 3 = 1 := by kernel_rfl
theorem cells4 : Tryd.prog.cellsOf 4 = 1 := by kernel_rfl

theorem cells44 : Tryd.prog.cellsOf 44 = 5 := by kernel_rfl
theorem cells22 : Tryd.prog.cellsOf 22 = 1 := by kernel_rfl
theorem cells23 : Tryd.prog.cellsOf 23 = 1 := by kernel_rfl
theorem cellsS25 : Tryd.prog.cellsOf 25 = 2 := by kernel_rfl
theorem types25 : Tryd.prog.cellTypes Tryd.prog.depth 25 = some [22, 23] := by kernel_rfl
/-- A cell that is there has no spot, and its block is there. -/
theorem cell_plain {W : World} {a : Addr} {u : Value} (h : W.cell? a = some u) : a.spot = none ∧ a.block < W.heap.size := by
  refine ⟨?_, World.block_lt_of_cell? W _ h⟩
  obtain ⟨bk, off, spot⟩ := a
  cases spot with
  | none => rfl
  | some sp =>
    exfalso
    unfold World.cell? at h
    split at h
    · simp at h
    · cases h
theorem addz (a : Addr) : a.add 0 = a := by simp [Addr.add]

section
variable {H : Type} {enc : TypeId × Value → H}
set_option maxRecDepth 100000 in
/-- Four cells that read as a field. -/
theorem cells_field {W : World} {b : Nat} {sp : Nat → Bool} {hd : Bool} {n : Nat} {cs : List Value} {x : DataW H × List MemPlace} (hlen : cs.length = 4) (h : DataW.trod enc Tryd.prog W b sp hd n 52 cs = some x) :
    ∃ f : Fd, cs = f.cells ∧ f.nm.length ≤ maxLen := by
  obtain ⟨y0, y1, y2, y3, k, hxy, _, u0, u1, u2, u3⟩ := trod_struct4 Tryd.underlying52 h
  match cs, hlen with
  | [v0, v1, v2, v3], _ =>
    simp only [cells9, cells3, cells4, List.drop, List.take] at u0 u1 u2 u3
    obtain ⟨s0, e0, d0, z0⟩ := DataW.trod_string Tryd.underlying9 u0
    obtain ⟨q1, e1, d1, _⟩ := DataW.trod_int Tryd.underlying3 u1
    obtain ⟨b2, e2, _⟩ := DataW.trod_bool Tryd.underlying4 u2
    obtain ⟨b3, e3, _⟩ := DataW.trod_bool Tryd.underlying4 u3
    simp only [List.cons.injEq, and_true] at e0 e1 e2 e3
    subst e0; subst e1; subst e2; subst e3
    refine ⟨⟨s0.toList, q1, b2, b3⟩, ?_, ?_⟩
    · simp [Fd.cells, bs_self]
    · show s0.toList.length ≤ maxLen
      rw [Lib.toList_data, ← size_len]; exact z0
/-- A slice of names within. -/
theorem open_names {W : World} {b : Nat} {sp : Nat → Bool} {hd : Bool} {n : Nat} {v : Value} {x : DataW H × List MemPlace} (h : DataW.trod enc Tryd.prog W b sp hd n 30 [v] = some x) : ∃ l, IsS W v l := by
  rcases open_slice Tryd.underlying30 h with ⟨hc, _⟩ | ⟨a, len, cap, m, n, D, Pl, hc, hb, hl, hm, hmm, _, hall⟩
  · simp only [List.cons.injEq, and_true] at hc
    exact ⟨[], .inl ⟨none, 0, hc, rfl, by decide, fun _ => rfl⟩⟩
  · simp only [List.cons.injEq, and_true] at hc
    subst hc
    have hlm : len ≤ m := by rw [hmm]; split <;> omega
    by_cases h0 : len = 0
    · subst h0
      exact ⟨[], .inl ⟨some a, cap, rfl, rfl, hm, fun e => by cases e⟩⟩
    · have each : ∀ i, i < len → ∃ q : Nm, W.cell? (a.add i) = some (.string (bs q)) := by
        intro i hi
        obtain ⟨cs', h1, h2⟩ := hall i (by omega)
        rw [cells9, Nat.mul_one] at h1
        obtain ⟨_, hlen, hcell⟩ := World.cells?_some h1
        obtain ⟨s, rfl, _⟩ := DataW.trod_string Tryd.underlying9 h2
        have c0 := hcell 0 (by omega)
        refine ⟨s.toList, ?_⟩
        rw [bs_self]
        rw [addz] at c0
        simpa using c0
      obtain ⟨q, hq⟩ := choose_lt each
      have q0 := hq 0 (by omega)
      rw [addz] at q0
      obtain ⟨e1, e2⟩ := cell_plain q0
      obtain ⟨bk, off, spot⟩ := a
      simp only at e1 e2
      subst e1
      refine ⟨(List.range len).map q, .inr ⟨bk, off, cap, by simp, by simpa using hl, hm, e2, fun k y hy => ?_⟩⟩
      rw [List.getElem?_map] at hy
      obtain ⟨k', h1, h2⟩ := Option.map_eq_some_iff.1 hy
      obtain ⟨h3, h4⟩ := List.getElem?_eq_some_iff.1 h1
      simp at h3 h4
      subst h4; subst h2
      have := hq k h3
      rwa [Addr.add_lit] at this
/-- A slice of fields within. -/
theorem open_fields {W : World} {b : Nat} {sp : Nat → Bool} {hd : Bool} {n : Nat} {v : Value} {x : DataW H × List MemPlace} (h : DataW.trod enc Tryd.prog W b sp hd n 31 [v] = some x) : ∃ l, IsF W v l ∧ ∀ f ∈ l, f.nm.length ≤ maxLen := by
  rcases open_slice Tryd.underlying31 h with ⟨hc, _⟩ | ⟨a, len, cap, m, n, D, Pl, hc, hb, hl, hm, hmm, _, hall⟩
  · simp only [List.cons.injEq, and_true] at hc
    exact ⟨[], .inl ⟨none, 0, hc, rfl, by decide, fun _ => rfl⟩, fun f hf => by simp at hf⟩
  · simp only [List.cons.injEq, and_true] at hc
    subst hc
    have hlm : len ≤ m := by rw [hmm]; split <;> omega
    by_cases h0 : len = 0
    · subst h0
      exact ⟨[], .inl ⟨some a, cap, rfl, rfl, hm, fun e => by cases e⟩, fun f hf => by simp at hf⟩
    · have each : ∀ i, i < len → ∃ f : Fd, (∀ j, j < 4 → W.cell? ((a.add (i * 4)).add j) = f.cells[j]?) ∧ f.nm.length ≤ maxLen := by
        intro i hi
        obtain ⟨cs', h1, h2⟩ := hall i (by omega)
        rw [cells24] at h1
        obtain ⟨_, hlen, hcell⟩ := World.cells?_some h1
        obtain ⟨f, rfl, z⟩ := cells_field hlen h2
        exact ⟨f, hcell, z⟩
      haveI : Inhabited Fd := ⟨⟨[], 0, false, false⟩⟩
      obtain ⟨q, hq⟩ := choose_lt each
      have hsp : a.spot = none ∧ a.block < W.heap.size := by
        have c0 := (hq 0 (by omega)).1 0 (by decide)
        rw [addz, Nat.zero_mul, addz] at c0
        exact cell_plain (c0.trans rfl)
      obtain ⟨bk, off, spot⟩ := a
      obtain ⟨e1, e2⟩ := hsp
      simp only at e1 e2
      subst e1
      refine ⟨(List.range len).map q, .inr ⟨bk, off, cap, by simp, by simpa using hl, hm, e2, fun k y hy => ?_⟩, fun f hf => ?_⟩
      · rw [List.getElem?_map] at hy
        obtain ⟨k', h1, h2⟩ := Option.map_eq_some_iff.1 hy
        obtain ⟨h3, h4⟩ := List.getElem?_eq_some_iff.1 h1
        simp at h3 h4
        subst h4; subst h2
        have hh := (hq k h3).1
        have c0 := hh 0 (by decide)
        have c1 := hh 1 (by decide)
        have c2 := hh 2 (by decide)
        have c3 := hh 3 (by decide)
        rw [Addr.add_lit, Addr.add_lit] at c0 c1 c2 c3
        exact ⟨by simpa [Fd.cells] using c0, by simpa [Fd.cells] using c1, by simpa [Fd.cells] using c2, by simpa [Fd.cells] using c3⟩
      · obtain ⟨i, hi, rfl⟩ := List.mem_map.1 hf
        exact (hq i (List.mem_range.1 hi)).2
theorem shape_lt {W : World} {b : Nat} {x : TypeId × Nat} (h : W.shape? b = some x) : b < W.heap.size := by
  rcases Nat.lt_or_ge b W.heap.size with h1 | h1
  · exact h1
  · exfalso
    simp [World.shape?, Array.getElem?_eq_none h1] at h
set_option maxRecDepth 100000 in
/-- Kinds that came in. -/
theorem open_kinds {W : World} {r : Reach} {b0 b : Nat} {sp : Nat → Bool} {hd : Bool} {v : Value} {d : DataW H} {p : List MemPlace} (hv : Value.okWide Tryd.prog W r b0 22 v) (h : DataW.Trod enc Tryd.prog W b sp hd 22 v d p) :
    ∃ L, IsK W v L ∧ Parts W L ∧ SzK L := by
  obtain ⟨a, len, cap, rfl⟩ := okWide_slice Tryd.underlying22 hv
  obtain ⟨fuel, hf⟩ := h
  have hf' : DataW.trod enc Tryd.prog W b sp hd fuel 22 [.slice a len cap] = some (d, p) := by simpa [Value.cells] using hf
  rcases open_slice Tryd.underlying22 hf' with ⟨hc, _⟩ | ⟨a', len', cap', m, n, D, Pl, hc, hb, hl, hm, hmm, _, hall⟩
  · simp only [List.cons.injEq, and_true] at hc
    exact ⟨[], .inl ⟨hc, rfl⟩, fun q hq => by simp at hq, fun q hq => by simp at hq⟩
  · simp only [List.cons.injEq, and_true, Value.slice.injEq] at hc
    obtain ⟨rfl, rfl, rfl⟩ := hc
    have hlm : len ≤ m := by rw [hmm]; split <;> omega
    simp only [Value.okWide, Tryd.underlying22, Cell.okWide, Cell.ok] at hv
    obtain ⟨_, _, _, hsp, row, cells, hsh, _⟩ := hv
    have hlt := shape_lt hsh
    obtain ⟨bk, off, spot⟩ := a'
    simp only at hsp hlt
    subst hsp
    have each : ∀ i, i < len → ∃ q : Kd, (W.cell? ⟨bk, off + i * 3, none⟩ = some (.string (bs q.nm)) ∧ W.cell? ⟨bk, off + i * 3 + 1, none⟩ = some q.vo ∧ W.cell? ⟨bk, off + i * 3 + 2, none⟩ = some q.vf) ∧ (IsS W q.vo q.of ∧ IsF W q.vf q.fs) ∧ (q.nm.length ≤ maxLen ∧ ∀ f ∈ q.fs, f.nm.length ≤ maxLen) := by
      intro i hi
      obtain ⟨cs', h1, h2⟩ := hall i (by omega)
      rw [cells28] at h1
      obtain ⟨_, hlen, hcell⟩ := World.cells?_some h1
      obtain ⟨y0, y1, y2, k, hxy, _, u0, u1, u2⟩ := trod_struct3 Tryd.underlying33 h2
      match cs', hlen with
      | [v0, v1, v2], _ =>
        simp only [cells9, cells26, cells25, List.drop, List.take] at u0 u1 u2
        obtain ⟨s0, e0, d0, z0⟩ := DataW.trod_string Tryd.underlying9 u0
        simp only [List.cons.injEq, and_true] at e0
        subst e0
        obtain ⟨lo1, hS⟩ := open_names u1
        obtain ⟨lf, hF, hZ⟩ := open_fields u2
        have c0 := hcell 0 (by omega)
        have c1 := hcell 1 (by omega)
        have c2 := hcell 2 (by omega)
        rw [Addr.add_lit, Addr.add_lit] at c0 c1 c2
        refine ⟨⟨s0.toList, lo1, lf, v1, v2⟩, ⟨?_, by simpa using c1, by simpa using c2⟩, ⟨hS, hF⟩, ?_, hZ⟩
        · show _ = some (Value.string (bs s0.toList))
          rw [bs_self]; simpa using c0
        · show s0.toList.length ≤ maxLen
          rw [Lib.toList_data, ← size_len]; exact z0
    haveI : Inhabited Kd := ⟨⟨[], [], [], .nilIface, .nilIface⟩⟩
    obtain ⟨q, hq⟩ := choose_lt each
    refine ⟨(List.range len).map q, .inr ⟨bk, off, cap, by simp, by simpa using hl, hm, hlt, fun k x hx => ?_⟩, fun x hx => ?_, fun x hx => ?_⟩
    · rw [List.getElem?_map] at hx
      obtain ⟨k', h1, h2⟩ := Option.map_eq_some_iff.1 hx
      obtain ⟨h3, h4⟩ := List.getElem?_eq_some_iff.1 h1
      simp at h3 h4
      subst h4; subst h2
      exact (hq k h3).1
    · obtain ⟨i, hi, rfl⟩ := List.mem_map.1 hx
      exact (hq i (List.mem_range.1 hi)).2.1
    · obtain ⟨i, hi, rfl⟩ := List.mem_map.1 hx
      exact (hq i (List.mem_range.1 hi)).2.2
/-- Of a struct of five. -/
theorem trod_five {W : World} {b : Nat} {sp : Nat → Bool} {hd : Bool} {t : TypeId} {f0 f1 f2 f3 f4 : Field} {fuel : Nat} {cs : List Value} {x : DataW H × List MemPlace} (ht : Tryd.prog.underlying t = some (.struct #[f0, f1, f2, f3, f4])) (h : DataW.trod enc Tryd.prog W b sp hd fuel t cs = some x) :
    ∃ y0 y1 y2 y3 y4 n, DataW.trod enc Tryd.prog W b sp hd n f0.type ((cs.drop f0.offset).take (Tryd.prog.cellsOf f0.type)) = some y0 ∧ DataW.trod enc Tryd.prog W b sp hd n f1.type ((cs.drop f1.offset).take (Tryd.prog.cellsOf f1.type)) = some y1 ∧ DataW.trod enc Tryd.prog W b sp hd n f2.type ((cs.drop f2.offset).take (Tryd.prog.cellsOf f2.type)) = some y2 ∧ DataW.trod enc Tryd.prog W b sp hd n f3.type ((cs.drop f3.offset).take (Tryd.prog.cellsOf f3.type)) = some y3 ∧ DataW.trod enc Tryd.prog W b sp hd n f4.type ((cs.drop f4.offset).take (Tryd.prog.cellsOf f4.type)) = some y4 := by
  obtain ⟨xs, n, _, _, _, hxl, hf⟩ := DataW.trod_struct ht h
  match xs, hxl with
  | [y0, y1, y2, y3, y4], _ => exact ⟨y0, y1, y2, y3, y4, n, hf 0 f0 rfl, hf 1 f1 rfl, hf 2 f2 rfl, hf 3 f3 rfl, hf 4 f4 rfl⟩
set_option maxRecDepth 100000 in
/-- Bonds that came in. -/
theorem open_bonds {W : World} {r : Reach} {b0 b : Nat} {sp : Nat → Bool} {hd : Bool} {v : Value} {d : DataW H} {p : List MemPlace} (hv : Value.okWide Tryd.prog W r b0 23 v) (h : DataW.Trod enc Tryd.prog W b sp hd 23 v d p) :
    ∃ L, IsB W v L ∧ SzB L := by
  obtain ⟨a, len, cap, rfl⟩ := okWide_slice Tryd.underlying23 hv
  obtain ⟨fuel, hf⟩ := h
  have hf' : DataW.trod enc Tryd.prog W b sp hd fuel 23 [.slice a len cap] = some (d, p) := by simpa [Value.cells] using hf
  rcases open_slice Tryd.underlying23 hf' with ⟨hc, _⟩ | ⟨a', len', cap', m, n, D, Pl, hc, hb, hl, hm, hmm, _, hall⟩
  · simp only [List.cons.injEq, and_true] at hc
    exact ⟨[], .inl ⟨hc, rfl⟩, fun q hq => by simp at hq⟩
  · simp only [List.cons.injEq, and_true, Value.slice.injEq] at hc
    obtain ⟨rfl, rfl, rfl⟩ := hc
    have hlm : len ≤ m := by rw [hmm]; split <;> omega
    simp only [Value.okWide, Tryd.underlying23, Cell.okWide, Cell.ok] at hv
    obtain ⟨_, _, _, hsp, row, cells, hsh, _⟩ := hv
    have hlt := shape_lt hsh
    obtain ⟨bk, off, spot⟩ := a'
    simp only at hsp hlt
    subst hsp
    have each : ∀ i, i < len → ∃ q : Bd, (W.cell? ⟨bk, off + i * 5, none⟩ = some (.string (bs q.nm)) ∧ W.cell? ⟨bk, off + i * 5 + 1, none⟩ = some (.string (bs q.fr)) ∧ W.cell? ⟨bk, off + i * 5 + 2, none⟩ = some (.string (bs q.to)) ∧ W.cell? ⟨bk, off + i * 5 + 3, none⟩ = some (.int .i64 q.mn) ∧ W.cell? ⟨bk, off + i * 5 + 4, none⟩ = some (.int .i64 q.mx)) ∧ q.nm.length ≤ maxLen := by
      intro i hi
      obtain ⟨cs', h1, h2⟩ := hall i (by omega)
      rw [cells44] at h1
      obtain ⟨_, hlen, hcell⟩ := World.cells?_some h1
      obtain ⟨y0, y1, y2, y3, y4, k, u0, u1, u2, u3, u4⟩ := trod_five Tryd.underlying44 h2
      match cs', hlen with
      | [v0, v1, v2, v3, v4], _ =>
        simp only [cells9, cells3, List.drop, List.take] at u0 u1 u2 u3 u4
        obtain ⟨s0, e0, d0, z0⟩ := DataW.trod_string Tryd.underlying9 u0
        obtain ⟨s1, e1, d1, z1⟩ := DataW.trod_string Tryd.underlying9 u1
        obtain ⟨s2, e2, d2, z2⟩ := DataW.trod_string Tryd.underlying9 u2
        obtain ⟨q3, e3, d3, _⟩ := DataW.trod_int Tryd.underlying3 u3
        obtain ⟨q4, e4, d4, _⟩ := DataW.trod_int Tryd.underlying3 u4
        simp only [List.cons.injEq, and_true] at e0 e1 e2 e3 e4
        subst e0; subst e1; subst e2; subst e3; subst e4
        have c0 := hcell 0 (by omega)
        have c1 := hcell 1 (by omega)
        have c2 := hcell 2 (by omega)
        have c3 := hcell 3 (by omega)
        have c4 := hcell 4 (by omega)
        rw [Addr.add_lit, Addr.add_lit] at c0 c1 c2 c3 c4
        refine ⟨⟨s0.toList, s1.toList, s2.toList, q3, q4⟩, ⟨?_, ?_, ?_, by simpa using c3, by simpa using c4⟩, ?_⟩
        · show _ = some (Value.string (bs s0.toList))
          rw [bs_self]; simpa using c0
        · show _ = some (Value.string (bs s1.toList))
          rw [bs_self]; simpa using c1
        · show _ = some (Value.string (bs s2.toList))
          rw [bs_self]; simpa using c2
        · show s0.toList.length ≤ maxLen
          rw [Lib.toList_data, ← size_len]; exact z0
    haveI : Inhabited Bd := ⟨⟨[], [], [], 0, 0⟩⟩
    obtain ⟨q, hq⟩ := choose_lt each
    refine ⟨(List.range len).map q, .inr ⟨bk, off, cap, by simp, by simpa using hl, hm, hlt, fun k x hx => ?_⟩, fun x hx => ?_⟩
    · rw [List.getElem?_map] at hx
      obtain ⟨k', h1, h2⟩ := Option.map_eq_some_iff.1 hx
      obtain ⟨h3, h4⟩ := List.getElem?_eq_some_iff.1 h1
      simp at h3 h4
      subst h4; subst h2
      exact (hq k h3).1
    · obtain ⟨i, hi, rfl⟩ := List.mem_map.1 hx
      exact (hq i (List.mem_range.1 hi)).2
set_option maxRecDepth 100000 in
/-- A schema that came in. -/
theorem open_schema {W : World} {r : Reach} {b0 b : Nat} {sp : Nat → Bool} {hd : Bool} {v : Value} {d : DataW H} {p : List MemPlace} (hv : Value.okWide Tryd.prog W r b0 25 v) (h : DataW.Trod enc Tryd.prog W b sp hd 25 v d p) :
    ∃ vk vb L B, v = .agg #[vk, vb] ∧ IsK W vk L ∧ Parts W L ∧ SzK L ∧ IsB W vb B ∧ SzB B := by
  simp only [Value.okWide, Tryd.underlying25] at hv
  obtain ⟨cs, rfl, hcs, ts, hts, _, hrow⟩ := hv
  rw [cellsS25] at hcs
  obtain rfl := Option.some.inj (types25.symm.trans hts)
  obtain ⟨l⟩ := cs
  match l, hcs with
  | [vk, vb], _ =>
    obtain ⟨t0, e0, w0⟩ := hrow 0 vk rfl
    obtain ⟨t1, e1, w1⟩ := hrow 1 vb rfl
    obtain rfl : 22 = t0 := by simpa using e0
    obtain rfl : 23 = t1 := by simpa using e1
    have o0 : Value.okWide Tryd.prog W r b0 22 vk := by simp only [Value.okWide, Tryd.underlying22]; exact w0
    have o1 : Value.okWide Tryd.prog W r b0 23 vb := by simp only [Value.okWide, Tryd.underlying23]; exact w1
    obtain ⟨a0, l0, c0, rfl⟩ := okWide_slice Tryd.underlying22 o0
    obtain ⟨a1, l1, c1, rfl⟩ := okWide_slice Tryd.underlying23 o1
    obtain ⟨fuel, hf⟩ := h
    have hf' : DataW.trod enc Tryd.prog W b sp hd fuel 25 [.slice a0 l0 c0, .slice a1 l1 c1] = some (d, p) := by simpa [Value.cells] using hf
    obtain ⟨y0, y1, k, _, _, u0, u1⟩ := trod_struct2 Tryd.underlying25 hf'
    simp only [cells22, cells23, List.drop, List.take] at u0 u1
    obtain ⟨L, h1, h2, h3⟩ := open_kinds (d := y0.1) (p := y0.2) o0 ⟨k, by simpa [Value.cells] using u0⟩
    obtain ⟨B, h4, h5⟩ := open_bonds (d := y1.1) (p := y1.2) o1 ⟨k, by simpa [Value.cells] using u1⟩
    exact ⟨_, _, L, B, rfl, h1, h2, h3, h4, h5⟩
end
theorem twNamed : Tryd.prog.globalNamed "kinshape/schema.typeWords" = some 0 := by kernel_rfl
theorem twType : (Tryd.prog.globals[0]?).map (·.type) = some 64 := by kernel_rfl
theorem cells64 : Tryd.prog.cellsOf 64 = 4 := by kernel_rfl
/-- An array of strings that reads as these words holds them, cell for cell. -/
theorem cells_words {H : Type} {enc : TypeId × Value → H} {w : World} {base : Nat} {sp : Nat → Bool} {held : Bool} {fuel : Nat} {cs : List Value} {ls : List Nm} {p : List MemPlace} (h : DataW.trod enc Tryd.prog w base sp held fuel 64 cs = some (.agg (ls.map fun l => .lit (.string l)), p)) : ∀ i l, i < 4 → ls[i]? = some l → cs[i]? = some (.string (bs l)) := by
  cases fuel with
  | zero => simp [DataW.trod] at h
  | succ fuel =>
    simp only [DataW.trod, Tryd.underlying64, cells9, cells64, Nat.mul_one] at h
    split at h
    · obtain ⟨xs, hm, hx⟩ := Option.map_eq_some_iff.1 h
      have hxs : xs.map (·.1) = ls.map fun l => (DataW.lit (.string l) : DataW H) := by
        have := congrArg Prod.fst hx
        simpa using this
      intro i l hi hl
      obtain ⟨y, hy, hf⟩ := Lib.mapM_at hm i i (by simp [hi])
      obtain ⟨s, hc, rfl, _⟩ := DataW.trod_string Tryd.underlying9 hf
      have h1 : cs[i]? = some (.string s) := by
        have := congrArg (·[0]?) hc
        simpa [List.getElem?_take, List.getElem?_drop] using this
      have h2 : (xs.map (·.1))[i]? = some (DataW.lit (.string s.data.toList) : DataW H) := by simp [hy]
      rw [hxs, List.getElem?_map, hl] at h2
      simp only [Option.map_some, Option.some.injEq, DataW.lit.injEq, Lit.string.injEq] at h2
      rw [h1, h2]
      rfl
    · cases h
/-- The table of words, where it stands first on the list. -/
theorem tw_of {W : World} {rest : List (String × DataW Unit)} (h : laidMet Tryd.prog (("kinshape/schema.typeWords", Rows.laid_kinshape_schema_typeWords) :: rest) W) : TW W := by
  obtain ⟨ps, ⟨g', t', cs, fuel, p, q, hg', ht', hvar, hd, _, _⟩, _⟩ := h
  obtain rfl := Option.some.inj (twNamed.symm.trans hg')
  obtain rfl := Option.some.inj (twType.symm.trans ht')
  have hw := cells_words (ls := [[], [105, 110, 116], [98, 111, 111, 108], [116, 101, 120, 116]]) hd
  refine ⟨?_, ?_, ?_⟩
  · have := World.var?_cell twNamed hvar 1
    rw [this]; simpa [bs] using hw 1 _ (by omega) rfl
  · have := World.var?_cell twNamed hvar 2
    rw [this]; simpa [bs] using hw 2 _ (by omega) rfl
  · have := World.var?_cell twNamed hvar 3
    rw [this]; simpa [bs] using hw 3 _ (by omega) rfl
end Go.Proofs.YtgjlonilbhlneaaDoor
