/-
  A schema as a parameter.
-/
import Derived.Test.YtifhigajonafdaaGreatRows
import Derived.Test.YtifhigajonafdaaGreatS32
import Derived.ProofKit
import Derived.LaidMore
import Derived.OpenShut
import Derived.ShutString
import Derived.ChangeMaps5
import Derived.Stop.Joined
import Derived.Stop.LaidErr
import Derived.Lib.SmallJoins
import Derived.Carry
import Derived.SizedLaws
import Derived.MakeChecks
import Derived.Deep.Slices
import Derived.Deep.Strs
namespace Go.Proofs.YtifhigajonafdaaGreat
open Go.ChangeShapes Go.WideShapes Go.ChangeAt Go.RowKit Go.Joins Go.Deep
open Go.ChangeMaps (open_string shut_string)
set_option linter.unusedVariables false
set_option linter.unusedSimpArgs false

theorem cells28 : Tryz.prog.cellsOf 34 = 3 := by kernel_rfl
theorem cells26 : Tryz.prog.cellsOf 31 = 1 := by kernel_rfl
theorem cells25C : Tryz.prog.cellsOf 32 = 1 := by kernel_rfl
theorem cells24 : Tryz.prog.cellsOf 163 = 4 := by kernel_rfl
theorem cells9C : Tryz.prog.cellsOf 9 = 1 := by kernel_rfl
theorem cells3C : Tryz.prog.cellsOf 3 = 1 := by kernel_rfl
theorem cells4 : Tryz.prog.cellsOf 4 = 1 := by kernel_rfl

theorem cells44 : Tryz.prog.cellsOf 145 = 5 := by kernel_rfl
theorem cells22C : Tryz.prog.cellsOf 22 = 1 := by kernel_rfl
theorem cells23C : Tryz.prog.cellsOf 23 = 1 := by kernel_rfl
theorem cellsS25 : Tryz.prog.cellsOf 25 = 2 := by kernel_rfl
theorem types25C : Tryz.prog.cellTypes Tryz.prog.depth 25 = some [22, 23] := by kernel_rfl
theorem cell_plainC {W : World} {a : Addr} {u : Value} (h : W.cell? a = some u) : a.spot = none ∧ a.block < W.heap.size := by
  refine ⟨?_, World.block_lt_of_cell? W _ h⟩
  obtain ⟨bk, off, spot⟩ := a
  cases spot with
  | none => rfl
  | some sp =>
    exfalso
    unfold World.cell? at h
    split at h
    · simp at h
    · cases h
theorem addzC (a : Addr) : a.add 0 = a := by simp [Addr.add]

section
variable {H : Type} {enc : TypeId × Value → H}
set_option maxRecDepth 100000 in
theorem cells_field {W : World} {b : Nat} {sp : Nat → Bool} {hd : Bool} {n : Nat} {cs : List Value} {x : DataW H × List MemPlace} (hlen : cs.length = 4) (h : DataW.trod enc Tryz.prog W b sp hd n 163 cs = some x) :
    ∃ f : Fd, cs = f.cells ∧ f.nm.length ≤ maxLen := by
  obtain ⟨y0, y1, y2, y3, k, hxy, _, u0, u1, u2, u3⟩ := trod_struct4 Tryz.underlying163 h
  match cs, hlen with
  | [v0, v1, v2, v3], _ =>
    simp only [cells9C, cells3C, cells4, List.drop, List.take] at u0 u1 u2 u3
    obtain ⟨s0, e0, d0, z0⟩ := DataW.trod_string Tryz.underlying9 u0
    obtain ⟨q1, e1, d1, _⟩ := DataW.trod_int Tryz.underlying3 u1
    obtain ⟨b2, e2, _⟩ := DataW.trod_bool Tryz.underlying4 u2
    obtain ⟨b3, e3, _⟩ := DataW.trod_bool Tryz.underlying4 u3
    simp only [List.cons.injEq, and_true] at e0 e1 e2 e3
    subst e0; subst e1; subst e2; subst e3
    refine ⟨⟨s0.toList, q1, b2, b3⟩, ?_, ?_⟩
    · simp [Fd.cells, bs_self]
    · show s0.toList.length ≤ maxLen
      rw [Lib.toList_data, ← size_len]; exact z0
theorem open_names {W : World} {b : Nat} {sp : Nat → Bool} {hd : Bool} {n : Nat} {v : Value} {x : DataW H × List MemPlace} (h : DataW.trod enc Tryz.prog W b sp hd n 31 [v] = some x) : ∃ l, IsS W v l := by
  rcases open_slice Tryz.underlying31 h with ⟨hc, _⟩ | ⟨a, len, cap, m, n, D, Pl, hc, hb, hl, hm, hmm, _, hall⟩
  · simp only [List.cons.injEq, and_true] at hc
    exact ⟨[], .inl ⟨none, 0, hc, rfl, by decide, fun _ => rfl⟩⟩
  · simp only [List.cons.injEq, and_true] at hc
    subst hc
    have hlm : len ≤ m := by rw [hmm]; split <;> omega
    by_cases h0 : len = 0
    · subst h0
      exact ⟨[], .inl ⟨some a, cap, rfl, rfl, hm, fun e => by cases e⟩⟩
    · have each : ∀ i, i < len → ∃ q : Nm, W.cell? (a.add i) = some (.string (bs q)) := by
        intro i hi
        obtain ⟨cs', h1, h2⟩ := hall i (by omega)
        rw [cells9C, Nat.mul_one] at h1
        obtain ⟨_, hlen, hcell⟩ := World.cells?_some h1
        obtain ⟨s, rfl, _⟩ := DataW.trod_string Tryz.underlying9 h2
        have c0 := hcell 0 (by omega)
        refine ⟨s.toList, ?_⟩
        rw [bs_self]
        rw [addzC] at c0
        simpa using c0
      obtain ⟨q, hq⟩ := choose_lt each
      have q0 := hq 0 (by omega)
      rw [addzC] at q0
      obtain ⟨e1, e2⟩ := cell_plainC q0
      obtain ⟨bk, off, spot⟩ := a
      simp only at e1 e2
      subst e1
      refine ⟨(List.range len).map q, .inr ⟨bk, off, cap, by simp, by simpa using hl, hm, e2, fun k y hy => ?_⟩⟩
      rw [List.getElem?_map] at hy
      obtain ⟨k', h1, h2⟩ := Option.map_eq_some_iff.1 hy
      obtain ⟨h3, h4⟩ := List.getElem?_eq_some_iff.1 h1
      simp at h3 h4
      subst h4; subst h2
      have := hq k h3
      rwa [Addr.add_lit] at this
theorem open_fields {W : World} {b : Nat} {sp : Nat → Bool} {hd : Bool} {n : Nat} {v : Value} {x : DataW H × List MemPlace} (h : DataW.trod enc Tryz.prog W b sp hd n 32 [v] = some x) : ∃ l, IsF W v l ∧ ∀ f ∈ l, f.nm.length ≤ maxLen := by
  rcases open_slice Tryz.underlying32 h with ⟨hc, _⟩ | ⟨a, len, cap, m, n, D, Pl, hc, hb, hl, hm, hmm, _, hall⟩
  · simp only [List.cons.injEq, and_true] at hc
    exact ⟨[], .inl ⟨none, 0, hc, rfl, by decide, fun _ => rfl⟩, fun f hf => by simp at hf⟩
  · simp only [List.cons.injEq, and_true] at hc
    subst hc
    have hlm : len ≤ m := by rw [hmm]; split <;> omega
    by_cases h0 : len = 0
    · subst h0
      exact ⟨[], .inl ⟨some a, cap, rfl, rfl, hm, fun e => by cases e⟩, fun f hf => by simp at hf⟩
    · have each : ∀ i, i < len → ∃ f : Fd, (∀ j, j < 4 → W.cell? ((a.add (i * 4)).add j) = f.cells[j]?) ∧ f.nm.length ≤ maxLen := by
        intro i hi
        obtain ⟨cs', h1, h2⟩ := hall i (by omega)
        rw [cells24] at h1
        obtain ⟨_, hlen, hcell⟩ := World.cells?_some h1
        obtain ⟨f, rfl, z⟩ := cells_field hlen h2
        exact ⟨f, hcell, z⟩
      haveI : Inhabited Fd := ⟨⟨[], 0, false, false⟩⟩
      obtain ⟨q, hq⟩ := choose_lt each
      have hsp : a.spot = none ∧ a.block < W.heap.size := by
        have c0 := (hq 0 (by omega)).1 0 (by decide)
        rw [addzC, Nat.zero_mul, addzC] at c0
        exact cell_plainC (c0.trans rfl)
      obtain ⟨bk, off, spot⟩ := a
      obtain ⟨e1, e2⟩ := hsp
      simp only at e1 e2
      subst e1
      refine ⟨(List.range len).map q, .inr ⟨bk, off, cap, by simp, by simpa using hl, hm, e2, fun k y hy => ?_⟩, fun f hf => ?_⟩
      · rw [List.getElem?_map] at hy
        obtain ⟨k', h1, h2⟩ := Option.map_eq_some_iff.1 hy
        obtain ⟨h3, h4⟩ := List.getElem?_eq_some_iff.1 h1
        simp at h3 h4
        subst h4; subst h2
        have hh := (hq k h3).1
        have c0 := hh 0 (by decide)
        have c1 := hh 1 (by decide)
        have c2 := hh 2 (by decide)
        have c3 := hh 3 (by decide)
        rw [Addr.add_lit, Addr.add_lit] at c0 c1 c2 c3
        exact ⟨by simpa [Fd.cells] using c0, by simpa [Fd.cells] using c1, by simpa [Fd.cells] using c2, by simpa [Fd.cells] using c3⟩
      · obtain ⟨i, hi, rfl⟩ := List.mem_map.1 hf
        exact (hq i (List.mem_range.1 hi)).2
theorem shape_lt {W : World} {b : Nat} {x : TypeId × Nat} (h : W.shape? b = some x) : b < W.heap.size := by
  rcases Nat.lt_or_ge b W.heap.size with h1 | h1
  · exact h1
  · exfalso
    simp [World.shape?, Array.getElem?_eq_none h1] at h
set_option maxRecDepth 100000 in
theorem open_kinds {W : World} {r : Reach} {b0 b : Nat} {sp : Nat → Bool} {hd : Bool} {v : Value} {d : DataW H} {p : List MemPlace} (hv : Value.okWide Tryz.prog W r b0 22 v) (h : DataW.Trod enc Tryz.prog W b sp hd 22 v d p) :
    ∃ L, IsK W v L ∧ Parts W L ∧ SzK L := by
  obtain ⟨a, len, cap, rfl⟩ := okWide_slice Tryz.underlying22 hv
  obtain ⟨fuel, hf⟩ := h
  have hf' : DataW.trod enc Tryz.prog W b sp hd fuel 22 [.slice a len cap] = some (d, p) := by simpa [Value.cells] using hf
  rcases open_slice Tryz.underlying22 hf' with ⟨hc, _⟩ | ⟨a', len', cap', m, n, D, Pl, hc, hb, hl, hm, hmm, _, hall⟩
  · simp only [List.cons.injEq, and_true] at hc
    exact ⟨[], .inl ⟨hc, rfl⟩, fun q hq => by simp at hq, fun q hq => by simp at hq⟩
  · simp only [List.cons.injEq, and_true, Value.slice.injEq] at hc
    obtain ⟨rfl, rfl, rfl⟩ := hc
    have hlm : len ≤ m := by rw [hmm]; split <;> omega
    simp only [Value.okWide, Tryz.underlying22, Cell.okWide, Cell.ok] at hv
    obtain ⟨_, _, _, hsp, row, cells, hsh, _⟩ := hv
    have hlt := shape_lt hsh
    obtain ⟨bk, off, spot⟩ := a'
    simp only at hsp hlt
    subst hsp
    have each : ∀ i, i < len → ∃ q : Kd, (W.cell? ⟨bk, off + i * 3, none⟩ = some (.string (bs q.nm)) ∧ W.cell? ⟨bk, off + i * 3 + 1, none⟩ = some q.vo ∧ W.cell? ⟨bk, off + i * 3 + 2, none⟩ = some q.vf) ∧ (IsS W q.vo q.of ∧ IsF W q.vf q.fs) ∧ (q.nm.length ≤ maxLen ∧ ∀ f ∈ q.fs, f.nm.length ≤ maxLen) := by
      intro i hi
      obtain ⟨cs', h1, h2⟩ := hall i (by omega)
      rw [cells28] at h1
      obtain ⟨_, hlen, hcell⟩ := World.cells?_some h1
      obtain ⟨y0, y1, y2, k, hxy, _, u0, u1, u2⟩ := trod_struct3 Tryz.underlying34 h2
      match cs', hlen with
      | [v0, v1, v2], _ =>
        simp only [cells9C, cells26, cells25C, List.drop, List.take] at u0 u1 u2
        obtain ⟨s0, e0, d0, z0⟩ := DataW.trod_string Tryz.underlying9 u0
        simp only [List.cons.injEq, and_true] at e0
        subst e0
        obtain ⟨lo1, hS⟩ := open_names u1
        obtain ⟨lf, hF, hZ⟩ := open_fields u2
        have c0 := hcell 0 (by omega)
        have c1 := hcell 1 (by omega)
        have c2 := hcell 2 (by omega)
        rw [Addr.add_lit, Addr.add_lit] at c0 c1 c2
        refine ⟨⟨s0.toList, lo1, lf, v1, v2⟩, ⟨?_, by simpa using c1, by simpa using c2⟩, ⟨hS, hF⟩, ?_, hZ⟩
        · show _ = some (Value.string (bs s0.toList))
          rw [bs_self]; simpa using c0
        · show s0.toList.length ≤ maxLen
          rw [Lib.toList_data, ← size_len]; exact z0
    haveI : Inhabited Kd := ⟨⟨[], [], [], .nilIface, .nilIface⟩⟩
    obtain ⟨q, hq⟩ := choose_lt each
    refine ⟨(List.range len).map q, .inr ⟨bk, off, cap, by simp, by simpa using hl, hm, hlt, fun k x hx => ?_⟩, fun x hx => ?_, fun x hx => ?_⟩
    · rw [List.getElem?_map] at hx
      obtain ⟨k', h1, h2⟩ := Option.map_eq_some_iff.1 hx
      obtain ⟨h3, h4⟩ := List.getElem?_eq_some_iff.1 h1
      simp at h3 h4
      subst h4; subst h2
      exact (hq k h3).1
    · obtain ⟨i, hi, rfl⟩ := List.mem_map.1 hx
      exact (hq i (List.mem_range.1 hi)).2.1
    · obtain ⟨i, hi, rfl⟩ := List.mem_map.1 hx
      exact (hq i (List.mem_range.1 hi)).2.2
theorem trod_five {W : World} {b : Nat} {sp : Nat → Bool} {hd : Bool} {t : TypeId} {f0 f1 f2 f3 f4 : Field} {fuel : Nat} {cs : List Value} {x : DataW H × List MemPlace} (ht : Tryz.prog.underlying t = some (.struct #[f0, f1, f2, f3, f4])) (h : DataW.trod enc Tryz.prog W b sp hd fuel t cs = some x) :
    ∃ y0 y1 y2 y3 y4 n, DataW.trod enc Tryz.prog W b sp hd n f0.type ((cs.drop f0.offset).take (Tryz.prog.cellsOf f0.type)) = some y0 ∧ DataW.trod enc Tryz.prog W b sp hd n f1.type ((cs.drop f1.offset).take (Tryz.prog.cellsOf f1.type)) = some y1 ∧ DataW.trod enc Tryz.prog W b sp hd n f2.type ((cs.drop f2.offset).take (Tryz.prog.cellsOf f2.type)) = some y2 ∧ DataW.trod enc Tryz.prog W b sp hd n f3.type ((cs.drop f3.offset).take (Tryz.prog.cellsOf f3.type)) = some y3 ∧ DataW.trod enc Tryz.prog W b sp hd n f4.type ((cs.drop f4.offset).take (Tryz.prog.cellsOf f4.type)) = some y4 := by
  obtain ⟨xs, n, _, _, _, hxl, hf⟩ := DataW.trod_struct ht h
  match xs, hxl with
  | [y0, y1, y2, y3, y4], _ => exact ⟨y0, y1, y2, y3, y4, n, hf 0 f0 rfl, hf 1 f1 rfl, hf 2 f2 rfl, hf 3 f3 rfl, hf 4 f4 rfl⟩
set_option maxRecDepth 100000 in
theorem open_bonds {W : World} {r : Reach} {b0 b : Nat} {sp : Nat → Bool} {hd : Bool} {v : Value} {d : DataW H} {p : List MemPlace} (hv : Value.okWide Tryz.prog W r b0 23 v) (h : DataW.Trod enc Tryz.prog W b sp hd 23 v d p) :
    ∃ L, IsB W v L ∧ SzB L := by
  obtain ⟨a, len, cap, rfl⟩ := okWide_slice Tryz.underlying23 hv
  obtain ⟨fuel, hf⟩ := h
  have hf' : DataW.trod enc Tryz.prog W b sp hd fuel 23 [.slice a len cap] = some (d, p) := by simpa [Value.cells] using hf
  rcases open_slice Tryz.underlying23 hf' with ⟨hc, _⟩ | ⟨a', len', cap', m, n, D, Pl, hc, hb, hl, hm, hmm, _, hall⟩
  · simp only [List.cons.injEq, and_true] at hc
    exact ⟨[], .inl ⟨hc, rfl⟩, fun q hq => by simp at hq⟩
  · simp only [List.cons.injEq, and_true, Value.slice.injEq] at hc
    obtain ⟨rfl, rfl, rfl⟩ := hc
    have hlm : len ≤ m := by rw [hmm]; split <;> omega
    simp only [Value.okWide, Tryz.underlying23, Cell.okWide, Cell.ok] at hv
    obtain ⟨_, _, _, hsp, row, cells, hsh, _⟩ := hv
    have hlt := shape_lt hsh
    obtain ⟨bk, off, spot⟩ := a'
    simp only at hsp hlt
    subst hsp
    have each : ∀ i, i < len → ∃ q : Bd, (W.cell? ⟨bk, off + i * 5, none⟩ = some (.string (bs q.nm)) ∧ W.cell? ⟨bk, off + i * 5 + 1, none⟩ = some (.string (bs q.fr)) ∧ W.cell? ⟨bk, off + i * 5 + 2, none⟩ = some (.string (bs q.tt)) ∧ W.cell? ⟨bk, off + i * 5 + 3, none⟩ = some (.int .i64 q.mn) ∧ W.cell? ⟨bk, off + i * 5 + 4, none⟩ = some (.int .i64 q.mx)) ∧ q.nm.length ≤ maxLen := by
      intro i hi
      obtain ⟨cs', h1, h2⟩ := hall i (by omega)
      rw [cells44] at h1
      obtain ⟨_, hlen, hcell⟩ := World.cells?_some h1
      obtain ⟨y0, y1, y2, y3, y4, k, u0, u1, u2, u3, u4⟩ := trod_five Tryz.underlying145 h2
      match cs', hlen with
      | [v0, v1, v2, v3, v4], _ =>
        simp only [cells9C, cells3C, List.drop, List.take] at u0 u1 u2 u3 u4
        obtain ⟨s0, e0, d0, z0⟩ := DataW.trod_string Tryz.underlying9 u0
        obtain ⟨s1, e1, d1, z1⟩ := DataW.trod_string Tryz.underlying9 u1
        obtain ⟨s2, e2, d2, z2⟩ := DataW.trod_string Tryz.underlying9 u2
        obtain ⟨q3, e3, d3, _⟩ := DataW.trod_int Tryz.underlying3 u3
        obtain ⟨q4, e4, d4, _⟩ := DataW.trod_int Tryz.underlying3 u4
        simp only [List.cons.injEq, and_true] at e0 e1 e2 e3 e4
        subst e0; subst e1; subst e2; subst e3; subst e4
        have c0 := hcell 0 (by omega)
        have c1 := hcell 1 (by omega)
        have c2 := hcell 2 (by omega)
        have c3 := hcell 3 (by omega)
        have c4 := hcell 4 (by omega)
        rw [Addr.add_lit, Addr.add_lit] at c0 c1 c2 c3 c4
        refine ⟨⟨s0.toList, s1.toList, s2.toList, q3, q4⟩, ⟨?_, ?_, ?_, by simpa using c3, by simpa using c4⟩, ?_⟩
        · show _ = some (Value.string (bs s0.toList))
          rw [bs_self]; simpa using c0
        · show _ = some (Value.string (bs s1.toList))
          rw [bs_self]; simpa using c1
        · show _ = some (Value.string (bs s2.toList))
          rw [bs_self]; simpa using c2
        · show s0.toList.length ≤ maxLen
          rw [Lib.toList_data, ← size_len]; exact z0
    haveI : Inhabited Bd := ⟨⟨[], [], [], 0, 0⟩⟩
    obtain ⟨q, hq⟩ := choose_lt each
    refine ⟨(List.range len).map q, .inr ⟨bk, off, cap, by simp, by simpa using hl, hm, hlt, fun k x hx => ?_⟩, fun x hx => ?_⟩
    · rw [List.getElem?_map] at hx
      obtain ⟨k', h1, h2⟩ := Option.map_eq_some_iff.1 hx
      obtain ⟨h3, h4⟩ := List.getElem?_eq_some_iff.1 h1
      simp at h3 h4
      subst h4; subst h2
      exact (hq k h3).1
    · obtain ⟨i, hi, rfl⟩ := List.mem_map.1 hx
      exact (hq i (List.mem_range.1 hi)).2
set_option maxRecDepth 100000 in
theorem open_schema {W : World} {r : Reach} {b0 b : Nat} {sp : Nat → Bool} {hd : Bool} {v : Value} {d : DataW H} {p : List MemPlace} (hv : Value.okWide Tryz.prog W r b0 25 v) (h : DataW.Trod enc Tryz.prog W b sp hd 25 v d p) :
    ∃ L B, IsSc W v L B := by
  simp only [Value.okWide, Tryz.underlying25] at hv
  obtain ⟨cs, rfl, hcs, ts, hts, _, hrow⟩ := hv
  rw [cellsS25] at hcs
  obtain rfl := Option.some.inj (types25C.symm.trans hts)
  obtain ⟨l⟩ := cs
  match l, hcs with
  | [vk, vb], _ =>
    obtain ⟨t0, e0, w0⟩ := hrow 0 vk rfl
    obtain ⟨t1, e1, w1⟩ := hrow 1 vb rfl
    obtain rfl : 22 = t0 := by simpa using e0
    obtain rfl : 23 = t1 := by simpa using e1
    have o0 : Value.okWide Tryz.prog W r b0 22 vk := by simp only [Value.okWide, Tryz.underlying22]; exact w0
    have o1 : Value.okWide Tryz.prog W r b0 23 vb := by simp only [Value.okWide, Tryz.underlying23]; exact w1
    obtain ⟨a0, l0, c0, rfl⟩ := okWide_slice Tryz.underlying22 o0
    obtain ⟨a1, l1, c1, rfl⟩ := okWide_slice Tryz.underlying23 o1
    obtain ⟨fuel, hf⟩ := h
    have hf' : DataW.trod enc Tryz.prog W b sp hd fuel 25 [.slice a0 l0 c0, .slice a1 l1 c1] = some (d, p) := by simpa [Value.cells] using hf
    obtain ⟨y0, y1, k, _, _, u0, u1⟩ := trod_struct2 Tryz.underlying25 hf'
    simp only [cells22C, cells23C, List.drop, List.take] at u0 u1
    obtain ⟨L, h1, h2, h3⟩ := open_kinds (d := y0.1) (p := y0.2) o0 ⟨k, by simpa [Value.cells] using u0⟩
    obtain ⟨B, h4, h5⟩ := open_bonds (d := y1.1) (p := y1.2) o1 ⟨k, by simpa [Value.cells] using u1⟩
    exact ⟨L, B, _, _, rfl, h1, h2, h3, h4, h5⟩
end
end Go.Proofs.YtifhigajonafdaaGreat

/-
  A graph as a parameter.
-/
namespace Go.Proofs.YtifhigajonafdaaGreat
open Go.ChangeShapes Go.WideShapes Go.ChangeAt Go.RowKit Go.Joins Go.Deep
open Go.ChangeMaps (open_string shut_string)
set_option linter.unusedVariables false
set_option linter.unusedSimpArgs false

theorem cells56G : Tryz.prog.cellsOf 52 = 4 := by kernel_rfl
theorem cells54G : Tryz.prog.cellsOf 50 = 3 := by kernel_rfl
theorem cells27G : Tryz.prog.cellsOf 46 = 1 := by kernel_rfl
theorem cells29G : Tryz.prog.cellsOf 48 = 3 := by kernel_rfl
theorem cells31G : Tryz.prog.cellsOf 54 = 3 := by kernel_rfl
theorem cells22G : Tryz.prog.cellsOf 26 = 1 := by kernel_rfl
theorem cells23G : Tryz.prog.cellsOf 27 = 1 := by kernel_rfl
theorem cells25G : Tryz.prog.cellsOf 29 = 2 := by kernel_rfl
theorem types25G : Tryz.prog.cellTypes Tryz.prog.depth 29 = some [26, 27] := by kernel_rfl

section
variable {H : Type} {enc : TypeId × Value → H}
set_option maxRecDepth 100000 in
theorem cells_propC {W : World} {b : Nat} {sp : Nat → Bool} {hd : Bool} {n : Nat} {cs : List Value} {x : DataW H × List MemPlace} (hlen : cs.length = 4) (h : DataW.trod enc Tryz.prog W b sp hd n 52 cs = some x) :
    ∃ q : Pr, cs = q.cells ∧ q.nm.size ≤ maxLen ∧ q.s.size ≤ maxLen := by
  obtain ⟨y0, y1, k, hxy, _, u0, u1⟩ := trod_struct2 Tryz.underlying52 h
  match cs, hlen with
  | [v0, v1, v2, v3], _ =>
    simp only [cells9C, cells54G, List.drop, List.take] at u0 u1
    obtain ⟨s0, e0, d0, z0⟩ := DataW.trod_string Tryz.underlying9 u0
    obtain ⟨w0, w1, w2, k2, hw, _, t0, t1, t2⟩ := trod_struct3 Tryz.underlying50 u1
    simp only [cells9C, cells3C, List.drop, List.take] at t0 t1 t2
    obtain ⟨q1, e1, d1, _⟩ := DataW.trod_int Tryz.underlying3 t0
    obtain ⟨q2, e2, d2, _⟩ := DataW.trod_int Tryz.underlying3 t1
    obtain ⟨s3, e3, d3, z3⟩ := DataW.trod_string Tryz.underlying9 t2
    simp only [List.cons.injEq, and_true] at e0 e1 e2 e3
    subst e0; subst e1; subst e2; subst e3
    exact ⟨⟨s0, q1, q2, s3⟩, rfl, z0, z3⟩
theorem open_propsC {W : World} {b : Nat} {sp : Nat → Bool} {hd : Bool} {n : Nat} {v : Value} {x : DataW H × List MemPlace} (h : DataW.trod enc Tryz.prog W b sp hd n 46 [v] = some x) : ∃ l, IsR W v l ∧ Sz l ∧ l.length ≤ maxLen := by
  rcases open_slice Tryz.underlying46 h with ⟨hc, _⟩ | ⟨a, len, cap, m, n, D, Pl, hc, hb, hl, hm, hmm, _, hall⟩
  · simp only [List.cons.injEq, and_true] at hc
    exact ⟨[], ⟨none, 0, hc, .inl rfl⟩, fun f hf => by simp at hf, by decide⟩
  · simp only [List.cons.injEq, and_true] at hc
    subst hc
    have hlm : len ≤ m := by rw [hmm]; split <;> omega
    by_cases h0 : len = 0
    · subst h0
      exact ⟨[], ⟨some a, cap, rfl, .inl rfl⟩, fun f hf => by simp at hf, by decide⟩
    · have each : ∀ i, i < len → ∃ f : Pr, (∀ j, j < 4 → W.cell? ((a.add (i * 4)).add j) = f.cells[j]?) ∧ f.nm.size ≤ maxLen ∧ f.s.size ≤ maxLen := by
        intro i hi
        obtain ⟨cs', h1, h2⟩ := hall i (by omega)
        rw [cells56G] at h1
        obtain ⟨_, hlen, hcell⟩ := World.cells?_some h1
        obtain ⟨f, rfl, z⟩ := cells_propC hlen h2
        exact ⟨f, hcell, z⟩
      haveI : Inhabited Pr := ⟨⟨⟨#[]⟩, 0, 0, ⟨#[]⟩⟩⟩
      obtain ⟨q, hq⟩ := choose_lt each
      have hsp : a.spot = none ∧ a.block < W.heap.size := by
        have c0 := (hq 0 (by omega)).1 0 (by decide)
        rw [addzC, Nat.zero_mul, addzC] at c0
        exact cell_plainC (c0.trans rfl)
      obtain ⟨bk, off, spot⟩ := a
      obtain ⟨e1, e2⟩ := hsp
      simp only at e1 e2
      subst e1
      refine ⟨(List.range len).map q, ⟨_, cap, by simp, .inr ⟨bk, off, rfl, e2, fun k y hy => ?_⟩⟩, fun f hf => ?_, by simp; omega⟩
      · rw [List.getElem?_map] at hy
        obtain ⟨k', h1, h2⟩ := Option.map_eq_some_iff.1 hy
        obtain ⟨h3, h4⟩ := List.getElem?_eq_some_iff.1 h1
        simp at h3 h4
        subst h4; subst h2
        have hh := (hq k h3).1
        have c0 := hh 0 (by decide)
        have c1 := hh 1 (by decide)
        have c2 := hh 2 (by decide)
        have c3 := hh 3 (by decide)
        rw [Addr.add_lit, Addr.add_lit] at c0 c1 c2 c3
        exact ⟨by simpa [Pr.cells] using c0, by simpa [Pr.cells] using c1, by simpa [Pr.cells] using c2, by simpa [Pr.cells] using c3⟩
      · obtain ⟨i, hi, rfl⟩ := List.mem_map.1 hf
        exact (hq i (List.mem_range.1 hi)).2
set_option maxRecDepth 100000 in
theorem open_nodesC {W : World} {b : Nat} {sp : Nat → Bool} {hd : Bool} {n : Nat} {v : Value} {x : DataW H × List MemPlace} (h : DataW.trod enc Tryz.prog W b sp hd n 26 [v] = some x) : ∃ N, IsN W v N ∧ SzN N ∧ N.length ≤ maxLen := by
  rcases open_slice Tryz.underlying26 h with ⟨hc, _⟩ | ⟨a, len, cap, m, n, D, Pl, hc, hb, hl, hm, hmm, _, hall⟩
  · simp only [List.cons.injEq, and_true] at hc
    exact ⟨[], ⟨none, 0, hc, Nat.le_refl _, .inl rfl⟩, fun f hf => by simp at hf, by decide⟩
  · simp only [List.cons.injEq, and_true] at hc
    subst hc
    have hlm : len ≤ m := by rw [hmm]; split <;> omega
    by_cases h0 : len = 0
    · subst h0
      exact ⟨[], ⟨some a, cap, rfl, Nat.zero_le _, .inl rfl⟩, fun f hf => by simp at hf, by decide⟩
    · have each : ∀ i, i < len → ∃ f : Nd, (W.cell? ((a.add (i * 3)).add 0) = some (.int .i64 f.id) ∧ W.cell? ((a.add (i * 3)).add 1) = some (.string f.kd) ∧ W.cell? ((a.add (i * 3)).add 2) = some f.rv ∧ IsR W f.rv f.rc) ∧ f.kd.size ≤ maxLen ∧ Sz f.rc ∧ f.rc.length ≤ maxLen := by
        intro i hi
        obtain ⟨cs', h1, h2⟩ := hall i (by omega)
        rw [cells29G] at h1
        obtain ⟨_, hlen, hcell⟩ := World.cells?_some h1
        obtain ⟨y0, y1, y2, k, hxy, _, u0, u1, u2⟩ := trod_struct3 Tryz.underlying48 h2
        match cs', hlen with
        | [v0, v1, v2], _ =>
          simp only [cells9C, cells3C, cells27G, List.drop, List.take] at u0 u1 u2
          obtain ⟨q0, e0, d0, _⟩ := DataW.trod_int Tryz.underlying3 u0
          obtain ⟨s1, e1, d1, z1⟩ := DataW.trod_string Tryz.underlying9 u1
          simp only [List.cons.injEq, and_true] at e0 e1
          subst e0; subst e1
          obtain ⟨l, hR, hZ, hl'⟩ := open_propsC u2
          have c0 := hcell 0 (by omega)
          have c1 := hcell 1 (by omega)
          have c2 := hcell 2 (by omega)
          exact ⟨⟨q0, s1, v2, l⟩, ⟨by simpa using c0, by simpa using c1, by simpa using c2, hR⟩, z1, hZ, hl'⟩
      haveI : Inhabited Nd := ⟨⟨0, ⟨#[]⟩, .nilIface, []⟩⟩
      obtain ⟨q, hq⟩ := choose_lt each
      have hsp : a.spot = none ∧ a.block < W.heap.size := by
        have c0 := (hq 0 (by omega)).1.1
        rw [addzC, Nat.zero_mul, addzC] at c0
        exact cell_plainC c0
      obtain ⟨bk, off, spot⟩ := a
      obtain ⟨e1, e2⟩ := hsp
      simp only at e1 e2
      subst e1
      refine ⟨(List.range len).map q, ⟨_, cap, by simp, by simpa using hl, .inr ⟨bk, off, rfl, e2, fun k y hy => ?_⟩⟩, fun f hf => ?_, by simp; omega⟩
      · rw [List.getElem?_map] at hy
        obtain ⟨k', h1, h2⟩ := Option.map_eq_some_iff.1 hy
        obtain ⟨h3, h4⟩ := List.getElem?_eq_some_iff.1 h1
        simp at h3 h4
        subst h4; subst h2
        obtain ⟨c0, c1, c2, c3⟩ := (hq k h3).1
        rw [Addr.add_lit, Addr.add_lit] at c0 c1 c2
        exact ⟨c0, c1, c2, c3⟩
      · obtain ⟨i, hi, rfl⟩ := List.mem_map.1 hf
        exact (hq i (List.mem_range.1 hi)).2
set_option maxRecDepth 100000 in
theorem open_tiesC {W : World} {b : Nat} {sp : Nat → Bool} {hd : Bool} {n : Nat} {v : Value} {x : DataW H × List MemPlace} (h : DataW.trod enc Tryz.prog W b sp hd n 27 [v] = some x) : ∃ T, IsT W v T ∧ SzT T ∧ T.length ≤ maxLen := by
  rcases open_slice Tryz.underlying27 h with ⟨hc, _⟩ | ⟨a, len, cap, m, n, D, Pl, hc, hb, hl, hm, hmm, _, hall⟩
  · simp only [List.cons.injEq, and_true] at hc
    exact ⟨[], ⟨none, 0, hc, Nat.le_refl _, .inl rfl⟩, fun f hf => by simp at hf, by decide⟩
  · simp only [List.cons.injEq, and_true] at hc
    subst hc
    have hlm : len ≤ m := by rw [hmm]; split <;> omega
    by_cases h0 : len = 0
    · subst h0
      exact ⟨[], ⟨some a, cap, rfl, Nat.zero_le _, .inl rfl⟩, fun f hf => by simp at hf, by decide⟩
    · have each : ∀ i, i < len → ∃ f : Te, (W.cell? ((a.add (i * 3)).add 0) = some (.string f.bd) ∧ W.cell? ((a.add (i * 3)).add 1) = some (.int .i64 f.fr) ∧ W.cell? ((a.add (i * 3)).add 2) = some (.int .i64 f.tt)) ∧ f.bd.size ≤ maxLen := by
        intro i hi
        obtain ⟨cs', h1, h2⟩ := hall i (by omega)
        rw [cells31G] at h1
        obtain ⟨_, hlen, hcell⟩ := World.cells?_some h1
        obtain ⟨y0, y1, y2, k, hxy, _, u0, u1, u2⟩ := trod_struct3 Tryz.underlying54 h2
        match cs', hlen with
        | [v0, v1, v2], _ =>
          simp only [cells9C, cells3C, List.drop, List.take] at u0 u1 u2
          obtain ⟨s0, e0, d0, z0⟩ := DataW.trod_string Tryz.underlying9 u0
          obtain ⟨q1, e1, d1, _⟩ := DataW.trod_int Tryz.underlying3 u1
          obtain ⟨q2, e2, d2, _⟩ := DataW.trod_int Tryz.underlying3 u2
          simp only [List.cons.injEq, and_true] at e0 e1 e2
          subst e0; subst e1; subst e2
          have c0 := hcell 0 (by omega)
          have c1 := hcell 1 (by omega)
          have c2 := hcell 2 (by omega)
          exact ⟨⟨s0, q1, q2⟩, ⟨by simpa using c0, by simpa using c1, by simpa using c2⟩, z0⟩
      haveI : Inhabited Te := ⟨⟨⟨#[]⟩, 0, 0⟩⟩
      obtain ⟨q, hq⟩ := choose_lt each
      have hsp : a.spot = none ∧ a.block < W.heap.size := by
        have c0 := (hq 0 (by omega)).1.1
        rw [addzC, Nat.zero_mul, addzC] at c0
        exact cell_plainC c0
      obtain ⟨bk, off, spot⟩ := a
      obtain ⟨e1, e2⟩ := hsp
      simp only at e1 e2
      subst e1
      refine ⟨(List.range len).map q, ⟨_, cap, by simp, by simpa using hl, .inr ⟨bk, off, rfl, e2, fun k y hy => ?_⟩⟩, fun f hf => ?_, by simp; omega⟩
      · rw [List.getElem?_map] at hy
        obtain ⟨k', h1, h2⟩ := Option.map_eq_some_iff.1 hy
        obtain ⟨h3, h4⟩ := List.getElem?_eq_some_iff.1 h1
        simp at h3 h4
        subst h4; subst h2
        obtain ⟨c0, c1, c2⟩ := (hq k h3).1
        rw [Addr.add_lit, Addr.add_lit] at c0 c1 c2
        exact ⟨c0, c1, c2⟩
      · obtain ⟨i, hi, rfl⟩ := List.mem_map.1 hf
        exact (hq i (List.mem_range.1 hi)).2
set_option maxRecDepth 100000 in
theorem open_graphC {W : World} {r : Reach} {b0 b : Nat} {sp : Nat → Bool} {hd : Bool} {v : Value} {d : DataW H} {p : List MemPlace} (hv : Value.okWide Tryz.prog W r b0 29 v) (h : DataW.Trod enc Tryz.prog W b sp hd 29 v d p) :
    ∃ N T, IsG W v N T := by
  simp only [Value.okWide, Tryz.underlying29] at hv
  obtain ⟨cs, rfl, hcs, ts, hts, _, hrow⟩ := hv
  rw [cells25G] at hcs
  obtain rfl := Option.some.inj (types25G.symm.trans hts)
  obtain ⟨l⟩ := cs
  match l, hcs with
  | [vk, vb], _ =>
    obtain ⟨t0, e0, w0⟩ := hrow 0 vk rfl
    obtain ⟨t1, e1, w1⟩ := hrow 1 vb rfl
    obtain rfl : 26 = t0 := by simpa using e0
    obtain rfl : 27 = t1 := by simpa using e1
    have o0 : Value.okWide Tryz.prog W r b0 26 vk := by simp only [Value.okWide, Tryz.underlying26]; exact w0
    have o1 : Value.okWide Tryz.prog W r b0 27 vb := by simp only [Value.okWide, Tryz.underlying27]; exact w1
    obtain ⟨a0, l0, c0, rfl⟩ := okWide_slice Tryz.underlying26 o0
    obtain ⟨a1, l1, c1, rfl⟩ := okWide_slice Tryz.underlying27 o1
    obtain ⟨fuel, hf⟩ := h
    have hf' : DataW.trod enc Tryz.prog W b sp hd fuel 29 [.slice a0 l0 c0, .slice a1 l1 c1] = some (d, p) := by simpa [Value.cells] using hf
    obtain ⟨y0, y1, k, _, _, u0, u1⟩ := trod_struct2 Tryz.underlying29 hf'
    simp only [cells22G, cells23G, List.drop, List.take] at u0 u1
    obtain ⟨N, h1, h2, h3⟩ := open_nodesC u0
    obtain ⟨T, h4, h5, h6⟩ := open_tiesC u1
    exact ⟨N, T, _, _, rfl, h1, h4, h2, h5, h3, h6⟩
end
end Go.Proofs.YtifhigajonafdaaGreat
