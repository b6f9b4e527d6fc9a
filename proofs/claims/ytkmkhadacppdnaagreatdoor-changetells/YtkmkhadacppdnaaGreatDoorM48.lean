/-
  A schema as a parameter.
-/
import Derived.Test.YtkmkhadacppdnaaGreatDoorRows
import Derived.Test.YtkmkhadacppdnaaGreatDoorM43
import Derived.ProofKit
import Derived.LaidMore
import Derived.OpenShut
import Derived.ShutString
import Derived.ChangeMaps5
import Derived.Stop.Joined
import Derived.Stop.LaidErr
import Derived.Lib.SmallJoins
import Derived.Carry
import Derived.SizedLaws
import Derived.MakeChecks
import Derived.Deep.Slices
import Derived.Deep.Strs
import Derived.Test.YtkmkhadacppdnaaGreatDoorM12
import Derived.Test.YtkmkhadacppdnaaGreatDoorM25
namespace Go.Proofs.YtkmkhadacppdnaaGreatDoor
open Go.ChangeShapes Go.WideShapes Go.ChangeAt Go.RowKit Go.Joins Go.Deep
open Go.ChangeMaps (open_string shut_string)
set_option linter.unusedVariables false
set_option linter.unusedSimpArgs false

/-- The value is this schema. -/
def IsSc (w : World) (v : Value) (L : List Kd) (B : List Bd) : Prop := ∃ vk vb, v = .agg #[vk, vb] ∧ IsK w vk L ∧ Parts w L ∧ SzK L ∧ IsB w vb B ∧ SzB B
theorem own : ownKnob Tryz.prog.godebug = none := by kernel_rfl
theorem laidOut : laidOutB Tryz.prog = true := by kernel_rfl
theorem cells28 : Tryz.prog.cellsOf 29 = 3 := by kernel_rfl
theorem cells26 : Tryz.prog.cellsOf 26 = 1 := by kernel_rfl
theorem cells25 : Tryz.prog.cellsOf 27 = 1 := by kernel_rfl
theorem cells24 : Tryz.prog.cellsOf 33 = 4 := by kernel_rfl
theorem cells9 : Tryz.prog.cellsOf 9 = 1 := by kernel_rfl
theorem cells3 : Tryz.prog.cellsOf 3 = 1 := by kernel_rfl
theorem cells4 : Tryz.prog.cellsOf 4 = 1 := by kernel_rfl

theorem cells44 : Tryz.prog.cellsOf 31 = 5 := by kernel_rfl
theorem cells22 : Tryz.prog.cellsOf 22 = 1 := by kernel_rfl
theorem cells23 : Tryz.prog.cellsOf 23 = 1 := by kernel_rfl
theorem cellsS25 : Tryz.prog.cellsOf 25 = 2 := by kernel_rfl
theorem types25 : Tryz.prog.cellTypes Tryz.prog.depth 25 = some [22, 23] := by kernel_rfl
/-- A cell that is there has no spot, and its block is there. -/
theorem cell_plain {W : World} {a : Addr} {u : Value} (h : W.cell? a = some u) : a.spot = none ∧ a.block < W.heap.size := by
  refine ⟨?_, World.block_lt_of_cell? W _ h⟩
  obtain ⟨bk, off, spot⟩ := a
  cases spot with
  | none => rfl
  | some sp =>
    exfalso
    unfold World.cell? at h
    split at h
    · simp at h
    · cases h
theorem addz (a : Addr) : a.add 0 = a := by simp [Addr.add]

section
variable {H : Type} {enc : TypeId × Value → H}
set_option maxRecDepth 100000 in
/-- Four cells that read as a field. -/
theorem cells_field {W : World} {b : Nat} {sp : Nat → Bool} {hd : Bool} {n : Nat} {cs : List Value} {x : DataW H × List MemPlace} (hlen : cs.length = 4) (h : DataW.trod enc Tryz.prog W b sp hd n 33 cs = some x) :
    ∃ f : Fd, cs = f.cells ∧ f.nm.length ≤ maxLen := by
  obtain ⟨y0, y1, y2, y3, k, hxy, _, u0, u1, u2, u3⟩ := trod_struct4 Tryz.underlying33 h
  match cs, hlen with
  | [v0, v1, v2, v3], _ =>
    simp only [cells9, cells3, cells4, List.drop, List.take] at u0 u1 u2 u3
    obtain ⟨s0, e0, d0, z0⟩ := DataW.trod_string Tryz.underlying9 u0
    obtain ⟨q1, e1, d1, _⟩ := DataW.trod_int Tryz.underlying3 u1
    obtain ⟨b2, e2, _⟩ := DataW.trod_bool Tryz.underlying4 u2
    obtain ⟨b3, e3, _⟩ := DataW.trod_bool Tryz.underlying4 u3
    simp only [List.cons.injEq, and_true] at e0 e1 e2 e3
    subst e0; subst e1; subst e2; subst e3
    refine ⟨⟨s0.toList, q1, b2, b3⟩, ?_, ?_⟩
    · simp [Fd.cells, bs_self]
    · show s0.toList.length ≤ maxLen
      rw [Lib.toList_data, ← size_len]; exact z0
/-- A slice of names within. -/
theorem open_names {W : World} {b : Nat} {sp : Nat → Bool} {hd : Bool} {n : Nat} {v : Value} {x : DataW H × List MemPlace} (h : DataW.trod enc Tryz.prog W b sp hd n 26 [v] = some x) : ∃ l, IsS W v l := by
  rcases open_slice Tryz.underlying26 h with ⟨hc, _⟩ | ⟨a, len, cap, m, n, D, Pl, hc, hb, hl, hm, hmm, _, hall⟩
  · simp only [List.cons.injEq, and_true] at hc
    exact ⟨[], .inl ⟨none, 0, hc, rfl, by decide, fun _ => rfl⟩⟩
  · simp only [List.cons.injEq, and_true] at hc
    subst hc
    have hlm : len ≤ m := by rw [hmm]; split <;> omega
    by_cases h0 : len = 0
    · subst h0
      exact ⟨[], .inl ⟨some a, cap, rfl, rfl, hm, fun e => by cases e⟩⟩
    · have each : ∀ i, i < len → ∃ q : Nm, W.cell? (a.add i) = some (.string (bs q)) := by
        intro i hi
        obtain ⟨cs', h1, h2⟩ := hall i (by omega)
        rw [cells9, Nat.mul_one] at h1
        obtain ⟨_, hlen, hcell⟩ := World.cells?_some h1
        obtain ⟨s, rfl, _⟩ := DataW.trod_string Tryz.underlying9 h2
        have c0 := hcell 0 (by omega)
        refine ⟨s.toList, ?_⟩
        rw [bs_self]
        rw [addz] at c0
        simpa using c0
      obtain ⟨q, hq⟩ := choose_lt each
      have q0 := hq 0 (by omega)
      rw [addz] at q0
      obtain ⟨e1, e2⟩ := cell_plain q0
      obtain ⟨bk, off, spot⟩ := a
      simp only at e1 e2
      subst e1
      refine ⟨(List.range len).map q, .inr ⟨bk, off, cap, by simp, by simpa using hl, hm, e2, fun k y hy => ?_⟩⟩
      rw [List.getElem?_map] at hy
      obtain ⟨k', h1, h2⟩ := Option.map_eq_some_iff.1 hy
      obtain ⟨h3, h4⟩ := List.getElem?_eq_some_iff.1 h1
      simp at h3 h4
      subst h4; subst h2
      have := hq k h3
      rwa [Addr.add_lit] at this
/-- A slice of fields within. -/
theorem open_fields {W : World} {b : Nat} {sp : Nat → Bool} {hd : Bool} {n : Nat} {v : Value} {x : DataW H × List MemPlace} (h : DataW.trod enc Tryz.prog W b sp hd n 27 [v] = some x) : ∃ l, IsF W v l ∧ ∀ f ∈ l, f.nm.length ≤ maxLen := by
  rcases open_slice Tryz.underlying27 h with ⟨hc, _⟩ | ⟨a, len, cap, m, n, D, Pl, hc, hb, hl, hm, hmm, _, hall⟩
  · simp only [List.cons.injEq, and_true] at hc
    exact ⟨[], .inl ⟨none, 0, hc, rfl, by decide, fun _ => rfl⟩, fun f hf => by simp at hf⟩
  · simp only [List.cons.injEq, and_true] at hc
    subst hc
    have hlm : len ≤ m := by rw [hmm]; split <;> omega
    by_cases h0 : len = 0
    · subst h0
      exact ⟨[], .inl ⟨some a, cap, rfl, rfl, hm, fun e => by cases e⟩, fun f hf => by simp at hf⟩
    · have each : ∀ i, i < len → ∃ f : Fd, (∀ j, j < 4 → W.cell? ((a.add (i * 4)).add j) = f.cells[j]?) ∧ f.nm.length ≤ maxLen := by
        intro i hi
        obtain ⟨cs', h1, h2⟩ := hall i (by omega)
        rw [cells24] at h1
        obtain ⟨_, hlen, hcell⟩ := World.cells?_some h1
        obtain ⟨f, rfl, z⟩ := cells_field hlen h2
        exact ⟨f, hcell, z⟩
      haveI : Inhabited Fd := ⟨⟨[], 0, false, false⟩⟩
      obtain ⟨q, hq⟩ := choose_lt each
      have hsp : a.spot = none ∧ a.block < W.heap.size := by
        have c0 := (hq 0 (by omega)).1 0 (by decide)
        rw [addz, Nat.zero_mul, addz] at c0
        exact cell_plain (c0.trans rfl)
      obtain ⟨bk, off, spot⟩ := a
      obtain ⟨e1, e2⟩ := hsp
      simp only at e1 e2
      subst e1
      refine ⟨(List.range len).map q, .inr ⟨bk, off, cap, by simp, by simpa using hl, hm, e2, fun k y hy => ?_⟩, fun f hf => ?_⟩
      · rw [List.getElem?_map] at hy
        obtain ⟨k', h1, h2⟩ := Option.map_eq_some_iff.1 hy
        obtain ⟨h3, h4⟩ := List.getElem?_eq_some_iff.1 h1
        simp at h3 h4
        subst h4; subst h2
        have hh := (hq k h3).1
        have c0 := hh 0 (by decide)
        have c1 := hh 1 (by decide)
        have c2 := hh 2 (by decide)
        have c3 := hh 3 (by decide)
        rw [Addr.add_lit, Addr.add_lit] at c0 c1 c2 c3
        exact ⟨by simpa [Fd.cells] using c0, by simpa [Fd.cells] using c1, by simpa [Fd.cells] using c2, by simpa [Fd.cells] using c3⟩
      · obtain ⟨i, hi, rfl⟩ := List.mem_map.1 hf
        exact (hq i (List.mem_range.1 hi)).2
theorem shape_lt {W : World} {b : Nat} {x : TypeId × Nat} (h : W.shape? b = some x) : b < W.heap.size := by
  rcases Nat.lt_or_ge b W.heap.size with h1 | h1
  · exact h1
  · exfalso
    simp [World.shape?, Array.getElem?_eq_none h1] at h
set_option maxRecDepth 100000 in
/-- Kinds that came in. -/
theorem open_kinds {W : World} {r : Reach} {b0 b : Nat} {sp : Nat → Bool} {hd : Bool} {v : Value} {d : DataW H} {p : List MemPlace} (hv : Value.okWide Tryz.prog W r b0 22 v) (h : DataW.Trod enc Tryz.prog W b sp hd 22 v d p) :
    ∃ L, IsK W v L ∧ Parts W L ∧ SzK L := by
  obtain ⟨a, len, cap, rfl⟩ := okWide_slice Tryz.underlying22 hv
  obtain ⟨fuel, hf⟩ := h
  have hf' : DataW.trod enc Tryz.prog W b sp hd fuel 22 [.slice a len cap] = some (d, p) := by simpa [Value.cells] using hf
  rcases open_slice Tryz.underlying22 hf' with ⟨hc, _⟩ | ⟨a', len', cap', m, n, D, Pl, hc, hb, hl, hm, hmm, _, hall⟩
  · simp only [List.cons.injEq, and_true] at hc
    exact ⟨[], .inl ⟨hc, rfl⟩, fun q hq => by simp at hq, fun q hq => by simp at hq⟩
  · simp only [List.cons.injEq, and_true, Value.slice.injEq] at hc
    obtain ⟨rfl, rfl, rfl⟩ := hc
    have hlm : len ≤ m := by rw [hmm]; split <;> omega
    simp only [Value.okWide, Tryz.underlying22, Cell.okWide, Cell.ok] at hv
    obtain ⟨_, _, _, hsp, row, cells, hsh, _⟩ := hv
    have hlt := shape_lt hsh
    obtain ⟨bk, off, spot⟩ := a'
    simp only at hsp hlt
    subst hsp
    have each : ∀ i, i < len → ∃ q : Kd, (W.cell? ⟨bk, off + i * 3, none⟩ = some (.string (bs q.nm)) ∧ W.cell? ⟨bk, off + i * 3 + 1, none⟩ = some q.vo ∧ W.cell? ⟨bk, off + i * 3 + 2, none⟩ = some q.vf) ∧ (IsS W q.vo q.of ∧ IsF W q.vf q.fs) ∧ (q.nm.length ≤ maxLen ∧ ∀ f ∈ q.fs, f.nm.length ≤ maxLen) := by
      intro i hi
      obtain ⟨cs', h1, h2⟩ := hall i (by omega)
      rw [cells28] at h1
      obtain ⟨_, hlen, hcell⟩ := World.cells?_some h1
      obtain ⟨y0, y1, y2, k, hxy, _, u0, u1, u2⟩ := trod_struct3 Tryz.underlying29 h2
      match cs', hlen with
      | [v0, v1, v2], _ =>
        simp only [cells9, cells26, cells25, List.drop, List.take] at u0 u1 u2
        obtain ⟨s0, e0, d0, z0⟩ := DataW.trod_string Tryz.underlying9 u0
        simp only [List.cons.injEq, and_true] at e0
        subst e0
        obtain ⟨lo1, hS⟩ := open_names u1
        obtain ⟨lf, hF, hZ⟩ := open_fields u2
        have c0 := hcell 0 (by omega)
        have c1 := hcell 1 (by omega)
        have c2 := hcell 2 (by omega)
        rw [Addr.add_lit, Addr.add_lit] at c0 c1 c2
        refine ⟨⟨s0.toList, lo1, lf, v1, v2⟩, ⟨?_, by simpa using c1, by simpa using c2⟩, ⟨hS, hF⟩, ?_, hZ⟩
        · show _ = some (Value.string (bs s0.toList))
          rw [bs_self]; simpa using c0
        · show s0.toList.length ≤ maxLen
          rw [Lib.toList_data, ← size_len]; exact z0
    haveI : Inhabited Kd := ⟨⟨[], [], [], .nilIface, .nilIface⟩⟩
    obtain ⟨q, hq⟩ := choose_lt each
    refine ⟨(List.range len).map q, .inr ⟨bk, off, cap, by simp, by simpa using hl, hm, hlt, fun k x hx => ?_⟩, fun x hx => ?_, fun x hx => ?_⟩
    · rw [List.getElem?_map] at hx
      obtain ⟨k', h1, h2⟩ := Option.map_eq_some_iff.1 hx
      obtain ⟨h3, h4⟩ := List.getElem?_eq_some_iff.1 h1
      simp at h3 h4
      subst h4; subst h2
      exact (hq k h3).1
    · obtain ⟨i, hi, rfl⟩ := List.mem_map.1 hx
      exact (hq i (List.mem_range.1 hi)).2.1
    · obtain ⟨i, hi, rfl⟩ := List.mem_map.1 hx
      exact (hq i (List.mem_range.1 hi)).2.2
/-- Of a struct of five. -/
theorem trod_five {W : World} {b : Nat} {sp : Nat → Bool} {hd : Bool} {t : TypeId} {f0 f1 f2 f3 f4 : Field} {fuel : Nat} {cs : List Value} {x : DataW H × List MemPlace} (ht : Tryz.prog.underlying t = some (.struct #[f0, f1, f2, f3, f4])) (h : DataW.trod enc Tryz.prog W b sp hd fuel t cs = some x) :
    ∃ y0 y1 y2 y3 y4 n, DataW.trod enc Tryz.prog W b sp hd n f0.type ((cs.drop f0.offset).take (Tryz.prog.cellsOf f0.type)) = some y0 ∧ DataW.trod enc Tryz.prog W b sp hd n f1.type ((cs.drop f1.offset).take (Tryz.prog.cellsOf f1.type)) = some y1 ∧ DataW.trod enc Tryz.prog W b sp hd n f2.type ((cs.drop f2.offset).take (Tryz.prog.cellsOf f2.type)) = some y2 ∧ DataW.trod enc Tryz.prog W b sp hd n f3.type ((cs.drop f3.offset).take (Tryz.prog.cellsOf f3.type)) = some y3 ∧ DataW.trod enc Tryz.prog W b sp hd n f4.type ((cs.drop f4.offset).take (Tryz.prog.cellsOf f4.type)) = some y4 := by
  obtain ⟨xs, n, _, _, _, hxl, hf⟩ := DataW.trod_struct ht h
  match xs, hxl with
  | [y0, y1, y2, y3, y4], _ => exact ⟨y0, y1, y2, y3, y4, n, hf 0 f0 rfl, hf 1 f1 rfl, hf 2 f2 rfl, hf 3 f3 rfl, hf 4 f4 rfl⟩
set_option maxRecDepth 100000 in
/-- Bonds that came in. -/
theorem open_bonds {W : World} {r : Reach} {b0 b : Nat} {sp : Nat → Bool} {hd : Bool} {v : Value} {d : DataW H} {p : List MemPlace} (hv : Value.okWide Tryz.prog W r b0 23 v) (h : DataW.Trod enc Tryz.prog W b sp hd 23 v d p) :
    ∃ L, IsB W v L ∧ SzB L := by
  obtain ⟨a, len, cap, rfl⟩ := okWide_slice Tryz.underlying23 hv
  obtain ⟨fuel, hf⟩ := h
  have hf' : DataW.trod enc Tryz.prog W b sp hd fuel 23 [.slice a len cap] = some (d, p) := by simpa [Value.cells] using hf
  rcases open_slice Tryz.underlying23 hf' with ⟨hc, _⟩ | ⟨a', len', cap', m, n, D, Pl, hc, hb, hl, hm, hmm, _, hall⟩
  · simp only [List.cons.injEq, and_true] at hc
    exact ⟨[], .inl ⟨hc, rfl⟩, fun q hq => by simp at hq⟩
  · simp only [List.cons.injEq, and_true, Value.slice.injEq] at hc
    obtain ⟨rfl, rfl, rfl⟩ := hc
    have hlm : len ≤ m := by rw [hmm]; split <;> omega
    simp only [Value.okWide, Tryz.underlying23, Cell.okWide, Cell.ok] at hv
    obtain ⟨_, _, _, hsp, row, cells, hsh, _⟩ := hv
    have hlt := shape_lt hsh
    obtain ⟨bk, off, spot⟩ := a'
    simp only at hsp hlt
    subst hsp
    have each : ∀ i, i < len → ∃ q : Bd, (W.cell? ⟨bk, off + i * 5, none⟩ = some (.string (bs q.nm)) ∧ W.cell? ⟨bk, off + i * 5 + 1, none⟩ = some (.string (bs q.fr)) ∧ W.cell? ⟨bk, off + i * 5 + 2, none⟩ = some (.string (bs q.tt)) ∧ W.cell? ⟨bk, off + i * 5 + 3, none⟩ = some (.int .i64 q.mn) ∧ W.cell? ⟨bk, off + i * 5 + 4, none⟩ = some (.int .i64 q.mx)) ∧ q.nm.length ≤ maxLen := by
      intro i hi
      obtain ⟨cs', h1, h2⟩ := hall i (by omega)
      rw [cells44] at h1
      obtain ⟨_, hlen, hcell⟩ := World.cells?_some h1
      obtain ⟨y0, y1, y2, y3, y4, k, u0, u1, u2, u3, u4⟩ := trod_five Tryz.underlying31 h2
      match cs', hlen with
      | [v0, v1, v2, v3, v4], _ =>
        simp only [cells9, cells3, List.drop, List.take] at u0 u1 u2 u3 u4
        obtain ⟨s0, e0, d0, z0⟩ := DataW.trod_string Tryz.underlying9 u0
        obtain ⟨s1, e1, d1, z1⟩ := DataW.trod_string Tryz.underlying9 u1
        obtain ⟨s2, e2, d2, z2⟩ := DataW.trod_string Tryz.underlying9 u2
        obtain ⟨q3, e3, d3, _⟩ := DataW.trod_int Tryz.underlying3 u3
        obtain ⟨q4, e4, d4, _⟩ := DataW.trod_int Tryz.underlying3 u4
        simp only [List.cons.injEq, and_true] at e0 e1 e2 e3 e4
        subst e0; subst e1; subst e2; subst e3; subst e4
        have c0 := hcell 0 (by omega)
        have c1 := hcell 1 (by omega)
        have c2 := hcell 2 (by omega)
        have c3 := hcell 3 (by omega)
        have c4 := hcell 4 (by omega)
        rw [Addr.add_lit, Addr.add_lit] at c0 c1 c2 c3 c4
        refine ⟨⟨s0.toList, s1.toList, s2.toList, q3, q4⟩, ⟨?_, ?_, ?_, by simpa using c3, by simpa using c4⟩, ?_⟩
        · show _ = some (Value.string (bs s0.toList))
          rw [bs_self]; simpa using c0
        · show _ = some (Value.string (bs s1.toList))
          rw [bs_self]; simpa using c1
        · show _ = some (Value.string (bs s2.toList))
          rw [bs_self]; simpa using c2
        · show s0.toList.length ≤ maxLen
          rw [Lib.toList_data, ← size_len]; exact z0
    haveI : Inhabited Bd := ⟨⟨[], [], [], 0, 0⟩⟩
    obtain ⟨q, hq⟩ := choose_lt each
    refine ⟨(List.range len).map q, .inr ⟨bk, off, cap, by simp, by simpa using hl, hm, hlt, fun k x hx => ?_⟩, fun x hx => ?_⟩
    · rw [List.getElem?_map] at hx
      obtain ⟨k', h1, h2⟩ := Option.map_eq_some_iff.1 hx
      obtain ⟨h3, h4⟩ := List.getElem?_eq_some_iff.1 h1
      simp at h3 h4
      subst h4; subst h2
      exact (hq k h3).1
    · obtain ⟨i, hi, rfl⟩ := List.mem_map.1 hx
      exact (hq i (List.mem_range.1 hi)).2
set_option maxRecDepth 100000 in
/-- A schema that came in. -/
theorem open_schema {W : World} {r : Reach} {b0 b : Nat} {sp : Nat → Bool} {hd : Bool} {v : Value} {d : DataW H} {p : List MemPlace} (hv : Value.okWide Tryz.prog W r b0 25 v) (h : DataW.Trod enc Tryz.prog W b sp hd 25 v d p) :
    ∃ L B, IsSc W v L B := by
  simp only [Value.okWide, Tryz.underlying25] at hv
  obtain ⟨cs, rfl, hcs, ts, hts, _, hrow⟩ := hv
  rw [cellsS25] at hcs
  obtain rfl := Option.some.inj (types25.symm.trans hts)
  obtain ⟨l⟩ := cs
  match l, hcs with
  | [vk, vb], _ =>
    obtain ⟨t0, e0, w0⟩ := hrow 0 vk rfl
    obtain ⟨t1, e1, w1⟩ := hrow 1 vb rfl
    obtain rfl : 22 = t0 := by simpa using e0
    obtain rfl : 23 = t1 := by simpa using e1
    have o0 : Value.okWide Tryz.prog W r b0 22 vk := by simp only [Value.okWide, Tryz.underlying22]; exact w0
    have o1 : Value.okWide Tryz.prog W r b0 23 vb := by simp only [Value.okWide, Tryz.underlying23]; exact w1
    obtain ⟨a0, l0, c0, rfl⟩ := okWide_slice Tryz.underlying22 o0
    obtain ⟨a1, l1, c1, rfl⟩ := okWide_slice Tryz.underlying23 o1
    obtain ⟨fuel, hf⟩ := h
    have hf' : DataW.trod enc Tryz.prog W b sp hd fuel 25 [.slice a0 l0 c0, .slice a1 l1 c1] = some (d, p) := by simpa [Value.cells] using hf
    obtain ⟨y0, y1, k, _, _, u0, u1⟩ := trod_struct2 Tryz.underlying25 hf'
    simp only [cells22, cells23, List.drop, List.take] at u0 u1
    obtain ⟨L, h1, h2, h3⟩ := open_kinds (d := y0.1) (p := y0.2) o0 ⟨k, by simpa [Value.cells] using u0⟩
    obtain ⟨B, h4, h5⟩ := open_bonds (d := y1.1) (p := y1.2) o1 ⟨k, by simpa [Value.cells] using u1⟩
    exact ⟨L, B, _, _, rfl, h1, h2, h3, h4, h5⟩
end
end Go.Proofs.YtkmkhadacppdnaaGreatDoor

/-
  A change as a parameter.
-/
namespace Go.Proofs.YtkmkhadacppdnaaGreatDoor
open Go.ChangeShapes Go.WideShapes Go.ChangeAt Go.RowKit Go.Joins Go.Deep
open Go.ChangeMaps (open_string shut_string)
set_option linter.unusedVariables false
set_option linter.unusedSimpArgs false

theorem cells37 : Tryz.prog.cellsOf 37 = 18 := by kernel_rfl
theorem cells29 : Tryz.prog.cellsOf 29 = 3 := by kernel_rfl
theorem cells31 : Tryz.prog.cellsOf 31 = 5 := by kernel_rfl
theorem cells33 : Tryz.prog.cellsOf 33 = 4 := by kernel_rfl
theorem cells35 : Tryz.prog.cellsOf 35 = 3 := by kernel_rfl
theorem cellsN26 : Tryz.prog.cellsOf 26 = 1 := by kernel_rfl
theorem cellsN27 : Tryz.prog.cellsOf 27 = 1 := by kernel_rfl
theorem bytes9 : Tryz.prog.bytesOf 9 = 16 := by kernel_rfl
theorem bytes33 : Tryz.prog.bytesOf 33 = 32 := by kernel_rfl
theorem reach47 : reachBytes ≤ 140737488355328 := by decide
section
variable {H : Type} {enc : TypeId × Value → H}
/-- How long a slice within may be. -/
theorem len_within {W : World} {b : Nat} {sp : Nat → Bool} {hd : Bool} {n : Nat} {t e : TypeId} {v : Value} {x : DataW H × List MemPlace} (ht : Tryz.prog.underlying t = some (.slice e)) (h : DataW.trod enc Tryz.prog W b sp hd n t [v] = some x) (hw : ∀ k ∈ x.1.weights Tryz.prog t, k ≤ reachBytes) :
    ∃ ao len cp, v = .slice ao len cp ∧ len * Tryz.prog.bytesOf e ≤ reachBytes := by
  rcases DataW.trod_slice ht h with ⟨hc, _⟩ | ⟨a, len, cap, elems, rest, m, _, hc, hx, _, _, _, hl, _⟩
  · simp only [List.cons.injEq, and_true] at hc
    exact ⟨none, 0, 0, hc, by simp⟩
  · simp only [List.cons.injEq, and_true] at hc
    refine ⟨some a, len, cap, hc, ?_⟩
    have := hw ((elems.length + rest.length) * Tryz.prog.bytesOf e) (by rw [hx]; simp [DataW.weights, ht])
    rw [hl] at this
    exact Nat.le_trans (Nat.mul_le_mul_right _ (Nat.le_add_right _ _)) this
/-- Of a struct of seven. -/
theorem trod_seven {W : World} {b : Nat} {sp : Nat → Bool} {hd : Bool} {t : TypeId} {f0 f1 f2 f3 f4 f5 f6 : Field} {fuel : Nat} {cs : List Value} {x : DataW H × List MemPlace} (ht : Tryz.prog.underlying t = some (.struct #[f0, f1, f2, f3, f4, f5, f6])) (h : DataW.trod enc Tryz.prog W b sp hd fuel t cs = some x) :
    ∃ y0 y1 y2 y3 y4 y5 y6 n, x.1 = .agg [y0.1, y1.1, y2.1, y3.1, y4.1, y5.1, y6.1] ∧ DataW.trod enc Tryz.prog W b sp hd n f0.type ((cs.drop f0.offset).take (Tryz.prog.cellsOf f0.type)) = some y0 ∧ DataW.trod enc Tryz.prog W b sp hd n f1.type ((cs.drop f1.offset).take (Tryz.prog.cellsOf f1.type)) = some y1 ∧ DataW.trod enc Tryz.prog W b sp hd n f2.type ((cs.drop f2.offset).take (Tryz.prog.cellsOf f2.type)) = some y2 ∧ DataW.trod enc Tryz.prog W b sp hd n f3.type ((cs.drop f3.offset).take (Tryz.prog.cellsOf f3.type)) = some y3 ∧ DataW.trod enc Tryz.prog W b sp hd n f4.type ((cs.drop f4.offset).take (Tryz.prog.cellsOf f4.type)) = some y4 ∧ DataW.trod enc Tryz.prog W b sp hd n f5.type ((cs.drop f5.offset).take (Tryz.prog.cellsOf f5.type)) = some y5 ∧ DataW.trod enc Tryz.prog W b sp hd n f6.type ((cs.drop f6.offset).take (Tryz.prog.cellsOf f6.type)) = some y6 := by
  obtain ⟨xs, n, _, hx, _, hxl, hf⟩ := DataW.trod_struct ht h
  match xs, hxl with
  | [y0, y1, y2, y3, y4, y5, y6], _ => exact ⟨y0, y1, y2, y3, y4, y5, y6, n, congrArg (·.1) hx, hf 0 f0 rfl, hf 1 f1 rfl, hf 2 f2 rfl, hf 3 f3 rfl, hf 4 f4 rfl, hf 5 f5 rfl, hf 6 f6 rfl⟩
set_option maxRecDepth 100000 in
/-- A change that came in. -/
theorem open_change {W : World} {r : Reach} {b0 b : Nat} {sp : Nat → Bool} {hd : Bool} {v : Value} {d : DataW H} {p : List MemPlace} (hv : Value.okWide Tryz.prog W r b0 37 v) (h : DataW.Trod enc Tryz.prog W b sp hd 37 v d p) (hw : ∀ k ∈ d.weights Tryz.prog 37, k ≤ reachBytes) :
    ∃ c, v = c.one ∧ ChIs W c ∧ ChSz c := by
  simp only [Value.okWide, Tryz.underlying37] at hv
  obtain ⟨cs, rfl, hcs, _⟩ := hv
  rw [cells37] at hcs
  obtain ⟨l⟩ := cs
  match l, hcs with
  | [v0, v1, v2, v3, v4, v5, v6, v7, v8, v9, v10, v11, v12, v13, v14, v15, v16, v17], _ =>
    obtain ⟨fuel, hf⟩ := h
    have hf' : DataW.trod enc Tryz.prog W b sp hd fuel 37 [v0, v1, v2, v3, v4, v5, v6, v7, v8, v9, v10, v11, v12, v13, v14, v15, v16, v17] = some (d, p) := by simpa [Value.cells] using hf
    obtain ⟨x0, x1, x2, x3, x4, x5, x6, m, hx1, u0, u1, u2, u3, u4, u5, u6⟩ := trod_seven Tryz.underlying37 hf'
    replace hx1 : d = .agg [x0.1, x1.1, x2.1, x3.1, x4.1, x5.1, x6.1] := hx1
    simp only [cells3, cells9, cells29, cells31, cells33, cells35, List.drop, List.take] at u0 u1 u2 u3 u4 u5 u6
    have hw2 : ∀ k ∈ x2.1.weights Tryz.prog 29, k ≤ reachBytes := fun k hk => hw k (by
      rw [hx1]
      simp only [DataW.weights, Tryz.underlying37]
      exact DataW.weights_mem_each (j := 2) rfl rfl k hk)
    obtain ⟨q0, f0, _, _⟩ := DataW.trod_int Tryz.underlying3 u0
    obtain ⟨s1, f1, _, z1⟩ := DataW.trod_string Tryz.underlying9 u1
    obtain ⟨y0, y1, y2, m2, hy, _, t0, t1, t2⟩ := trod_struct3 Tryz.underlying29 u2
    simp only [cells9, cellsN26, cellsN27, List.drop, List.take] at t0 t1 t2
    have hy1 : x2.1 = .agg [y0.1, y1.1, y2.1] := by first | exact congrArg (·.1) hy | exact hy
    have hwo : ∀ k ∈ y1.1.weights Tryz.prog 26, k ≤ reachBytes := fun k hk => hw2 k (by
      rw [hy1]
      simp only [DataW.weights, Tryz.underlying29]
      exact DataW.weights_mem_each (j := 1) rfl rfl k hk)
    have hwf : ∀ k ∈ y2.1.weights Tryz.prog 27, k ≤ reachBytes := fun k hk => hw2 k (by
      rw [hy1]
      simp only [DataW.weights, Tryz.underlying29]
      exact DataW.weights_mem_each (j := 2) rfl rfl k hk)
    obtain ⟨s2, f2, _, z2⟩ := DataW.trod_string Tryz.underlying9 t0
    obtain ⟨lo1, hS⟩ := open_names t1
    obtain ⟨lf, hF, hZ⟩ := open_fields t2
    obtain ⟨ao, ln, cn, g1, g2⟩ := len_within Tryz.underlying26 t1 hwo
    obtain ⟨af, lm, cm, g3, g4⟩ := len_within Tryz.underlying27 t2 hwf
    rw [bytes9] at g2
    rw [bytes33] at g4
    have e1 : lo1.length = ln := by
      obtain ⟨a, c, e, _⟩ := hS.sln
      rw [g1] at e
      injection e with _ e
      exact e.symm
    have e2 : lf.length = lm := by
      obtain ⟨a, c, e, _⟩ := hF.sln
      rw [g3] at e
      injection e with _ e
      exact e.symm
    obtain ⟨r0, r1, r2, r3, r4, m3, w0, w1, w2, w3, w4⟩ := trod_five Tryz.underlying31 u3
    simp only [cells9, cells3, List.drop, List.take] at w0 w1 w2 w3 w4
    obtain ⟨s5, f5, _, z5⟩ := DataW.trod_string Tryz.underlying9 w0
    obtain ⟨s6, f6, _, _⟩ := DataW.trod_string Tryz.underlying9 w1
    obtain ⟨s7, f7, _, _⟩ := DataW.trod_string Tryz.underlying9 w2
    obtain ⟨q8, f8, _, _⟩ := DataW.trod_int Tryz.underlying3 w3
    obtain ⟨q9, f9, _, _⟩ := DataW.trod_int Tryz.underlying3 w4
    obtain ⟨fd, f10, z10⟩ := cells_field rfl u4
    obtain ⟨k0, k1, k2, m5, _, _, j0, j1, j2⟩ := trod_struct3 Tryz.underlying35 u5
    simp only [cells9, cells3, List.drop, List.take] at j0 j1 j2
    obtain ⟨q14, f14, _, _⟩ := DataW.trod_int Tryz.underlying3 j0
    obtain ⟨q15, f15, _, _⟩ := DataW.trod_int Tryz.underlying3 j1
    obtain ⟨s16, f16, _, z16⟩ := DataW.trod_string Tryz.underlying9 j2
    obtain ⟨s17, f17, _, z17⟩ := DataW.trod_string Tryz.underlying9 u6
    simp only [List.cons.injEq, and_true, Fd.cells] at f0 f1 f2 f5 f6 f7 f8 f9 f10 f14 f15 f16 f17
    obtain ⟨p1, p2, p3, p4⟩ := f10
    subst f0 f1 f2 f5 f6 f7 f8 f9 f14 f15 f16 f17 p1 p2 p3 p4
    have sz : ∀ {s : ByteArray}, s.size ≤ maxLen → s.toList.length ≤ maxLen := fun {s} hs => by rw [Lib.toList_data, ← size_len]; exact hs
    refine ⟨⟨q0, s1.toList, ⟨s2.toList, lo1, lf, v3, v4⟩, ⟨s5.toList, s6.toList, s7.toList, q8, q9⟩, fd, q14, q15, s16.toList, s17.toList⟩, ?_, ⟨hS, hF⟩, ⟨sz z2, hZ⟩, ⟨?_, ?_⟩, sz z5, z10, sz z16, sz z17⟩
    · simp [Ch.one, bs_self]
    · show lo1.length * 16 ≤ _
      rw [e1]
      exact Nat.le_trans g2 reach47
    · show lf.length * 32 ≤ _
      rw [e2]
      exact Nat.le_trans g4 reach47
end
end Go.Proofs.YtkmkhadacppdnaaGreatDoor

/-
  Changes as a parameter.
-/
namespace Go.Proofs.YtkmkhadacppdnaaGreatDoor
open Go.ChangeShapes Go.WideShapes Go.ChangeAt Go.RowKit Go.Joins Go.Deep
open Go.ChangeMaps (open_string shut_string)
set_option linter.unusedVariables false
set_option linter.unusedSimpArgs false

section
variable {H : Type} {enc : TypeId × Value → H}
theorem weightsAll_in {P : Program} {e : TypeId} : ∀ {l : List (DataW H)} {d : DataW H}, d ∈ l → ∀ n ∈ d.weights P e, n ∈ DataW.weightsAll P e l
  | x :: r, d, h, n, hn => by
    simp only [DataW.weightsAll, List.mem_append]
    rcases List.mem_cons.1 h with rfl | h
    · exact .inl hn
    · exact .inr (weightsAll_in h n hn)
set_option maxRecDepth 100000 in
/-- Eighteen cells that read as a change. -/
theorem cells_change {W : World} {b : Nat} {sp : Nat → Bool} {hd : Bool} {fuel : Nat} {cs : List Value} {x : DataW H × List MemPlace} (hlen : cs.length = 18) (h : DataW.trod enc Tryz.prog W b sp hd fuel 37 cs = some x) (hw : ∀ k ∈ x.1.weights Tryz.prog 37, k ≤ reachBytes) :
    ∃ c : Ch, cs = c.cells ∧ ChIs W c ∧ ChSz c := by
  obtain ⟨d, p⟩ := x
  match cs, hlen with
  | [v0, v1, v2, v3, v4, v5, v6, v7, v8, v9, v10, v11, v12, v13, v14, v15, v16, v17], _ =>
    obtain ⟨x0, x1, x2, x3, x4, x5, x6, m, hx1, u0, u1, u2, u3, u4, u5, u6⟩ := trod_seven Tryz.underlying37 h
    replace hx1 : d = .agg [x0.1, x1.1, x2.1, x3.1, x4.1, x5.1, x6.1] := hx1
    simp only [cells3, cells9, cells29, cells31, cells33, cells35, List.drop, List.take] at u0 u1 u2 u3 u4 u5 u6
    have hw2 : ∀ k ∈ x2.1.weights Tryz.prog 29, k ≤ reachBytes := fun k hk => hw k (by
      rw [hx1]
      simp only [DataW.weights, Tryz.underlying37]
      exact DataW.weights_mem_each (j := 2) rfl rfl k hk)
    obtain ⟨q0, f0, _, _⟩ := DataW.trod_int Tryz.underlying3 u0
    obtain ⟨s1, f1, _, z1⟩ := DataW.trod_string Tryz.underlying9 u1
    obtain ⟨y0, y1, y2, m2, hy, _, t0, t1, t2⟩ := trod_struct3 Tryz.underlying29 u2
    simp only [cells9, cellsN26, cellsN27, List.drop, List.take] at t0 t1 t2
    have hy1 : x2.1 = .agg [y0.1, y1.1, y2.1] := by first | exact congrArg (·.1) hy | exact hy
    have hwo : ∀ k ∈ y1.1.weights Tryz.prog 26, k ≤ reachBytes := fun k hk => hw2 k (by
      rw [hy1]
      simp only [DataW.weights, Tryz.underlying29]
      exact DataW.weights_mem_each (j := 1) rfl rfl k hk)
    have hwf : ∀ k ∈ y2.1.weights Tryz.prog 27, k ≤ reachBytes := fun k hk => hw2 k (by
      rw [hy1]
      simp only [DataW.weights, Tryz.underlying29]
      exact DataW.weights_mem_each (j := 2) rfl rfl k hk)
    obtain ⟨s2, f2, _, z2⟩ := DataW.trod_string Tryz.underlying9 t0
    obtain ⟨lo1, hS⟩ := open_names t1
    obtain ⟨lf, hF, hZ⟩ := open_fields t2
    obtain ⟨ao, ln, cn, g1, g2⟩ := len_within Tryz.underlying26 t1 hwo
    obtain ⟨af, lm, cm, g3, g4⟩ := len_within Tryz.underlying27 t2 hwf
    rw [bytes9] at g2
    rw [bytes33] at g4
    have e1 : lo1.length = ln := by
      obtain ⟨a, c, e, _⟩ := hS.sln
      rw [g1] at e
      injection e with _ e
      exact e.symm
    have e2 : lf.length = lm := by
      obtain ⟨a, c, e, _⟩ := hF.sln
      rw [g3] at e
      injection e with _ e
      exact e.symm
    obtain ⟨r0, r1, r2, r3, r4, m3, w0, w1, w2, w3, w4⟩ := trod_five Tryz.underlying31 u3
    simp only [cells9, cells3, List.drop, List.take] at w0 w1 w2 w3 w4
    obtain ⟨s5, f5, _, z5⟩ := DataW.trod_string Tryz.underlying9 w0
    obtain ⟨s6, f6, _, _⟩ := DataW.trod_string Tryz.underlying9 w1
    obtain ⟨s7, f7, _, _⟩ := DataW.trod_string Tryz.underlying9 w2
    obtain ⟨q8, f8, _, _⟩ := DataW.trod_int Tryz.underlying3 w3
    obtain ⟨q9, f9, _, _⟩ := DataW.trod_int Tryz.underlying3 w4
    obtain ⟨fd, f10, z10⟩ := cells_field rfl u4
    obtain ⟨k0, k1, k2, m5, _, _, j0, j1, j2⟩ := trod_struct3 Tryz.underlying35 u5
    simp only [cells9, cells3, List.drop, List.take] at j0 j1 j2
    obtain ⟨q14, f14, _, _⟩ := DataW.trod_int Tryz.underlying3 j0
    obtain ⟨q15, f15, _, _⟩ := DataW.trod_int Tryz.underlying3 j1
    obtain ⟨s16, f16, _, z16⟩ := DataW.trod_string Tryz.underlying9 j2
    obtain ⟨s17, f17, _, z17⟩ := DataW.trod_string Tryz.underlying9 u6
    simp only [List.cons.injEq, and_true, Fd.cells] at f0 f1 f2 f5 f6 f7 f8 f9 f10 f14 f15 f16 f17
    obtain ⟨p1, p2, p3, p4⟩ := f10
    subst f0 f1 f2 f5 f6 f7 f8 f9 f14 f15 f16 f17 p1 p2 p3 p4
    have sz : ∀ {s : ByteArray}, s.size ≤ maxLen → s.toList.length ≤ maxLen := fun {s} hs => by rw [Lib.toList_data, ← size_len]; exact hs
    refine ⟨⟨q0, s1.toList, ⟨s2.toList, lo1, lf, v3, v4⟩, ⟨s5.toList, s6.toList, s7.toList, q8, q9⟩, fd, q14, q15, s16.toList, s17.toList⟩, ?_, ⟨hS, hF⟩, ⟨sz z2, hZ⟩, ⟨?_, ?_⟩, sz z5, z10, sz z16, sz z17⟩
    · simp [Ch.cells, bs_self]
    · show lo1.length * 16 ≤ _
      rw [e1]
      exact Nat.le_trans g2 reach47
    · show lf.length * 32 ≤ _
      rw [e2]
      exact Nat.le_trans g4 reach47
set_option maxRecDepth 100000 in
/-- Changes that came in. -/
theorem open_changes {W : World} {r : Reach} {b0 b : Nat} {sp : Nat → Bool} {hd : Bool} {v : Value} {d : DataW H} {p : List MemPlace} (hv : Value.okWide Tryz.prog W r b0 38 v) (h0 : DataW.Trod enc Tryz.prog W b sp hd 38 v d p) (hw : ∀ k ∈ d.weights Tryz.prog 38, k ≤ reachBytes) :
    ∃ l, IsC W v l ∧ (∀ c ∈ l, ChSz c) := by
  obtain ⟨a0, l0, c0, rfl⟩ := okWide_slice Tryz.underlying38 hv
  obtain ⟨fuel, hf⟩ := h0
  have h : DataW.trod enc Tryz.prog W b sp hd fuel 38 [.slice a0 l0 c0] = some (d, p) := by simpa [Value.cells] using hf
  rcases open_slice Tryz.underlying38 h with ⟨hc, _⟩ | ⟨a, len, cap, m, n, D, Pl, hc, hb, hl, hm, hmm, hx, hall⟩
  · simp only [List.cons.injEq, and_true] at hc
    exact ⟨[], ⟨none, 0, hc, by decide, .inl rfl⟩, fun f hf => by simp at hf⟩
  · simp only [List.cons.injEq, and_true] at hc
    rw [hc]
    clear hc
    have hlm : len ≤ m := by rw [hmm]; split <;> omega
    have hd1 : d = .slice ((List.range len).map D) ((List.range (m - len)).map fun j => D (len + j)) := congrArg (·.1) hx
    by_cases h0 : len = 0
    · subst h0
      exact ⟨[], ⟨some a, cap, rfl, by decide, .inl rfl⟩, fun f hf => by simp at hf⟩
    · have each : ∀ i, i < len → ∃ f : Ch, (∀ j, j < 18 → W.cell? ((a.add (i * 18)).add j) = f.cells[j]?) ∧ ChIs W f ∧ ChSz f := by
        intro i hi
        obtain ⟨cs', h1, h2⟩ := hall i (by omega)
        rw [cells37] at h1
        obtain ⟨_, hlen, hcell⟩ := World.cells?_some h1
        obtain ⟨f, rfl, z⟩ := cells_change hlen h2 (fun k hk => hw k (by
          rw [hd1]
          simp only [DataW.weights, Tryz.underlying38]
          exact List.mem_cons_of_mem _ (List.mem_append_left _ (weightsAll_in (List.mem_map.2 ⟨i, List.mem_range.2 hi, rfl⟩) k hk))))
        exact ⟨f, hcell, z⟩
      haveI : Inhabited Ch := ⟨⟨0, [], ⟨[], [], [], .nilIface, .nilIface⟩, ⟨[], [], [], 0, 0⟩, ⟨[], 0, false, false⟩, 0, 0, [], []⟩⟩
      obtain ⟨q, hq⟩ := choose_lt each
      have hsp : a.spot = none ∧ a.block < W.heap.size := by
        have c0 := (hq 0 (by omega)).1 0 (by decide)
        rw [addz, Nat.zero_mul, addz] at c0
        exact cell_plain (c0.trans rfl)
      obtain ⟨bk, off, spot⟩ := a
      obtain ⟨e1, e2⟩ := hsp
      simp only at e1 e2
      subst e1
      refine ⟨(List.range len).map q, ⟨_, cap, by simp, by simp; omega, .inr ⟨bk, off, rfl, e2, fun k y hy => ?_⟩⟩, fun f hf => ?_⟩
      · rw [List.getElem?_map] at hy
        obtain ⟨k', h1, h2⟩ := Option.map_eq_some_iff.1 hy
        obtain ⟨h3, h4⟩ := List.getElem?_eq_some_iff.1 h1
        simp at h3 h4
        subst h4; subst h2
        refine ⟨fun j u hu => ?_, (hq k h3).2.1⟩
        have hj : j < 18 := by have := (List.getElem?_eq_some_iff.1 hu).1; rwa [ch_len] at this
        have hh := (hq k h3).1 j hj
        rw [Addr.add_lit, Addr.add_lit] at hh
        exact hh.trans hu
      · obtain ⟨i, hi, rfl⟩ := List.mem_map.1 hf
        exact (hq i (List.mem_range.1 hi)).2.2
end
end Go.Proofs.YtkmkhadacppdnaaGreatDoor
