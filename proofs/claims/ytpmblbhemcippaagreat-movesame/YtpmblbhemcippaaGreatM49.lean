/-
  A graph as a parameter.
-/
import Derived.Test.YtpmblbhemcippaaGreatRows
import Derived.Test.YtpmblbhemcippaaGreatM48
import Derived.ProofKit
import Derived.LaidMore
import Derived.OpenShut
import Derived.ShutString
import Derived.ChangeMaps5
import Derived.Stop.Joined
import Derived.Stop.LaidErr
import Derived.Lib.SmallJoins
import Derived.Carry
import Derived.SizedLaws
import Derived.MakeChecks
import Derived.Deep.Slices
import Derived.Deep.Strs
import Derived.Test.YtpmblbhemcippaaGreatM47
namespace Go.Proofs.YtpmblbhemcippaaGreat
open Go.ChangeShapes Go.WideShapes Go.ChangeAt Go.RowKit Go.Joins Go.Deep
open Go.ChangeMaps (open_string shut_string)
set_option linter.unusedVariables false
set_option linter.unusedSimpArgs false

theorem cells56G : Tryz.prog.cellsOf 52 = 4 := by kernel_rfl
theorem cells54G : Tryz.prog.cellsOf 35 = 3 := by kernel_rfl
theorem cells27G : Tryz.prog.cellsOf 44 = 1 := by kernel_rfl
theorem cells29G : Tryz.prog.cellsOf 46 = 3 := by kernel_rfl
theorem cells31G : Tryz.prog.cellsOf 90 = 3 := by kernel_rfl
theorem cells22G : Tryz.prog.cellsOf 38 = 1 := by kernel_rfl
theorem cells23G : Tryz.prog.cellsOf 39 = 1 := by kernel_rfl
theorem cells25G : Tryz.prog.cellsOf 41 = 2 := by kernel_rfl
theorem types25G : Tryz.prog.cellTypes Tryz.prog.depth 41 = some [38, 39] := by kernel_rfl

section
variable {H : Type} {enc : TypeId × Value → H}
set_option maxRecDepth 100000 in
theorem cells_propC {W : World} {b : Nat} {sp : Nat → Bool} {hd : Bool} {n : Nat} {cs : List Value} {x : DataW H × List MemPlace} (hlen : cs.length = 4) (h : DataW.trod enc Tryz.prog W b sp hd n 52 cs = some x) :
    ∃ q : Pr, cs = q.cells ∧ q.nm.size ≤ maxLen ∧ q.s.size ≤ maxLen := by
  obtain ⟨y0, y1, k, hxy, _, u0, u1⟩ := trod_struct2 Tryz.underlying52 h
  match cs, hlen with
  | [v0, v1, v2, v3], _ =>
    simp only [cells9C, cells54G, List.drop, List.take] at u0 u1
    obtain ⟨s0, e0, d0, z0⟩ := DataW.trod_string Tryz.underlying9 u0
    obtain ⟨w0, w1, w2, k2, hw, _, t0, t1, t2⟩ := trod_struct3 Tryz.underlying35 u1
    simp only [cells9C, cells3C, List.drop, List.take] at t0 t1 t2
    obtain ⟨q1, e1, d1, _⟩ := DataW.trod_int Tryz.underlying3 t0
    obtain ⟨q2, e2, d2, _⟩ := DataW.trod_int Tryz.underlying3 t1
    obtain ⟨s3, e3, d3, z3⟩ := DataW.trod_string Tryz.underlying9 t2
    simp only [List.cons.injEq, and_true] at e0 e1 e2 e3
    subst e0; subst e1; subst e2; subst e3
    exact ⟨⟨s0, q1, q2, s3⟩, rfl, z0, z3⟩
theorem open_propsC {W : World} {b : Nat} {sp : Nat → Bool} {hd : Bool} {n : Nat} {v : Value} {x : DataW H × List MemPlace} (h : DataW.trod enc Tryz.prog W b sp hd n 44 [v] = some x) : ∃ l, IsR W v l ∧ Sz l ∧ l.length ≤ maxLen := by
  rcases open_slice Tryz.underlying44 h with ⟨hc, _⟩ | ⟨a, len, cap, m, n, D, Pl, hc, hb, hl, hm, hmm, _, hall⟩
  · simp only [List.cons.injEq, and_true] at hc
    exact ⟨[], ⟨none, 0, hc, .inl rfl⟩, fun f hf => by simp at hf, by decide⟩
  · simp only [List.cons.injEq, and_true] at hc
    subst hc
    have hlm : len ≤ m := by rw [hmm]; split <;> omega
    by_cases h0 : len = 0
    · subst h0
      exact ⟨[], ⟨some a, cap, rfl, .inl rfl⟩, fun f hf => by simp at hf, by decide⟩
    · have each : ∀ i, i < len → ∃ f : Pr, (∀ j, j < 4 → W.cell? ((a.add (i * 4)).add j) = f.cells[j]?) ∧ f.nm.size ≤ maxLen ∧ f.s.size ≤ maxLen := by
        intro i hi
        obtain ⟨cs', h1, h2⟩ := hall i (by omega)
        rw [cells56G] at h1
        obtain ⟨_, hlen, hcell⟩ := World.cells?_some h1
        obtain ⟨f, rfl, z⟩ := cells_propC hlen h2
        exact ⟨f, hcell, z⟩
      haveI : Inhabited Pr := ⟨⟨⟨#[]⟩, 0, 0, ⟨#[]⟩⟩⟩
      obtain ⟨q, hq⟩ := choose_lt each
      have hsp : a.spot = none ∧ a.block < W.heap.size := by
        have c0 := (hq 0 (by omega)).1 0 (by decide)
        rw [addzC, Nat.zero_mul, addzC] at c0
        exact cell_plainC (c0.trans rfl)
      obtain ⟨bk, off, spot⟩ := a
      obtain ⟨e1, e2⟩ := hsp
      simp only at e1 e2
      subst e1
      refine ⟨(List.range len).map q, ⟨_, cap, by simp, .inr ⟨bk, off, rfl, e2, fun k y hy => ?_⟩⟩, fun f hf => ?_, by simp; omega⟩
      · rw [List.getElem?_map] at hy
        obtain ⟨k', h1, h2⟩ := Option.map_eq_some_iff.1 hy
        obtain ⟨h3, h4⟩ := List.getElem?_eq_some_iff.1 h1
        simp at h3 h4
        subst h4; subst h2
        have hh := (hq k h3).1
        have c0 := hh 0 (by decide)
        have c1 := hh 1 (by decide)
        have c2 := hh 2 (by decide)
        have c3 := hh 3 (by decide)
        rw [Addr.add_lit, Addr.add_lit] at c0 c1 c2 c3
        exact ⟨by simpa [Pr.cells] using c0, by simpa [Pr.cells] using c1, by simpa [Pr.cells] using c2, by simpa [Pr.cells] using c3⟩
      · obtain ⟨i, hi, rfl⟩ := List.mem_map.1 hf
        exact (hq i (List.mem_range.1 hi)).2
set_option maxRecDepth 100000 in
theorem open_nodesC {W : World} {b : Nat} {sp : Nat → Bool} {hd : Bool} {n : Nat} {v : Value} {x : DataW H × List MemPlace} (h : DataW.trod enc Tryz.prog W b sp hd n 38 [v] = some x) : ∃ N, IsN W v N ∧ SzN N ∧ N.length ≤ maxLen := by
  rcases open_slice Tryz.underlying38 h with ⟨hc, _⟩ | ⟨a, len, cap, m, n, D, Pl, hc, hb, hl, hm, hmm, _, hall⟩
  · simp only [List.cons.injEq, and_true] at hc
    exact ⟨[], ⟨none, 0, hc, Nat.le_refl _, .inl rfl⟩, fun f hf => by simp at hf, by decide⟩
  · simp only [List.cons.injEq, and_true] at hc
    subst hc
    have hlm : len ≤ m := by rw [hmm]; split <;> omega
    by_cases h0 : len = 0
    · subst h0
      exact ⟨[], ⟨some a, cap, rfl, Nat.zero_le _, .inl rfl⟩, fun f hf => by simp at hf, by decide⟩
    · have each : ∀ i, i < len → ∃ f : Nd, (W.cell? ((a.add (i * 3)).add 0) = some (.int .i64 f.id) ∧ W.cell? ((a.add (i * 3)).add 1) = some (.string f.kd) ∧ W.cell? ((a.add (i * 3)).add 2) = some f.rv ∧ IsR W f.rv f.rc) ∧ f.kd.size ≤ maxLen ∧ Sz f.rc ∧ f.rc.length ≤ maxLen := by
        intro i hi
        obtain ⟨cs', h1, h2⟩ := hall i (by omega)
        rw [cells29G] at h1
        obtain ⟨_, hlen, hcell⟩ := World.cells?_some h1
        obtain ⟨y0, y1, y2, k, hxy, _, u0, u1, u2⟩ := trod_struct3 Tryz.underlying46 h2
        match cs', hlen with
        | [v0, v1, v2], _ =>
          simp only [cells9C, cells3C, cells27G, List.drop, List.take] at u0 u1 u2
          obtain ⟨q0, e0, d0, _⟩ := DataW.trod_int Tryz.underlying3 u0
          obtain ⟨s1, e1, d1, z1⟩ := DataW.trod_string Tryz.underlying9 u1
          simp only [List.cons.injEq, and_true] at e0 e1
          subst e0; subst e1
          obtain ⟨l, hR, hZ, hl'⟩ := open_propsC u2
          have c0 := hcell 0 (by omega)
          have c1 := hcell 1 (by omega)
          have c2 := hcell 2 (by omega)
          exact ⟨⟨q0, s1, v2, l⟩, ⟨by simpa using c0, by simpa using c1, by simpa using c2, hR⟩, z1, hZ, hl'⟩
      haveI : Inhabited Nd := ⟨⟨0, ⟨#[]⟩, .nilIface, []⟩⟩
      obtain ⟨q, hq⟩ := choose_lt each
      have hsp : a.spot = none ∧ a.block < W.heap.size := by
        have c0 := (hq 0 (by omega)).1.1
        rw [addzC, Nat.zero_mul, addzC] at c0
        exact cell_plainC c0
      obtain ⟨bk, off, spot⟩ := a
      obtain ⟨e1, e2⟩ := hsp
      simp only at e1 e2
      subst e1
      refine ⟨(List.range len).map q, ⟨_, cap, by simp, by simpa using hl, .inr ⟨bk, off, rfl, e2, fun k y hy => ?_⟩⟩, fun f hf => ?_, by simp; omega⟩
      · rw [List.getElem?_map] at hy
        obtain ⟨k', h1, h2⟩ := Option.map_eq_some_iff.1 hy
        obtain ⟨h3, h4⟩ := List.getElem?_eq_some_iff.1 h1
        simp at h3 h4
        subst h4; subst h2
        obtain ⟨c0, c1, c2, c3⟩ := (hq k h3).1
        rw [Addr.add_lit, Addr.add_lit] at c0 c1 c2
        exact ⟨c0, c1, c2, c3⟩
      · obtain ⟨i, hi, rfl⟩ := List.mem_map.1 hf
        exact (hq i (List.mem_range.1 hi)).2
set_option maxRecDepth 100000 in
theorem open_tiesC {W : World} {b : Nat} {sp : Nat → Bool} {hd : Bool} {n : Nat} {v : Value} {x : DataW H × List MemPlace} (h : DataW.trod enc Tryz.prog W b sp hd n 39 [v] = some x) : ∃ T, IsT W v T ∧ SzT T ∧ T.length ≤ maxLen := by
  rcases open_slice Tryz.underlying39 h with ⟨hc, _⟩ | ⟨a, len, cap, m, n, D, Pl, hc, hb, hl, hm, hmm, _, hall⟩
  · simp only [List.cons.injEq, and_true] at hc
    exact ⟨[], ⟨none, 0, hc, Nat.le_refl _, .inl rfl⟩, fun f hf => by simp at hf, by decide⟩
  · simp only [List.cons.injEq, and_true] at hc
    subst hc
    have hlm : len ≤ m := by rw [hmm]; split <;> omega
    by_cases h0 : len = 0
    · subst h0
      exact ⟨[], ⟨some a, cap, rfl, Nat.zero_le _, .inl rfl⟩, fun f hf => by simp at hf, by decide⟩
    · have each : ∀ i, i < len → ∃ f : Te, (W.cell? ((a.add (i * 3)).add 0) = some (.string f.bd) ∧ W.cell? ((a.add (i * 3)).add 1) = some (.int .i64 f.fr) ∧ W.cell? ((a.add (i * 3)).add 2) = some (.int .i64 f.tt)) ∧ f.bd.size ≤ maxLen := by
        intro i hi
        obtain ⟨cs', h1, h2⟩ := hall i (by omega)
        rw [cells31G] at h1
        obtain ⟨_, hlen, hcell⟩ := World.cells?_some h1
        obtain ⟨y0, y1, y2, k, hxy, _, u0, u1, u2⟩ := trod_struct3 Tryz.underlying90 h2
        match cs', hlen with
        | [v0, v1, v2], _ =>
          simp only [cells9C, cells3C, List.drop, List.take] at u0 u1 u2
          obtain ⟨s0, e0, d0, z0⟩ := DataW.trod_string Tryz.underlying9 u0
          obtain ⟨q1, e1, d1, _⟩ := DataW.trod_int Tryz.underlying3 u1
          obtain ⟨q2, e2, d2, _⟩ := DataW.trod_int Tryz.underlying3 u2
          simp only [List.cons.injEq, and_true] at e0 e1 e2
          subst e0; subst e1; subst e2
          have c0 := hcell 0 (by omega)
          have c1 := hcell 1 (by omega)
          have c2 := hcell 2 (by omega)
          exact ⟨⟨s0, q1, q2⟩, ⟨by simpa using c0, by simpa using c1, by simpa using c2⟩, z0⟩
      haveI : Inhabited Te := ⟨⟨⟨#[]⟩, 0, 0⟩⟩
      obtain ⟨q, hq⟩ := choose_lt each
      have hsp : a.spot = none ∧ a.block < W.heap.size := by
        have c0 := (hq 0 (by omega)).1.1
        rw [addzC, Nat.zero_mul, addzC] at c0
        exact cell_plainC c0
      obtain ⟨bk, off, spot⟩ := a
      obtain ⟨e1, e2⟩ := hsp
      simp only at e1 e2
      subst e1
      refine ⟨(List.range len).map q, ⟨_, cap, by simp, by simpa using hl, .inr ⟨bk, off, rfl, e2, fun k y hy => ?_⟩⟩, fun f hf => ?_, by simp; omega⟩
      · rw [List.getElem?_map] at hy
        obtain ⟨k', h1, h2⟩ := Option.map_eq_some_iff.1 hy
        obtain ⟨h3, h4⟩ := List.getElem?_eq_some_iff.1 h1
        simp at h3 h4
        subst h4; subst h2
        obtain ⟨c0, c1, c2⟩ := (hq k h3).1
        rw [Addr.add_lit, Addr.add_lit] at c0 c1 c2
        exact ⟨c0, c1, c2⟩
      · obtain ⟨i, hi, rfl⟩ := List.mem_map.1 hf
        exact (hq i (List.mem_range.1 hi)).2
set_option maxRecDepth 100000 in
theorem open_graphC {W : World} {r : Reach} {b0 b : Nat} {sp : Nat → Bool} {hd : Bool} {v : Value} {d : DataW H} {p : List MemPlace} (hv : Value.okWide Tryz.prog W r b0 41 v) (h : DataW.Trod enc Tryz.prog W b sp hd 41 v d p) :
    ∃ N T, IsG W v N T := by
  simp only [Value.okWide, Tryz.underlying41] at hv
  obtain ⟨cs, rfl, hcs, ts, hts, _, hrow⟩ := hv
  rw [cells25G] at hcs
  obtain rfl := Option.some.inj (types25G.symm.trans hts)
  obtain ⟨l⟩ := cs
  match l, hcs with
  | [vk, vb], _ =>
    obtain ⟨t0, e0, w0⟩ := hrow 0 vk rfl
    obtain ⟨t1, e1, w1⟩ := hrow 1 vb rfl
    obtain rfl : 38 = t0 := by simpa using e0
    obtain rfl : 39 = t1 := by simpa using e1
    have o0 : Value.okWide Tryz.prog W r b0 38 vk := by simp only [Value.okWide, Tryz.underlying38]; exact w0
    have o1 : Value.okWide Tryz.prog W r b0 39 vb := by simp only [Value.okWide, Tryz.underlying39]; exact w1
    obtain ⟨a0, l0, c0, rfl⟩ := okWide_slice Tryz.underlying38 o0
    obtain ⟨a1, l1, c1, rfl⟩ := okWide_slice Tryz.underlying39 o1
    obtain ⟨fuel, hf⟩ := h
    have hf' : DataW.trod enc Tryz.prog W b sp hd fuel 41 [.slice a0 l0 c0, .slice a1 l1 c1] = some (d, p) := by simpa [Value.cells] using hf
    obtain ⟨y0, y1, k, _, _, u0, u1⟩ := trod_struct2 Tryz.underlying41 hf'
    simp only [cells22G, cells23G, List.drop, List.take] at u0 u1
    obtain ⟨N, h1, h2, h3⟩ := open_nodesC u0
    obtain ⟨T, h4, h5, h6⟩ := open_tiesC u1
    exact ⟨N, T, _, _, rfl, h1, h4, h2, h5, h3, h6⟩
end
end Go.Proofs.YtpmblbhemcippaaGreat

/-
  Numbers as a parameter.
-/
namespace Go.Proofs.YtpmblbhemcippaaGreat
open Go.ChangeShapes Go.WideShapes Go.ChangeAt Go.RowKit Go.Joins Go.Deep
open Go.ChangeMaps (open_string shut_string)
set_option linter.unusedVariables false
set_option linter.unusedSimpArgs false

def IsZ (w : World) (v : Value) (l : List Int) : Prop := ∃ ao cp, v = .slice ao l.length cp ∧ l.length ≤ maxLen ∧ (l = [] ∨ ∃ b off, ao = some ⟨b, off, none⟩ ∧ b < w.heap.size ∧ ∀ k z, l[k]? = some z → w.cell? ⟨b, off + k, none⟩ = some (.int .i64 z))
section
variable {H : Type} {enc : TypeId × Value → H}
set_option maxRecDepth 100000 in
theorem open_ints {W : World} {r : Reach} {b0 b : Nat} {sp : Nat → Bool} {hd : Bool} {v : Value} {d : DataW H} {p : List MemPlace} (hv : Value.okWide Tryz.prog W r b0 42 v) (h : DataW.Trod enc Tryz.prog W b sp hd 42 v d p) :
    ∃ l, IsZ W v l := by
  obtain ⟨a, len, cap, rfl⟩ := okWide_slice Tryz.underlying42 hv
  obtain ⟨fuel, hf⟩ := h
  have hf' : DataW.trod enc Tryz.prog W b sp hd fuel 42 [.slice a len cap] = some (d, p) := by simpa [Value.cells] using hf
  rcases open_slice Tryz.underlying42 hf' with ⟨hc, _⟩ | ⟨a', len', cap', m, n, D, Pl, hc, hb, hl, hm, hmm, _, hall⟩
  · simp only [List.cons.injEq, and_true] at hc
    exact ⟨[], none, 0, hc, Nat.zero_le _, .inl rfl⟩
  · simp only [List.cons.injEq, and_true, Value.slice.injEq] at hc
    obtain ⟨rfl, rfl, rfl⟩ := hc
    have hlm : len ≤ m := by rw [hmm]; split <;> omega
    simp only [Value.okWide, Tryz.underlying42, Cell.okWide, Cell.ok] at hv
    obtain ⟨_, _, _, hsp, row, cells, hsh, _⟩ := hv
    have hlt := shape_lt hsh
    obtain ⟨bk, off, spot⟩ := a'
    simp only at hsp hlt
    subst hsp
    have each : ∀ i, i < len → ∃ q : Int, W.cell? ⟨bk, off + i, none⟩ = some (.int .i64 q) := by
      intro i hi
      obtain ⟨cs', h1, h2⟩ := hall i (by omega)
      rw [cells3C, Nat.mul_one] at h1
      obtain ⟨_, hlen, hcell⟩ := World.cells?_some h1
      obtain ⟨q, rfl, _⟩ := DataW.trod_int Tryz.underlying3 h2
      have c0 := hcell 0 (by omega)
      rw [addzC, Addr.add_lit] at c0
      exact ⟨q, by simpa using c0⟩
    obtain ⟨q, hq⟩ := choose_lt each
    refine ⟨(List.range len).map q, _, cap, by simp, by simp; omega, .inr ⟨bk, off, rfl, hlt, fun k z hz => ?_⟩⟩
    rw [List.getElem?_map] at hz
    obtain ⟨k', h1, h2⟩ := Option.map_eq_some_iff.1 hz
    obtain ⟨h3, h4⟩ := List.getElem?_eq_some_iff.1 h1
    simp at h3 h4
    subst h4; subst h2
    exact hq k h3
end
end Go.Proofs.YtpmblbhemcippaaGreat

/-
  What the law MoveSame's own walk needs: a move between two calls.
-/
namespace Go.Proofs.YtpmblbhemcippaaGreat
open Go.RowKit
set_option linter.unusedVariables false
set_option linter.unusedSimpArgs false

def MvJ (w1 wr : World) (p : Nat) (c : Ch) (K : List Nm) (L : List Kd) (B : List Bd) (N : List Nd) (T : List Te) (k : Nat) : Prop :=
  ∃ uk ub ks fn vn vt vm M, Mv w1 wr p c K L B N T M k uk ub ks fn vn vt vm ∧ ∀ x ∈ M, x.rc.length ≤ 1000
section
variable {w1 w : World} {p : Nat} {c : Ch} {K : List Nm} {L : List Kd} {B : List Bd} {N : List Nd} {T : List Te} {k : Nat}
theorem MvJ.on (h : MvJ w1 w p c K L B N T k) {w' : World} (hB : Below w.heap.size w w') : MvJ w1 w' p c K L B N T k := by
  obtain ⟨_, _, _, _, _, _, _, _, hm, hl⟩ := h
  exact ⟨_, _, _, _, _, _, _, _, hm.on hB, hl⟩
theorem MvJ.hB (h : MvJ w1 w p c K L B N T k) : Below w1.heap.size w1 w := by
  obtain ⟨_, _, _, _, _, _, _, _, hm, hl⟩ := h
  exact hm.hB
theorem MvJ.hk (h : MvJ w1 w p c K L B N T k) : k ≤ N.length := by
  obtain ⟨_, _, _, _, _, _, _, _, hm, hl⟩ := h
  exact hm.hk
theorem MvJ.hx (h : MvJ w1 w p c K L B N T k) : allX c K (N.take k) = 0 := by
  obtain ⟨_, _, _, _, _, _, _, _, hm, hl⟩ := h
  exact hm.hx
theorem jleft (h : MvJ w1 w p c K L B N T k) (ho : MvOk c K L B N T) : Calls Tryz.prog 7 #[.pointer (some ⟨p, 0, none⟩)] w fun e w' => e = .returned (.int .i64 ((N.length : Int) - k)) ∧ Below w.heap.size w w' := by
  obtain ⟨_, _, _, _, _, _, _, _, hm, hl⟩ := h
  exact left_any hm (by have := ho.hl; omega)
theorem jstep (h : MvJ w1 w p c K L B N T k) (ho : MvOk c K L B N T) (n : Int) : Calls Tryz.prog 6 #[.pointer (some ⟨p, 0, none⟩), .int .i64 n] w fun e w' => ∃ j, e = .returned (.tuple #[.int .i64 j, errV (stE c K N k n)]) ∧ MvJ w1 w' p c K L B N T (if stE c K N k n = 0 then stK N k n else k) ∧ Below w1.heap.size w w' := by
  obtain ⟨_, _, _, _, _, _, _, _, hm, hl⟩ := h
  refine (step_any hm ho.hl hl ho.hr ho.hKl ho.hf ho.hsz n).mono ?_
  rintro e w' ⟨j, M', he, h1, h2, h3, _⟩
  exact ⟨j, he, ⟨_, _, _, _, _, _, _, _, h1, h3⟩, h2⟩
set_option maxRecDepth 100000 in
theorem jdone (h : MvJ w1 w p c K L B N T k) (hk : k = N.length) (ho : MvOk c K L B N T) : Calls Tryz.prog 8 #[.pointer (some ⟨p, 0, none⟩)] w fun e w' => ∃ g1 g2 g3 g4 g5 g6 a1 l1 c1 a2 l2 c2 R X, e = .returned (.tuple #[.agg #[.slice g1 g2 g3, .slice g4 g5 g6], .agg #[.slice a1 l1 c1, .slice a2 l2 c2], errV (if confB L B (N.map (ndT c K)) (T.filter (keepB (drp c))) = true then 0 else 9)]) ∧ (confB L B (N.map (ndT c K)) (T.filter (keepB (drp c))) = true → cN X = N.map (ndT c K) ∧ R.map kq3 = L.map kq3 ∧ OwnKs w' w1.heap.size (.slice g1 g2 g3) R ∧ OwnBs w' w1.heap.size (.slice g4 g5 g6) B ∧ OwnNs w' w1.heap.size (.slice a1 l1 c1) X ∧ OwnTs w' w1.heap.size (.slice a2 l2 c2) (T.filter (keepB (drp c)))) ∧ Below w1.heap.size w w' := by
  obtain ⟨_, _, _, _, _, _, _, _, hm, hl⟩ := h
  refine (done_all hm hk ho hl).mono ?_
  rintro e w' ⟨g1, g2, g3, g4, g5, g6, a1, l1, c1, a2, l2, c2, R, X, he, hy, hg⟩
  exact ⟨g1, g2, g3, g4, g5, g6, a1, l1, c1, a2, l2, c2, R, X, he, hy, below_grown (Below.refl _ _) hg hm.hB.size (fun k hk => by injection hk with hk; rw [← hk]; exact hm.hge)⟩
theorem one_step (hk : k < N.length) (hx : allX c K (N.take k) = 0) : (stE c K N k 1 = 0 → stK N k 1 = k + 1) ∧ (¬ stE c K N k 1 = 0 → ¬ allX c K N = 0) := by
  have e : stE c K N k 1 = allX c K ((N.drop k).take 1) := by
    unfold stE
    rw [if_neg (by omega), if_neg (by omega)]
    rfl
  refine ⟨fun _ => ?_, fun h => ?_⟩
  · unfold stK
    have : (1 : Int).toNat = 1 := rfl
    omega
  · rw [e] at h; exact allX_one hx h
end
theorem new_go {w : World} {vk vb : Value} {L : List Kd} {B : List Bd} (c : Ch) (hK : IsK w vk L) (hP : Parts w L) (hz : SzK L) (hb : IsB w vb B) (hzb : SzB B) (hc : ChIs w c) (hcz : ChSz c) {gn gt : Value} {N : List Nd} {T : List Te} (hN : IsN w gn N) (hT : IsT w gt T) (zN : SzN N) (zT : SzT T) (lN : N.length ≤ maxLen) (lT : T.length ≤ maxLen) (h0 : nwE L B c N T = 0) :
    Calls Tryz.prog 5 #[.agg #[vk, vb], c.one, .agg #[gn, gt]] w fun e w' => ∃ p, e = .returned (.tuple #[.pointer (some ⟨p, 0, none⟩), .nilIface]) ∧ ∃ w1 Lm X, Lm.map kq3 = (cK L c).map kq3 ∧ cN X = cN N ∧ Below w.heap.size w w1 ∧ MvOk c (kdsA L c) Lm (cB B c) X T ∧ MvJ w1 w' p c (kdsA L c) Lm (cB B c) X T 0 := by
  refine (new_any c hK hP hz hb hzb hc hcz hN hT zN zT lN lT).mono ?_
  rintro e w' ⟨hy, _, _⟩
  obtain ⟨w1, p, Lm, X, uk, ub, ks, fn, vn, vt, vm, he, h1, h2, h3, h4⟩ := hy h0
  have ho := mvok_of h0 hcz h2 h1 zN zT
  exact ⟨p, he, w1, Lm, X, h1, h2, h3, ho, _, _, _, _, _, _, _, _, h4, ho.len⟩
theorem grE_of {L : List Kd} {B : List Bd} {c : Ch} {N X : List Nd} {T : List Te} {Lm : List Kd} (h0 : nwE L B c N T = 0) (hM : Lm.map kq3 = (cK L c).map kq3) (hX : cN X = cN N) : grE L B c N T = aoE c (kdsA L c) Lm (cB B c) X T := by
  unfold grE
  rw [if_pos h0]
  exact (aoE_of hX hM).symm
theorem grE_no {L : List Kd} {B : List Bd} {c : Ch} {N X : List Nd} {T : List Te} {Lm : List Kd} (h0 : nwE L B c N T = 0) (hM : Lm.map kq3 = (cK L c).map kq3) (hX : cN X = cN N) (hx : ¬ allX c (kdsA L c) X = 0) : ¬ grE L B c N T = 0 := by
  rw [grE_of h0 hM hX]
  unfold aoE
  rw [if_neg hx]
  exact hx
theorem grE_yes {L : List Kd} {B : List Bd} {c : Ch} {N X : List Nd} {T : List Te} {Lm : List Kd} (h0 : nwE L B c N T = 0) (hM : Lm.map kq3 = (cK L c).map kq3) (hX : cN X = cN N) (hx : allX c (kdsA L c) X = 0) : grE L B c N T = if confB Lm (cB B c) (X.map (ndT c (kdsA L c))) (T.filter (keepB (drp c))) = true then 0 else 9 := by
  rw [grE_of h0 hM hX]
  unfold aoE
  rw [if_pos hx]
end Go.Proofs.YtpmblbhemcippaaGreat
