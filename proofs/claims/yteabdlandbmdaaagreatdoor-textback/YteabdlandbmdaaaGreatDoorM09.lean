/-
  A graph of the call's own: how it lies, and what keeps it; appending to nothing; rows of elements of several cells.
-/
import Derived.Test.YteabdlandbmdaaaGreatDoorM08
import Derived.Lib.AppendZeros
import Derived.Test.YteabdlandbmdaaaGreatDoorRows
import Derived.ProofKit
import Derived.LaidMore
import Derived.OpenShut
import Derived.ShutString
import Derived.ChangeMaps5
import Derived.Stop.Joined
import Derived.Stop.LaidErr
import Derived.Lib.SmallJoins
import Derived.Carry
import Derived.SizedLaws
import Derived.MakeChecks
import Derived.Deep.Slices
import Derived.Deep.Strs
import Derived.Test.YteabdlandbmdaaaGreatDoorM06
import Derived.Lib.Hide
namespace Go.Proofs.YteabdlandbmdaaaGreatDoor
open Go.RowKit
set_option linter.unusedVariables false
set_option linter.unusedSimpArgs false

section
variable {α : Type} {f : α → List Value} {sz : Nat}
theorem flatK (h : ∀ x, (f x).length = sz) : ∀ (L : List α) (k : Nat) (x : α) (i : Nat), L[k]? = some x → i < sz → (L.flatMap f)[k * sz + i]? = (f x)[i]?
  | [], k, x, i, hk, _ => by simp at hk
  | y :: r, 0, x, i, hk, hi => by
    simp at hk; subst hk
    rw [List.flatMap_cons, List.getElem?_append_left (by rw [h]; omega)]
    simp
  | y :: r, k + 1, x, i, hk, hi => by
    rw [List.flatMap_cons, List.getElem?_append_right (by rw [h, Nat.add_mul]; omega), h]
    have := flatK h r k x i (by simpa using hk) hi
    rw [← this]
    congr 1
    rw [Nat.add_mul]; omega
end

theorem pr_len (p : Pr) : p.cells.length = 4 := rfl
def cellsR (L : List Pr) : List Value := L.flatMap Pr.cells
def SlN (N : List Nd) : Prop := ∀ n ∈ N, ∃ a l c, n.rv = .slice a l c
def OwnRc (w : World) (base : Nat) (v : Value) (L : List Pr) : Prop := w.ownsRow base 33 4 v L.length (cellsR L)
def OwnNs (w : World) (base : Nat) (v : Value) (N : List Nd) : Prop := w.ownsRow base 37 3 v N.length (cellsN N) ∧ ∀ n ∈ N, OwnRc w base n.rv n.rc
def OwnTs (w : World) (base : Nat) (v : Value) (T : List Te) : Prop := w.ownsRow base 61 3 v T.length (cellsT T)
def OG (w : World) (base p : Nat) (N : List Nd) (T : List Te) : Prop := ∃ vn vt, base ≤ p ∧ w.heap[p]? = some (.cells #[vn, vt] 25 (0, 0)) ∧ OwnNs w base vn N ∧ OwnTs w base vt T
theorem OwnRc.kt {w w' : World} {base : Nat} {v : Value} {L : List Pr} (h : OwnRc w base v L) (hk : Kt 33 w w') : OwnRc w' base v L := own_kt h hk
theorem OwnNs.kt {w w' : World} {base : Nat} {v : Value} {N : List Nd} (h : OwnNs w base v N) (hk : Kt 37 w w') (hr : Kt 33 w w') : OwnNs w' base v N := ⟨own_kt h.1 hk, fun n hn => (h.2 n hn).kt hr⟩
theorem OwnTs.kt {w w' : World} {base : Nat} {v : Value} {T : List Te} (h : OwnTs w base v T) (hk : Kt 61 w w') : OwnTs w' base v T := own_kt h hk
theorem OG.on {w w' : World} {base p : Nat} {N : List Nd} {T : List Te} (h : OG w base p N T) (hB : Below w.heap.size w w') : OG w' base p N T := by
  obtain ⟨vn, vt, h1, h2, h3, h4⟩ := h
  exact ⟨vn, vt, h1, (hB.block p (Array.getElem?_eq_some_iff.1 h2).1).trans h2, h3.kt (.of_below hB) (.of_below hB), h4.kt (.of_below hB)⟩
theorem OwnRc.sl {w : World} {base : Nat} {v : Value} {L : List Pr} (h : OwnRc w base v L) : ∃ a l c, v = .slice a l c := by
  obtain ⟨ao, cp, rfl⟩ := own_slice h
  exact ⟨_, _, _, rfl⟩
theorem OwnNs.sl {w : World} {base : Nat} {v : Value} {N : List Nd} (h : OwnNs w base v N) : SlN N := fun n hn => (h.2 n hn).sl
theorem OwnRc.isR {w : World} {base : Nat} {v : Value} {L : List Pr} (h : OwnRc w base v L) : IsR w v L := by
  have hc : ∀ g, v.ownBlock = some g → ∀ j u, (cellsR L)[j]? = some u → w.cell? ((⟨g, 0, none⟩ : Addr).add j) = some u := fun g hg => World.ownsRow.cells h hg
  rcases h.2 with ⟨rfl, h0⟩ | ⟨g, cap, cur, rfl, hb, hg, hle, hm, rest⟩
  · exact ⟨none, 0, by rw [h0], .inl (List.eq_nil_of_length_eq_zero h0)⟩
  · refine ⟨_, cap, rfl, .inr ⟨g, 0, rfl, (Array.getElem?_eq_some_iff.1 hg).1, fun k p hp => ?_⟩⟩
    have c : ∀ i u, i < 4 → p.cells[i]? = some u → w.cell? ⟨g, 0 + (k * 4 + i), none⟩ = some u := fun i u hi hu => by
      have := hc g rfl (k * 4 + i) u ((flatK pr_len L k p i hp hi).trans hu)
      rwa [Addr.add_lit] at this
    exact ⟨c 0 _ (by omega) rfl, c 1 _ (by omega) rfl, c 2 _ (by omega) rfl, c 3 _ (by omega) rfl⟩
theorem OwnNs.isN {w : World} {base : Nat} {v : Value} {N : List Nd} (h : OwnNs w base v N) : IsN w v N := own_isN h.1 fun n hn => (h.2 n hn).isR
theorem OwnTs.isT {w : World} {base : Nat} {v : Value} {T : List Te} (h : OwnTs w base v T) : IsT w v T := own_isT h

def HasC (w : World) (v : Value) (n : Nat) (xs : List Value) : Prop := ∃ ao c, v = .slice ao n c ∧ ((n = 0 ∧ xs = []) ∨ ∃ b off, ao = some ⟨b, off, none⟩ ∧ b < w.heap.size ∧ ∀ j u, xs[j]? = some u → w.cell? ((⟨b, off, none⟩ : Addr).add j) = some u)
theorem HasC.on {w w' : World} {v : Value} {n : Nat} {xs : List Value} (h : HasC w v n xs) (hB : Below w.heap.size w w') : HasC w' v n xs := by
  obtain ⟨ao, c, rfl, h0 | ⟨b, off, rfl, hb, hL⟩⟩ := h
  · exact ⟨ao, c, rfl, .inl h0⟩
  · refine ⟨_, c, rfl, .inr ⟨b, off, rfl, Nat.lt_of_lt_of_le hb hB.size, fun j u hu => ?_⟩⟩
    have := hL j u hu
    rw [Addr.add_lit] at this ⊢
    exact (hB.cell hb).trans this
theorem IsR.sl {w : World} {v : Value} {L : List Pr} (h : IsR w v L) : ∃ a l c, v = .slice a l c := by
  obtain ⟨ao, c, rfl, _⟩ := h
  exact ⟨_, _, _, rfl⟩
theorem IsN.sl {w : World} {v : Value} {N : List Nd} (h : IsN w v N) : SlN N := by
  obtain ⟨ao, c, rfl, _, rfl | ⟨b, off, rfl, hb, hL⟩⟩ := h
  · intro n hn; cases hn
  · intro n hn
    obtain ⟨k, hk⟩ := List.getElem?_of_mem hn
    exact (hL k n hk).2.2.2.sl

section
variable {P : Program}
end
end Go.Proofs.YteabdlandbmdaaaGreatDoor

/-
  A graph as a parameter.
-/
namespace Go.Proofs.YteabdlandbmdaaaGreatDoor
open Go.ChangeShapes Go.WideShapes Go.ChangeAt Go.RowKit Go.Joins Go.Deep
open Go.ChangeMaps (open_string shut_string)
set_option linter.unusedVariables false
set_option linter.unusedSimpArgs false

theorem own : ownKnob Tryz.prog.godebug = none := by kernel_rfl
theorem laidOut : laidOutB Tryz.prog = true := by kernel_rfl
theorem cells56 : Tryz.prog.cellsOf 33 = 4 := by kernel_rfl
theorem cells54 : Tryz.prog.cellsOf 31 = 3 := by kernel_rfl
theorem cells9 : Tryz.prog.cellsOf 9 = 1 := by kernel_rfl
theorem cells3 : Tryz.prog.cellsOf 3 = 1 := by kernel_rfl
theorem cells27 : Tryz.prog.cellsOf 35 = 1 := by kernel_rfl
theorem cells29 : Tryz.prog.cellsOf 37 = 3 := by kernel_rfl
theorem cells31 : Tryz.prog.cellsOf 61 = 3 := by kernel_rfl
theorem cells22 : Tryz.prog.cellsOf 22 = 1 := by kernel_rfl
theorem cells23 : Tryz.prog.cellsOf 23 = 1 := by kernel_rfl
theorem cells25 : Tryz.prog.cellsOf 25 = 2 := by kernel_rfl
theorem types25 : Tryz.prog.cellTypes Tryz.prog.depth 25 = some [22, 23] := by kernel_rfl
theorem cell_plain {W : World} {a : Addr} {u : Value} (h : W.cell? a = some u) : a.spot = none ∧ a.block < W.heap.size := by
  refine ⟨?_, World.block_lt_of_cell? W _ h⟩
  obtain ⟨bk, off, spot⟩ := a
  cases spot with
  | none => rfl
  | some sp =>
    exfalso
    unfold World.cell? at h
    split at h
    · simp at h
    · cases h
theorem addz (a : Addr) : a.add 0 = a := by simp [Addr.add]

section
variable {H : Type} {enc : TypeId × Value → H}
set_option maxRecDepth 100000 in
theorem cells_prop {W : World} {b : Nat} {sp : Nat → Bool} {hd : Bool} {n : Nat} {cs : List Value} {x : DataW H × List MemPlace} (hlen : cs.length = 4) (h : DataW.trod enc Tryz.prog W b sp hd n 33 cs = some x) :
    ∃ q : Pr, cs = q.cells ∧ q.nm.size ≤ maxLen ∧ q.s.size ≤ maxLen := by
  obtain ⟨y0, y1, k, hxy, _, u0, u1⟩ := trod_struct2 Tryz.underlying33 h
  match cs, hlen with
  | [v0, v1, v2, v3], _ =>
    simp only [cells9, cells54, List.drop, List.take] at u0 u1
    obtain ⟨s0, e0, d0, z0⟩ := DataW.trod_string Tryz.underlying9 u0
    obtain ⟨w0, w1, w2, k2, hw, _, t0, t1, t2⟩ := trod_struct3 Tryz.underlying31 u1
    simp only [cells9, cells3, List.drop, List.take] at t0 t1 t2
    obtain ⟨q1, e1, d1, _⟩ := DataW.trod_int Tryz.underlying3 t0
    obtain ⟨q2, e2, d2, _⟩ := DataW.trod_int Tryz.underlying3 t1
    obtain ⟨s3, e3, d3, z3⟩ := DataW.trod_string Tryz.underlying9 t2
    simp only [List.cons.injEq, and_true] at e0 e1 e2 e3
    subst e0; subst e1; subst e2; subst e3
    exact ⟨⟨s0, q1, q2, s3⟩, rfl, z0, z3⟩
theorem open_props {W : World} {b : Nat} {sp : Nat → Bool} {hd : Bool} {n : Nat} {v : Value} {x : DataW H × List MemPlace} (h : DataW.trod enc Tryz.prog W b sp hd n 35 [v] = some x) : ∃ l, IsR W v l ∧ Sz l ∧ l.length ≤ maxLen := by
  rcases open_slice Tryz.underlying35 h with ⟨hc, _⟩ | ⟨a, len, cap, m, n, D, Pl, hc, hb, hl, hm, hmm, _, hall⟩
  · simp only [List.cons.injEq, and_true] at hc
    exact ⟨[], ⟨none, 0, hc, .inl rfl⟩, fun f hf => by simp at hf, by decide⟩
  · simp only [List.cons.injEq, and_true] at hc
    subst hc
    have hlm : len ≤ m := by rw [hmm]; split <;> omega
    by_cases h0 : len = 0
    · subst h0
      exact ⟨[], ⟨some a, cap, rfl, .inl rfl⟩, fun f hf => by simp at hf, by decide⟩
    · have each : ∀ i, i < len → ∃ f : Pr, (∀ j, j < 4 → W.cell? ((a.add (i * 4)).add j) = f.cells[j]?) ∧ f.nm.size ≤ maxLen ∧ f.s.size ≤ maxLen := by
        intro i hi
        obtain ⟨cs', h1, h2⟩ := hall i (by omega)
        rw [cells56] at h1
        obtain ⟨_, hlen, hcell⟩ := World.cells?_some h1
        obtain ⟨f, rfl, z⟩ := cells_prop hlen h2
        exact ⟨f, hcell, z⟩
      haveI : Inhabited Pr := ⟨⟨⟨#[]⟩, 0, 0, ⟨#[]⟩⟩⟩
      obtain ⟨q, hq⟩ := choose_lt each
      have hsp : a.spot = none ∧ a.block < W.heap.size := by
        have c0 := (hq 0 (by omega)).1 0 (by decide)
        rw [addz, Nat.zero_mul, addz] at c0
        exact cell_plain (c0.trans rfl)
      obtain ⟨bk, off, spot⟩ := a
      obtain ⟨e1, e2⟩ := hsp
      simp only at e1 e2
      subst e1
      refine ⟨(List.range len).map q, ⟨_, cap, by simp, .inr ⟨bk, off, rfl, e2, fun k y hy => ?_⟩⟩, fun f hf => ?_, by simp; omega⟩
      · rw [List.getElem?_map] at hy
        obtain ⟨k', h1, h2⟩ := Option.map_eq_some_iff.1 hy
        obtain ⟨h3, h4⟩ := List.getElem?_eq_some_iff.1 h1
        simp at h3 h4
        subst h4; subst h2
        have hh := (hq k h3).1
        have c0 := hh 0 (by decide)
        have c1 := hh 1 (by decide)
        have c2 := hh 2 (by decide)
        have c3 := hh 3 (by decide)
        rw [Addr.add_lit, Addr.add_lit] at c0 c1 c2 c3
        exact ⟨by simpa [Pr.cells] using c0, by simpa [Pr.cells] using c1, by simpa [Pr.cells] using c2, by simpa [Pr.cells] using c3⟩
      · obtain ⟨i, hi, rfl⟩ := List.mem_map.1 hf
        exact (hq i (List.mem_range.1 hi)).2
set_option maxRecDepth 100000 in
theorem open_nodes {W : World} {b : Nat} {sp : Nat → Bool} {hd : Bool} {n : Nat} {v : Value} {x : DataW H × List MemPlace} (h : DataW.trod enc Tryz.prog W b sp hd n 22 [v] = some x) : ∃ N, IsN W v N ∧ SzN N ∧ N.length ≤ maxLen := by
  rcases open_slice Tryz.underlying22 h with ⟨hc, _⟩ | ⟨a, len, cap, m, n, D, Pl, hc, hb, hl, hm, hmm, _, hall⟩
  · simp only [List.cons.injEq, and_true] at hc
    exact ⟨[], ⟨none, 0, hc, Nat.le_refl _, .inl rfl⟩, fun f hf => by simp at hf, by decide⟩
  · simp only [List.cons.injEq, and_true] at hc
    subst hc
    have hlm : len ≤ m := by rw [hmm]; split <;> omega
    by_cases h0 : len = 0
    · subst h0
      exact ⟨[], ⟨some a, cap, rfl, Nat.zero_le _, .inl rfl⟩, fun f hf => by simp at hf, by decide⟩
    · have each : ∀ i, i < len → ∃ f : Nd, (W.cell? ((a.add (i * 3)).add 0) = some (.int .i64 f.id) ∧ W.cell? ((a.add (i * 3)).add 1) = some (.string f.kd) ∧ W.cell? ((a.add (i * 3)).add 2) = some f.rv ∧ IsR W f.rv f.rc) ∧ f.kd.size ≤ maxLen ∧ Sz f.rc ∧ f.rc.length ≤ maxLen := by
        intro i hi
        obtain ⟨cs', h1, h2⟩ := hall i (by omega)
        rw [cells29] at h1
        obtain ⟨_, hlen, hcell⟩ := World.cells?_some h1
        obtain ⟨y0, y1, y2, k, hxy, _, u0, u1, u2⟩ := trod_struct3 Tryz.underlying37 h2
        match cs', hlen with
        | [v0, v1, v2], _ =>
          simp only [cells9, cells3, cells27, List.drop, List.take] at u0 u1 u2
          obtain ⟨q0, e0, d0, _⟩ := DataW.trod_int Tryz.underlying3 u0
          obtain ⟨s1, e1, d1, z1⟩ := DataW.trod_string Tryz.underlying9 u1
          simp only [List.cons.injEq, and_true] at e0 e1
          subst e0; subst e1
          obtain ⟨l, hR, hZ, hl'⟩ := open_props u2
          have c0 := hcell 0 (by omega)
          have c1 := hcell 1 (by omega)
          have c2 := hcell 2 (by omega)
          exact ⟨⟨q0, s1, v2, l⟩, ⟨by simpa using c0, by simpa using c1, by simpa using c2, hR⟩, z1, hZ, hl'⟩
      haveI : Inhabited Nd := ⟨⟨0, ⟨#[]⟩, .nilIface, []⟩⟩
      obtain ⟨q, hq⟩ := choose_lt each
      have hsp : a.spot = none ∧ a.block < W.heap.size := by
        have c0 := (hq 0 (by omega)).1.1
        rw [addz, Nat.zero_mul, addz] at c0
        exact cell_plain c0
      obtain ⟨bk, off, spot⟩ := a
      obtain ⟨e1, e2⟩ := hsp
      simp only at e1 e2
      subst e1
      refine ⟨(List.range len).map q, ⟨_, cap, by simp, by simpa using hl, .inr ⟨bk, off, rfl, e2, fun k y hy => ?_⟩⟩, fun f hf => ?_, by simp; omega⟩
      · rw [List.getElem?_map] at hy
        obtain ⟨k', h1, h2⟩ := Option.map_eq_some_iff.1 hy
        obtain ⟨h3, h4⟩ := List.getElem?_eq_some_iff.1 h1
        simp at h3 h4
        subst h4; subst h2
        obtain ⟨c0, c1, c2, c3⟩ := (hq k h3).1
        rw [Addr.add_lit, Addr.add_lit] at c0 c1 c2
        exact ⟨c0, c1, c2, c3⟩
      · obtain ⟨i, hi, rfl⟩ := List.mem_map.1 hf
        exact (hq i (List.mem_range.1 hi)).2
set_option maxRecDepth 100000 in
theorem open_ties {W : World} {b : Nat} {sp : Nat → Bool} {hd : Bool} {n : Nat} {v : Value} {x : DataW H × List MemPlace} (h : DataW.trod enc Tryz.prog W b sp hd n 23 [v] = some x) : ∃ T, IsT W v T ∧ SzT T ∧ T.length ≤ maxLen := by
  rcases open_slice Tryz.underlying23 h with ⟨hc, _⟩ | ⟨a, len, cap, m, n, D, Pl, hc, hb, hl, hm, hmm, _, hall⟩
  · simp only [List.cons.injEq, and_true] at hc
    exact ⟨[], ⟨none, 0, hc, Nat.le_refl _, .inl rfl⟩, fun f hf => by simp at hf, by decide⟩
  · simp only [List.cons.injEq, and_true] at hc
    subst hc
    have hlm : len ≤ m := by rw [hmm]; split <;> omega
    by_cases h0 : len = 0
    · subst h0
      exact ⟨[], ⟨some a, cap, rfl, Nat.zero_le _, .inl rfl⟩, fun f hf => by simp at hf, by decide⟩
    · have each : ∀ i, i < len → ∃ f : Te, (W.cell? ((a.add (i * 3)).add 0) = some (.string f.bd) ∧ W.cell? ((a.add (i * 3)).add 1) = some (.int .i64 f.fr) ∧ W.cell? ((a.add (i * 3)).add 2) = some (.int .i64 f.tt)) ∧ f.bd.size ≤ maxLen := by
        intro i hi
        obtain ⟨cs', h1, h2⟩ := hall i (by omega)
        rw [cells31] at h1
        obtain ⟨_, hlen, hcell⟩ := World.cells?_some h1
        obtain ⟨y0, y1, y2, k, hxy, _, u0, u1, u2⟩ := trod_struct3 Tryz.underlying61 h2
        match cs', hlen with
        | [v0, v1, v2], _ =>
          simp only [cells9, cells3, List.drop, List.take] at u0 u1 u2
          obtain ⟨s0, e0, d0, z0⟩ := DataW.trod_string Tryz.underlying9 u0
          obtain ⟨q1, e1, d1, _⟩ := DataW.trod_int Tryz.underlying3 u1
          obtain ⟨q2, e2, d2, _⟩ := DataW.trod_int Tryz.underlying3 u2
          simp only [List.cons.injEq, and_true] at e0 e1 e2
          subst e0; subst e1; subst e2
          have c0 := hcell 0 (by omega)
          have c1 := hcell 1 (by omega)
          have c2 := hcell 2 (by omega)
          exact ⟨⟨s0, q1, q2⟩, ⟨by simpa using c0, by simpa using c1, by simpa using c2⟩, z0⟩
      haveI : Inhabited Te := ⟨⟨⟨#[]⟩, 0, 0⟩⟩
      obtain ⟨q, hq⟩ := choose_lt each
      have hsp : a.spot = none ∧ a.block < W.heap.size := by
        have c0 := (hq 0 (by omega)).1.1
        rw [addz, Nat.zero_mul, addz] at c0
        exact cell_plain c0
      obtain ⟨bk, off, spot⟩ := a
      obtain ⟨e1, e2⟩ := hsp
      simp only at e1 e2
      subst e1
      refine ⟨(List.range len).map q, ⟨_, cap, by simp, by simpa using hl, .inr ⟨bk, off, rfl, e2, fun k y hy => ?_⟩⟩, fun f hf => ?_, by simp; omega⟩
      · rw [List.getElem?_map] at hy
        obtain ⟨k', h1, h2⟩ := Option.map_eq_some_iff.1 hy
        obtain ⟨h3, h4⟩ := List.getElem?_eq_some_iff.1 h1
        simp at h3 h4
        subst h4; subst h2
        obtain ⟨c0, c1, c2⟩ := (hq k h3).1
        rw [Addr.add_lit, Addr.add_lit] at c0 c1 c2
        exact ⟨c0, c1, c2⟩
      · obtain ⟨i, hi, rfl⟩ := List.mem_map.1 hf
        exact (hq i (List.mem_range.1 hi)).2
set_option maxRecDepth 100000 in
theorem open_graph {W : World} {r : Reach} {b0 b : Nat} {sp : Nat → Bool} {hd : Bool} {v : Value} {d : DataW H} {p : List MemPlace} (hv : Value.okWide Tryz.prog W r b0 25 v) (h : DataW.Trod enc Tryz.prog W b sp hd 25 v d p) :
    ∃ vn vt N T, v = .agg #[vn, vt] ∧ IsN W vn N ∧ IsT W vt T ∧ SzN N ∧ SzT T ∧ N.length ≤ maxLen ∧ T.length ≤ maxLen := by
  simp only [Value.okWide, Tryz.underlying25] at hv
  obtain ⟨cs, rfl, hcs, ts, hts, _, hrow⟩ := hv
  rw [cells25] at hcs
  obtain rfl := Option.some.inj (types25.symm.trans hts)
  obtain ⟨l⟩ := cs
  match l, hcs with
  | [vk, vb], _ =>
    obtain ⟨t0, e0, w0⟩ := hrow 0 vk rfl
    obtain ⟨t1, e1, w1⟩ := hrow 1 vb rfl
    obtain rfl : 22 = t0 := by simpa using e0
    obtain rfl : 23 = t1 := by simpa using e1
    have o0 : Value.okWide Tryz.prog W r b0 22 vk := by simp only [Value.okWide, Tryz.underlying22]; exact w0
    have o1 : Value.okWide Tryz.prog W r b0 23 vb := by simp only [Value.okWide, Tryz.underlying23]; exact w1
    obtain ⟨a0, l0, c0, rfl⟩ := okWide_slice Tryz.underlying22 o0
    obtain ⟨a1, l1, c1, rfl⟩ := okWide_slice Tryz.underlying23 o1
    obtain ⟨fuel, hf⟩ := h
    have hf' : DataW.trod enc Tryz.prog W b sp hd fuel 25 [.slice a0 l0 c0, .slice a1 l1 c1] = some (d, p) := by simpa [Value.cells] using hf
    obtain ⟨y0, y1, k, _, _, u0, u1⟩ := trod_struct2 Tryz.underlying25 hf'
    simp only [cells22, cells23, List.drop, List.take] at u0 u1
    obtain ⟨N, h1, h2, h3⟩ := open_nodes u0
    obtain ⟨T, h4, h5, h6⟩ := open_ties u1
    exact ⟨_, _, N, T, rfl, h1, h4, h2, h5, h3, h6⟩
end
end Go.Proofs.YteabdlandbmdaaaGreatDoor

/-
  The walk of record.merged with one property.
-/
namespace Go.Proofs.YteabdlandbmdaaaGreatDoor
open Go.RowKit
set_option linter.unusedVariables false
set_option linter.unusedSimpArgs false

theorem cells_new (w0 : World) (p : Pr) : ∀ j u, p.cells[j]? = some u → (w0.alloc (.cells #[.string p.nm, .int .i64 p.t, .int .i64 p.n, .string p.s] 33)).cell? ((⟨w0.heap.size, 0, none⟩ : Addr).add j) = some u := by
  intro j u hu
  match j, hu with
  | 0, hu => simp [Pr.cells] at hu; subst hu; simp [Addr.add]
  | 1, hu => simp [Pr.cells] at hu; subst hu; simp [Addr.add]
  | 2, hu => simp [Pr.cells] at hu; subst hu; simp [Addr.add]
  | 3, hu => simp [Pr.cells] at hu; subst hu; simp [Addr.add]
  | k + 4, hu => simp [Pr.cells] at hu
theorem cells_one (p : Pr) : ∀ u ∈ p.cells, u.oneCell' = true := by
  intro u hu
  simp [Pr.cells] at hu
  rcases hu with rfl | rfl | rfl | rfl <;> rfl

theorem Lies.drop {w : World} {b off : Nat} {L : List Pr} (h : Lies w b off L) (i : Nat) : Lies w b (off + i * 4) (L.drop i) := fun k p hp => by
  have := h (i + k) p (by simpa using hp)
  rw [show off + (i + k) * 4 = off + i * 4 + k * 4 by omega] at this
  exact this

end Go.Proofs.YteabdlandbmdaaaGreatDoor

/-
  The walks of record.merged at the empty record, of record.Join with one property, and of record.Set.
-/
namespace Go.Proofs.YteabdlandbmdaaaGreatDoor
open Go.RowKit
set_option linter.unusedVariables false
set_option linter.unusedSimpArgs false
theorem cellsOf_at {M : List Pr} {k : Nat} {p : Pr} (h : M[k]? = some p) : (cellsOf M)[k * 4]? = some (.string p.nm) ∧ (cellsOf M)[k * 4 + 1]? = some (.int .i64 p.t) ∧ (cellsOf M)[k * 4 + 2]? = some (.int .i64 p.n) ∧ (cellsOf M)[k * 4 + 3]? = some (.string p.s) := by
  induction M generalizing k with
  | nil => simp at h
  | cons a r ih =>
    cases k with
    | zero => simp at h; subst h; simp [cellsOf, Pr.cells]
    | succ k =>
      have := ih (k := k) (by simpa using h)
      have e : ∀ j, (cellsOf (a :: r))[(k + 1) * 4 + j]? = (cellsOf r)[k * 4 + j]? := fun j => by
        rw [show (k + 1) * 4 + j = (k * 4 + j) + 4 by omega]; simp [cellsOf, Pr.cells]
      exact ⟨(e 0).trans this.1, (e 1).trans this.2.1, (e 2).trans this.2.2.1, (e 3).trans this.2.2.2⟩
theorem own_isRec {w : World} {base : Nat} {v : Value} {M : List Pr} (h : w.ownsRow base 33 4 v M.length (cellsOf M)) : IsRec w v M := by
  have hc : ∀ g, v.ownBlock = some g → ∀ j u, (cellsOf M)[j]? = some u → w.cell? ((⟨g, 0, none⟩ : Addr).add j) = some u := fun g hg => h.cells hg
  rcases h.2 with ⟨rfl, h0⟩ | ⟨g, cap, cur, rfl, hb, hg, hle, hcm, hcs, ht⟩
  · exact .inl ⟨rfl, List.eq_nil_of_length_eq_zero h0⟩
  · refine .inr ⟨g, 0, cap, rfl, hle, (Array.getElem?_eq_some_iff.1 hg).1, fun k p hp => ?_⟩
    obtain ⟨c0, c1, c2, c3⟩ := cellsOf_at hp
    have hc' := hc g rfl
    have d0 := hc' _ _ c0
    have d1 := hc' _ _ c1
    have d2 := hc' _ _ c2
    have d3 := hc' _ _ c3
    rw [Addr.add_lit] at d0 d1 d2 d3
    exact ⟨d0, by rw [Nat.add_assoc]; exact d1, by rw [Nat.add_assoc]; exact d2, by rw [Nat.add_assoc]; exact d3⟩

theorem rErr_len {L : List Pr} (h : rErr L = 0) : L.length ≤ 8 := by
  unfold rErr at h; split at h
  · exact absurd h (by decide)
  · omega

theorem own_sliceR {w : World} {base : Nat} {e : TypeId} {size : Nat} {v : Value} {n : Nat} {xs : List Value} (h : w.ownsRow base e size v n xs) : ∃ ao cp, v = .slice ao n cp := by
  rcases h.2 with ⟨rfl, rfl⟩ | ⟨g, cap, cur, rfl, _⟩
  · exact ⟨none, 0, rfl⟩
  · exact ⟨_, _, rfl⟩
end Go.Proofs.YteabdlandbmdaaaGreatDoor

/-
  The walks of record.Set, record.find and record.Get.
-/
namespace Go.Proofs.YteabdlandbmdaaaGreatDoor
open Go.RowKit
set_option linter.unusedVariables false
set_option linter.unusedSimpArgs false

end Go.Proofs.YteabdlandbmdaaaGreatDoor
