/-
  A record and a property as parameters.
-/
import Derived.Test.YtghlncdnnmpikaaGreatDoorRows
import Derived.Test.YtghlncdnnmpikaaGreatDoorLawA
import Derived.ProofKit
import Derived.LaidMore
import Derived.OpenShut
import Derived.ShutString
import Derived.ChangeMaps5
import Derived.Stop.Joined
import Derived.Stop.LaidErr
import Derived.Lib.SmallJoins
import Derived.Carry
import Derived.SizedLaws
import Derived.MakeChecks
import Derived.Deep.Slices
import Derived.Deep.Strs
namespace Go.Proofs.YtghlncdnnmpikaaGreatDoor
open Go.ChangeShapes Go.WideShapes Go.ChangeAt Go.RowKit Go.Joins Go.Deep
open Go.ChangeMaps (open_string shut_string)
set_option linter.unusedVariables false
set_option linter.unusedSimpArgs false

theorem own : ownKnob Tryz.prog.godebug = none := by kernel_rfl
theorem laidOut : laidOutB Tryz.prog = true := by kernel_rfl
theorem tabNamed : Tryz.prog.globalNamed "internal/strconv.uint64pow10" = some 2 := by kernel_rfl
theorem tabType : (Tryz.prog.globals[2]?).map (·.type) = some 145 := by kernel_rfl
theorem tabData_eq : (Rows.laid_internal_strconv_uint64pow10 : DataW Unit) = Lib.tabData .u64 Lib.pow10Tab := by kernel_rfl
/-- The table, where it stands first on the list. -/
theorem tab_of {W : World} {rest : List (String × DataW Unit)} (h : laidMet Tryz.prog (("internal/strconv.uint64pow10", Rows.laid_internal_strconv_uint64pow10) :: rest) W) : Tab W := by
  rw [tabData_eq] at h
  exact Lib.tabIs_of_head tabNamed tabType Tryz.underlying145 Tryz.underlying135 (by kernel_rfl) (by kernel_rfl) h
theorem cells27 : Tryz.prog.cellsOf 27 = 4 := by kernel_rfl
theorem cells25 : Tryz.prog.cellsOf 25 = 3 := by kernel_rfl
theorem cells9 : Tryz.prog.cellsOf 9 = 1 := by kernel_rfl
theorem cells3 : Tryz.prog.cellsOf 3 = 1 := by kernel_rfl

section
variable {H : Type} {enc : TypeId × Value → H}
set_option maxRecDepth 100000 in
/-- Four cells that read as a property. -/
theorem cells_prop {W : World} {b : Nat} {sp : Nat → Bool} {hd : Bool} {n : Nat} {cs : List Value} {x : DataW H × List MemPlace} (hlen : cs.length = 4) (h : DataW.trod enc Tryz.prog W b sp hd n 27 cs = some x) :
    ∃ q : Pr, cs = q.cells ∧ q.nm.size ≤ maxLen ∧ q.s.size ≤ maxLen := by
  obtain ⟨y0, y1, k, hxy, _, u0, u1⟩ := trod_struct2 Tryz.underlying27 h
  match cs, hlen with
  | [v0, v1, v2, v3], _ =>
    simp only [cells9, cells25, List.drop, List.take] at u0 u1
    obtain ⟨s0, e0, d0, z0⟩ := DataW.trod_string Tryz.underlying9 u0
    obtain ⟨w0, w1, w2, k2, hw, _, t0, t1, t2⟩ := trod_struct3 Tryz.underlying25 u1
    simp only [cells9, cells3, List.drop, List.take] at t0 t1 t2
    obtain ⟨q1, e1, d1, _⟩ := DataW.trod_int Tryz.underlying3 t0
    obtain ⟨q2, e2, d2, _⟩ := DataW.trod_int Tryz.underlying3 t1
    obtain ⟨s3, e3, d3, z3⟩ := DataW.trod_string Tryz.underlying9 t2
    simp only [List.cons.injEq, and_true] at e0 e1 e2 e3
    subst e0; subst e1; subst e2; subst e3
    exact ⟨⟨s0, q1, q2, s3⟩, rfl, z0, z3⟩
theorem shape_lt {W : World} {b : Nat} {x : TypeId × Nat} (h : W.shape? b = some x) : b < W.heap.size := by
  rcases Nat.lt_or_ge b W.heap.size with h1 | h1
  · exact h1
  · exfalso
    simp [World.shape?, Array.getElem?_eq_none h1] at h
set_option maxRecDepth 100000 in
/-- A record that came in. -/
theorem open_rec {W : World} {r : Reach} {b0 b : Nat} {sp : Nat → Bool} {hd : Bool} {v : Value} {d : DataW H} {p : List MemPlace} (hv : Value.okWide Tryz.prog W r b0 23 v) (h : DataW.Trod enc Tryz.prog W b sp hd 23 v d p) :
    ∃ L, IsRec W v L ∧ Sz L ∧ L.length ≤ maxLen := by
  obtain ⟨a, len, cap, rfl⟩ := okWide_slice Tryz.underlying23 hv
  obtain ⟨fuel, hf⟩ := h
  have hf' : DataW.trod enc Tryz.prog W b sp hd fuel 23 [.slice a len cap] = some (d, p) := by simpa [Value.cells] using hf
  rcases open_slice Tryz.underlying23 hf' with ⟨hc, _⟩ | ⟨a', len', cap', m, n, D, Pl, hc, hb, hl, hm, hmm, _, hall⟩
  · simp only [List.cons.injEq, and_true] at hc
    exact ⟨[], .inl ⟨hc, rfl⟩, fun q hq => by simp at hq, by simp⟩
  · simp only [List.cons.injEq, and_true, Value.slice.injEq] at hc
    obtain ⟨rfl, rfl, rfl⟩ := hc
    have hlm : len ≤ m := by rw [hmm]; split <;> omega
    simp only [Value.okWide, Tryz.underlying23, Cell.okWide, Cell.ok] at hv
    obtain ⟨_, _, _, hsp, row, cells, hsh, _⟩ := hv
    have hlt := shape_lt hsh
    obtain ⟨bk, off, spot⟩ := a'
    simp only at hsp hlt
    subst hsp
    have each : ∀ i, i < len → ∃ q : Pr, (W.cell? ⟨bk, off + i * 4, none⟩ = some (.string q.nm) ∧ W.cell? ⟨bk, off + i * 4 + 1, none⟩ = some (.int .i64 q.t) ∧ W.cell? ⟨bk, off + i * 4 + 2, none⟩ = some (.int .i64 q.n) ∧ W.cell? ⟨bk, off + i * 4 + 3, none⟩ = some (.string q.s)) ∧ q.nm.size ≤ maxLen ∧ q.s.size ≤ maxLen := by
      intro i hi
      obtain ⟨cs', h1, h2⟩ := hall i (by omega)
      rw [cells27] at h1
      obtain ⟨_, hlen, hcell⟩ := World.cells?_some h1
      obtain ⟨q, rfl, z1, z2⟩ := cells_prop hlen h2
      have c0 := hcell 0 (by omega)
      have c1 := hcell 1 (by omega)
      have c2 := hcell 2 (by omega)
      have c3 := hcell 3 (by omega)
      rw [Addr.add_lit, Addr.add_lit] at c0 c1 c2 c3
      exact ⟨q, ⟨by simpa [Pr.cells] using c0, by simpa [Pr.cells] using c1, by simpa [Pr.cells] using c2, by simpa [Pr.cells] using c3⟩, z1, z2⟩
    have : Inhabited Pr := ⟨⟨⟨#[]⟩, 0, 0, ⟨#[]⟩⟩⟩
    obtain ⟨q, hq⟩ := choose_lt each
    refine ⟨(List.range len).map q, .inr ⟨bk, off, cap, by simp, by simpa using hl, hlt, fun k x hx => ?_⟩, fun x hx => ?_, by simp; omega⟩
    · rw [List.getElem?_map] at hx
      obtain ⟨k', h1, h2⟩ := Option.map_eq_some_iff.1 hx
      obtain ⟨h3, h4⟩ := List.getElem?_eq_some_iff.1 h1
      simp at h3 h4
      subst h4; subst h2
      exact (hq k h3).1
    · obtain ⟨i, hi, rfl⟩ := List.mem_map.1 hx
      exact (hq i (List.mem_range.1 hi)).2
set_option maxRecDepth 100000 in
/-- A property that came in. -/
theorem open_prop {W : World} {r : Reach} {b0 b : Nat} {sp : Nat → Bool} {hd : Bool} {v : Value} {d : DataW H} {p : List MemPlace} (hv : Value.okWide Tryz.prog W r b0 27 v) (h : DataW.Trod enc Tryz.prog W b sp hd 27 v d p) :
    ∃ q : Pr, v = q.one ∧ Sz [q] := by
  simp only [Value.okWide, Tryz.underlying27] at hv
  obtain ⟨cs, rfl, hcs, _⟩ := hv
  rw [cells27] at hcs
  obtain ⟨fuel, hf⟩ := h
  have hf' : DataW.trod enc Tryz.prog W b sp hd fuel 27 cs.toList = some (d, p) := by simpa [Value.cells] using hf
  obtain ⟨q, hq, z1, z2⟩ := cells_prop (by simpa using hcs) hf'
  refine ⟨q, ?_, fun x hx => by simp at hx; subst hx; exact ⟨z1, z2⟩⟩
  have : cs = q.cells.toArray := by rw [← hq]
  rw [this]; rfl
end
end Go.Proofs.YtghlncdnnmpikaaGreatDoor
