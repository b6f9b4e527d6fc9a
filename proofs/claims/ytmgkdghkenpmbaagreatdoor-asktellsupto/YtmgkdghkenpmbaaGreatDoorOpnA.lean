/-
  A path as a parameter; what lies in the program's tables.
-/
import Derived.Test.YtmgkdghkenpmbaaGreatDoorRows
import Derived.Test.YtmgkdghkenpmbaaGreatDoorAskN
import Derived.ProofKit
import Derived.LaidMore
import Derived.OpenShut
import Derived.ShutString
import Derived.ChangeMaps5
import Derived.Stop.Joined
import Derived.Stop.LaidErr
import Derived.Lib.SmallJoins
import Derived.Carry
import Derived.SizedLaws
import Derived.MakeChecks
import Derived.Deep.Slices
import Derived.Deep.Strs
namespace Go.Proofs.YtmgkdghkenpmbaaGreatDoor
open Go.ChangeShapes Go.WideShapes Go.ChangeAt Go.RowKit Go.Joins Go.Deep
open Go.ChangeMaps (open_string shut_string)
set_option linter.unusedVariables false
set_option linter.unusedSimpArgs false

theorem own : ownKnob Tryz.prog.godebug = none := by kernel_rfl
theorem laidOut : laidOutB Tryz.prog = true := by kernel_rfl
theorem tabNamed : Tryz.prog.globalNamed "internal/strconv.uint64pow10" = some 3 := by kernel_rfl
theorem tabType : (Tryz.prog.globals[3]?).map (·.type) = some 170 := by kernel_rfl
theorem tabData_eq : (Rows.laid_internal_strconv_uint64pow10 : DataW Unit) = Lib.tabData .u64 Lib.pow10Tab := by kernel_rfl
/-- The table, where it stands first on the list. -/
theorem tab_of {W : World} {rest : List (String × DataW Unit)} (h : laidMet Tryz.prog (("internal/strconv.uint64pow10", Rows.laid_internal_strconv_uint64pow10) :: rest) W) : Tab W := by
  rw [tabData_eq] at h
  exact Lib.tabIs_of_head tabNamed tabType Tryz.underlying170 Tryz.underlying160 (by kernel_rfl) (by kernel_rfl) h
theorem cellsT33 : Tryz.prog.cellsOf 33 = 5 := by kernel_rfl
theorem cellsS29 : Tryz.prog.cellsOf 29 = 4 := by kernel_rfl
theorem cellsT27 : Tryz.prog.cellsOf 27 = 1 := by kernel_rfl
theorem cellsV31 : Tryz.prog.cellsOf 31 = 3 := by kernel_rfl
theorem cells9C : Tryz.prog.cellsOf 9 = 1 := by kernel_rfl
theorem cells3C : Tryz.prog.cellsOf 3 = 1 := by kernel_rfl
theorem cells4 : Tryz.prog.cellsOf 4 = 1 := by kernel_rfl
/-- A cell that is there has no spot, and its block is there. -/
theorem cell_plainC {W : World} {a : Addr} {u : Value} (h : W.cell? a = some u) : a.spot = none ∧ a.block < W.heap.size := by
  refine ⟨?_, World.block_lt_of_cell? W _ h⟩
  obtain ⟨bk, off, spot⟩ := a
  cases spot with
  | none => rfl
  | some sp =>
    exfalso
    unfold World.cell? at h
    split at h
    · simp at h
    · cases h
theorem toL_le {s : ByteArray} {n : Nat} (h : s.size ≤ n) : s.toList.length ≤ n := by rw [Lib.toList_data, ← size_len]; exact h
theorem addzC (a : Addr) : a.add 0 = a := by simp [Addr.add]

section
variable {H : Type} {enc : TypeId × Value → H}
set_option maxRecDepth 100000 in
/-- Five cells that read as a test. -/
theorem cells_test {W : World} {b : Nat} {sp : Nat → Bool} {hd : Bool} {n : Nat} {cs : List Value} {x : DataW H × List MemPlace} (hlen : cs.length = 5) (h : DataW.trod enc Tryz.prog W b sp hd n 33 cs = some x) :
    ∃ q : Tst, cs = q.cells ∧ TsSz q := by
  obtain ⟨y0, y1, y2, k, hxy, _, u0, u1, u2⟩ := trod_struct3 Tryz.underlying33 h
  match cs, hlen with
  | [v0, v1, v2, v3, v4], _ =>
    simp only [cells9C, cells3C, cellsV31, List.drop, List.take] at u0 u1 u2
    obtain ⟨s0, e0, d0, z0⟩ := DataW.trod_string Tryz.underlying9 u0
    obtain ⟨q1, e1, d1, _⟩ := DataW.trod_int Tryz.underlying3 u1
    obtain ⟨w0, w1, w2, k2, hw, _, t0, t1, t2⟩ := trod_struct3 Tryz.underlying31 u2
    simp only [cells9C, cells3C, List.drop, List.take] at t0 t1 t2
    obtain ⟨q2, e2, d2, _⟩ := DataW.trod_int Tryz.underlying3 t0
    obtain ⟨q3, e3, d3, _⟩ := DataW.trod_int Tryz.underlying3 t1
    obtain ⟨s4, e4, d4, z4⟩ := DataW.trod_string Tryz.underlying9 t2
    simp only [List.cons.injEq, and_true] at e0 e1 e2 e3 e4
    subst e0; subst e1; subst e2; subst e3; subst e4
    refine ⟨⟨s0.toList, q1, q2, q3, s4.toList⟩, ?_, ?_, ?_⟩
    · simp [Tst.cells, bs_self]
    · show s0.toList.length ≤ maxLen
      rw [Lib.toList_data, ← size_len]; exact z0
    · show s4.toList.length ≤ maxLen
      rw [Lib.toList_data, ← size_len]; exact z4
/-- Tests within. -/
theorem open_tests {W : World} {b : Nat} {sp : Nat → Bool} {hd : Bool} {n : Nat} {v : Value} {x : DataW H × List MemPlace} (h : DataW.trod enc Tryz.prog W b sp hd n 27 [v] = some x) : ∃ l, IsTs W v l ∧ l.length ≤ maxLen ∧ ∀ t ∈ l, TsSz t := by
  rcases open_slice Tryz.underlying27 h with ⟨hc, _⟩ | ⟨a, len, cap, m, n, D, Pl, hc, hb, hl, hm, hmm, _, hall⟩
  · simp only [List.cons.injEq, and_true] at hc
    exact ⟨[], ⟨none, 0, hc, .inl rfl⟩, by decide, fun f hf => by simp at hf⟩
  · simp only [List.cons.injEq, and_true] at hc
    subst hc
    have hlm : len ≤ m := by rw [hmm]; split <;> omega
    by_cases h0 : len = 0
    · subst h0
      exact ⟨[], ⟨some a, cap, rfl, .inl rfl⟩, by decide, fun f hf => by simp at hf⟩
    · have each : ∀ i, i < len → ∃ f : Tst, (∀ j, j < 5 → W.cell? ((a.add (i * 5)).add j) = f.cells[j]?) ∧ TsSz f := by
        intro i hi
        obtain ⟨cs', h1, h2⟩ := hall i (by omega)
        rw [cellsT33] at h1
        obtain ⟨_, hlen, hcell⟩ := World.cells?_some h1
        obtain ⟨f, rfl, z⟩ := cells_test hlen h2
        exact ⟨f, hcell, z⟩
      haveI : Inhabited Tst := ⟨⟨[], 0, 0, 0, []⟩⟩
      obtain ⟨q, hq⟩ := choose_lt each
      have hsp : a.spot = none ∧ a.block < W.heap.size := by
        have c0 := (hq 0 (by omega)).1 0 (by decide)
        rw [addzC, Nat.zero_mul, addzC] at c0
        exact cell_plainC (c0.trans rfl)
      obtain ⟨bk, off, spot⟩ := a
      obtain ⟨e1, e2⟩ := hsp
      simp only at e1 e2
      subst e1
      refine ⟨(List.range len).map q, ⟨_, cap, by simp, .inr ⟨bk, off, rfl, e2, fun k y hy => ?_⟩⟩, by simp; omega, fun f hf => ?_⟩
      · rw [List.getElem?_map] at hy
        obtain ⟨k', h1, h2⟩ := Option.map_eq_some_iff.1 hy
        obtain ⟨h3, h4⟩ := List.getElem?_eq_some_iff.1 h1
        simp at h3 h4
        subst h4; subst h2
        have hh := (hq k h3).1
        have c0 := hh 0 (by decide)
        have c1 := hh 1 (by decide)
        have c2 := hh 2 (by decide)
        have c3 := hh 3 (by decide)
        have c4 := hh 4 (by decide)
        rw [Addr.add_lit, Addr.add_lit] at c0 c1 c2 c3 c4
        exact ⟨by simpa [Tst.cells] using c0, by simpa [Tst.cells] using c1, by simpa [Tst.cells] using c2, by simpa [Tst.cells] using c3, by simpa [Tst.cells] using c4⟩
      · obtain ⟨i, hi, rfl⟩ := List.mem_map.1 hf
        exact (hq i (List.mem_range.1 hi)).2
set_option maxRecDepth 100000 in
/-- A path that came in. -/
theorem open_path {W : World} {r : Reach} {b0 b : Nat} {sp : Nat → Bool} {hd : Bool} {v : Value} {d : DataW H} {p : List MemPlace} (hv : Value.okWide Tryz.prog W r b0 22 v) (h0 : DataW.Trod enc Tryz.prog W b sp hd 22 v d p) :
    ∃ L, IsSp W v L ∧ (∀ p ∈ L, SpSz p.st) ∧ L.length ≤ maxLen := by
  obtain ⟨a0, l0, c0, rfl⟩ := okWide_slice Tryz.underlying22 hv
  obtain ⟨fuel, hf⟩ := h0
  have h : DataW.trod enc Tryz.prog W b sp hd fuel 22 [.slice a0 l0 c0] = some (d, p) := by simpa [Value.cells] using hf
  rcases open_slice Tryz.underlying22 h with ⟨hc, _⟩ | ⟨a, len, cap, m, n, D, Pl, hc, hb, hl, hm, hmm, _, hall⟩
  · simp only [List.cons.injEq, and_true] at hc
    exact ⟨[], ⟨none, 0, hc, .inl rfl⟩, fun f hf => by simp at hf, by decide⟩
  · simp only [List.cons.injEq, and_true] at hc
    rw [hc]
    clear hc
    have hlm : len ≤ m := by rw [hmm]; split <;> omega
    by_cases h0 : len = 0
    · subst h0
      exact ⟨[], ⟨some a, cap, rfl, .inl rfl⟩, fun f hf => by simp at hf, by decide⟩
    · have each : ∀ i, i < len → ∃ f : Sp, (W.cell? ((a.add (i * 4)).add 0) = some (.string (bs f.st.bd)) ∧ W.cell? ((a.add (i * 4)).add 1) = some (.bool f.st.back) ∧ W.cell? ((a.add (i * 4)).add 2) = some (.string (bs f.st.kd)) ∧ W.cell? ((a.add (i * 4)).add 3) = some f.vt ∧ IsTs W f.vt f.st.ts) ∧ SpSz f.st := by
        intro i hi
        obtain ⟨cs', h1, h2⟩ := hall i (by omega)
        rw [cellsS29] at h1
        obtain ⟨_, hlen, hcell⟩ := World.cells?_some h1
        obtain ⟨y0, y1, y2, y3, k, hxy, _, u0, u1, u2, u3⟩ := trod_struct4 Tryz.underlying29 h2
        match cs', hlen with
        | [v0, v1, v2, v3], _ =>
          simp only [cells9C, cells4, cellsT27, List.drop, List.take] at u0 u1 u2 u3
          obtain ⟨s0, e0, d0, z0⟩ := DataW.trod_string Tryz.underlying9 u0
          obtain ⟨b1, e1, _⟩ := DataW.trod_bool Tryz.underlying4 u1
          obtain ⟨s2, e2, d2, z2⟩ := DataW.trod_string Tryz.underlying9 u2
          obtain ⟨ts, hT, lT, zT⟩ := open_tests u3
          simp only [List.cons.injEq, and_true] at e0 e1 e2
          subst e0; subst e1; subst e2
          have c0 := hcell 0 (by omega)
          have c1 := hcell 1 (by omega)
          have c2 := hcell 2 (by omega)
          have c3 := hcell 3 (by omega)
          refine ⟨⟨⟨s0.toList, b1, s2.toList, ts⟩, v3⟩, ⟨?_, by simpa using c1, ?_, by simpa using c3, hT⟩, toL_le z0, toL_le z2, lT, zT⟩
          · show _ = some (Value.string (bs s0.toList))
            rw [bs_self]; simpa using c0
          · show _ = some (Value.string (bs s2.toList))
            rw [bs_self]; simpa using c2
      haveI : Inhabited Sp := ⟨⟨⟨[], false, [], []⟩, .nilIface⟩⟩
      obtain ⟨q, hq⟩ := choose_lt each
      have hsp : a.spot = none ∧ a.block < W.heap.size := by
        have c0 := (hq 0 (by omega)).1.1
        rw [addzC, Nat.zero_mul, addzC] at c0
        exact cell_plainC c0
      obtain ⟨bk, off, spot⟩ := a
      obtain ⟨e1, e2⟩ := hsp
      simp only at e1 e2
      subst e1
      refine ⟨(List.range len).map q, ⟨_, cap, by simp, .inr ⟨bk, off, rfl, e2, fun k y hy => ?_⟩⟩, fun f hf => ?_, by simp; omega⟩
      · rw [List.getElem?_map] at hy
        obtain ⟨k', h1, h2⟩ := Option.map_eq_some_iff.1 hy
        obtain ⟨h3, h4⟩ := List.getElem?_eq_some_iff.1 h1
        simp at h3 h4
        subst h4; subst h2
        obtain ⟨⟨c0, c1, c2, c3, hT⟩, _⟩ := hq k h3
        rw [Addr.add_lit, Addr.add_lit] at c0 c1 c2 c3
        exact ⟨⟨c0, c1, c2, c3⟩, hT⟩
      · obtain ⟨i, hi, rfl⟩ := List.mem_map.1 hf
        exact (hq i (List.mem_range.1 hi)).2
end
theorem sgNamed : Tryz.prog.globalNamed "kinshape/ask.signs" = some 0 := by kernel_rfl
theorem sgType : (Tryz.prog.globals[0]?).map (·.type) = some 95 := by kernel_rfl
theorem cells95 : Tryz.prog.cellsOf 95 = 4 := by kernel_rfl
/-- An array of strings that reads as these words holds them, cell for cell. -/
theorem cells_words {H : Type} {enc : TypeId × Value → H} {w : World} {base : Nat} {sp : Nat → Bool} {held : Bool} {fuel : Nat} {cs : List Value} {ls : List Nm} {p : List MemPlace} (h : DataW.trod enc Tryz.prog w base sp held fuel 95 cs = some (.agg (ls.map fun l => .lit (.string l)), p)) : ∀ i l, i < 4 → ls[i]? = some l → cs[i]? = some (.string (bs l)) := by
  cases fuel with
  | zero => simp [DataW.trod] at h
  | succ fuel =>
    simp only [DataW.trod, Tryz.underlying95, cells9C, cells95, Nat.mul_one] at h
    split at h
    · obtain ⟨xs, hm, hx⟩ := Option.map_eq_some_iff.1 h
      have hxs : xs.map (·.1) = ls.map fun l => (DataW.lit (.string l) : DataW H) := by
        have := congrArg Prod.fst hx
        simpa using this
      intro i l hi hl
      obtain ⟨y, hy, hf⟩ := Lib.mapM_at hm i i (by simp [hi])
      obtain ⟨s, hc, rfl, _⟩ := DataW.trod_string Tryz.underlying9 hf
      have h1 : cs[i]? = some (.string s) := by
        have := congrArg (·[0]?) hc
        simpa [List.getElem?_take, List.getElem?_drop] using this
      have h2 : (xs.map (·.1))[i]? = some (DataW.lit (.string s.data.toList) : DataW H) := by simp [hy]
      rw [hxs, List.getElem?_map, hl] at h2
      simp only [Option.map_some, Option.some.injEq, DataW.lit.injEq, Lit.string.injEq] at h2
      rw [h1, h2]
      rfl
    · cases h
/-- The signs, where they stand first on the list. -/
theorem sg_of {W : World} {rest : List (String × DataW Unit)} (h : laidMet Tryz.prog (("kinshape/ask.signs", Rows.laid_kinshape_ask_signs) :: rest) W) : Sg W := by
  obtain ⟨ps, ⟨g', t', cs, fuel, p, q, hg', ht', hvar, hd, _, _⟩, _⟩ := h
  obtain rfl := Option.some.inj (sgNamed.symm.trans hg')
  obtain rfl := Option.some.inj (sgType.symm.trans ht')
  have hw := cells_words (ls := [[], [61], [33], [60]]) hd
  refine ⟨?_, ?_, ?_⟩
  · have := World.var?_cell sgNamed hvar 1
    rw [this]; simpa [bs] using hw 1 _ (by omega) rfl
  · have := World.var?_cell sgNamed hvar 2
    rw [this]; simpa [bs] using hw 2 _ (by omega) rfl
  · have := World.var?_cell sgNamed hvar 3
    rw [this]; simpa [bs] using hw 3 _ (by omega) rfl
end Go.Proofs.YtmgkdghkenpmbaaGreatDoor
