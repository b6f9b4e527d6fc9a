/-
  A change as a parameter.
-/
import Derived.Test.YtpmblbhemcippaaGreatM48
import Derived.Test.YtpmblbhemcippaaGreatM16
namespace Go.Proofs.YtpmblbhemcippaaGreat
open Go.ChangeShapes Go.WideShapes Go.ChangeAt Go.RowKit Go.Joins Go.Deep
open Go.ChangeMaps (open_string shut_string)
set_option linter.unusedVariables false
set_option linter.unusedSimpArgs false

theorem cells37 : Tryz.prog.cellsOf 37 = 18 := by kernel_rfl
theorem cells29 : Tryz.prog.cellsOf 29 = 3 := by kernel_rfl
theorem cells31 : Tryz.prog.cellsOf 31 = 5 := by kernel_rfl
theorem cells33 : Tryz.prog.cellsOf 33 = 4 := by kernel_rfl
theorem cells35 : Tryz.prog.cellsOf 35 = 3 := by kernel_rfl
theorem cellsN26 : Tryz.prog.cellsOf 26 = 1 := by kernel_rfl
theorem cellsN27 : Tryz.prog.cellsOf 27 = 1 := by kernel_rfl
theorem bytes9 : Tryz.prog.bytesOf 9 = 16 := by kernel_rfl
theorem bytes33 : Tryz.prog.bytesOf 33 = 32 := by kernel_rfl
theorem reach47 : reachBytes ≤ 140737488355328 := by decide
section
variable {H : Type} {enc : TypeId × Value → H}
theorem len_within {W : World} {b : Nat} {sp : Nat → Bool} {hd : Bool} {n : Nat} {t e : TypeId} {v : Value} {x : DataW H × List MemPlace} (ht : Tryz.prog.underlying t = some (.slice e)) (h : DataW.trod enc Tryz.prog W b sp hd n t [v] = some x) (hw : ∀ k ∈ x.1.weights Tryz.prog t, k ≤ reachBytes) :
    ∃ ao len cp, v = .slice ao len cp ∧ len * Tryz.prog.bytesOf e ≤ reachBytes := by
  rcases DataW.trod_slice ht h with ⟨hc, _⟩ | ⟨a, len, cap, elems, rest, m, _, hc, hx, _, _, _, hl, _⟩
  · simp only [List.cons.injEq, and_true] at hc
    exact ⟨none, 0, 0, hc, by simp⟩
  · simp only [List.cons.injEq, and_true] at hc
    refine ⟨some a, len, cap, hc, ?_⟩
    have := hw ((elems.length + rest.length) * Tryz.prog.bytesOf e) (by rw [hx]; simp [DataW.weights, ht])
    rw [hl] at this
    exact Nat.le_trans (Nat.mul_le_mul_right _ (Nat.le_add_right _ _)) this
theorem trod_seven {W : World} {b : Nat} {sp : Nat → Bool} {hd : Bool} {t : TypeId} {f0 f1 f2 f3 f4 f5 f6 : Field} {fuel : Nat} {cs : List Value} {x : DataW H × List MemPlace} (ht : Tryz.prog.underlying t = some (.struct #[f0, f1, f2, f3, f4, f5, f6])) (h : DataW.trod enc Tryz.prog W b sp hd fuel t cs = some x) :
    ∃ y0 y1 y2 y3 y4 y5 y6 n, x.1 = .agg [y0.1, y1.1, y2.1, y3.1, y4.1, y5.1, y6.1] ∧ DataW.trod enc Tryz.prog W b sp hd n f0.type ((cs.drop f0.offset).take (Tryz.prog.cellsOf f0.type)) = some y0 ∧ DataW.trod enc Tryz.prog W b sp hd n f1.type ((cs.drop f1.offset).take (Tryz.prog.cellsOf f1.type)) = some y1 ∧ DataW.trod enc Tryz.prog W b sp hd n f2.type ((cs.drop f2.offset).take (Tryz.prog.cellsOf f2.type)) = some y2 ∧ DataW.trod enc Tryz.prog W b sp hd n f3.type ((cs.drop f3.offset).take (Tryz.prog.cellsOf f3.type)) = some y3 ∧ DataW.trod enc Tryz.prog W b sp hd n f4.type ((cs.drop f4.offset).take (Tryz.prog.cellsOf f4.type)) = some y4 ∧ DataW.trod enc Tryz.prog W b sp hd n f5.type ((cs.drop f5.offset).take (Tryz.prog.cellsOf f5.type)) = some y5 ∧ DataW.trod enc Tryz.prog W b sp hd n f6.type ((cs.drop f6.offset).take (Tryz.prog.cellsOf f6.type)) = some y6 := by
  obtain ⟨xs, n, _, hx, _, hxl, hf⟩ := DataW.trod_struct ht h
  match xs, hxl with
  | [y0, y1, y2, y3, y4, y5, y6], _ => exact ⟨y0, y1, y2, y3, y4, y5, y6, n, congrArg (·.1) hx, hf 0 f0 rfl, hf 1 f1 rfl, hf 2 f2 rfl, hf 3 f3 rfl, hf 4 f4 rfl, hf 5 f5 rfl, hf 6 f6 rfl⟩
set_option maxRecDepth 100000 in
theorem open_change {W : World} {r : Reach} {b0 b : Nat} {sp : Nat → Bool} {hd : Bool} {v : Value} {d : DataW H} {p : List MemPlace} (hv : Value.okWide Tryz.prog W r b0 37 v) (h : DataW.Trod enc Tryz.prog W b sp hd 37 v d p) (hw : ∀ k ∈ d.weights Tryz.prog 37, k ≤ reachBytes) :
    ∃ c, v = c.one ∧ ChIs W c ∧ ChSz c := by
  simp only [Value.okWide, Tryz.underlying37] at hv
  obtain ⟨cs, rfl, hcs, _⟩ := hv
  rw [cells37] at hcs
  obtain ⟨l⟩ := cs
  match l, hcs with
  | [v0, v1, v2, v3, v4, v5, v6, v7, v8, v9, v10, v11, v12, v13, v14, v15, v16, v17], _ =>
    obtain ⟨fuel, hf⟩ := h
    have hf' : DataW.trod enc Tryz.prog W b sp hd fuel 37 [v0, v1, v2, v3, v4, v5, v6, v7, v8, v9, v10, v11, v12, v13, v14, v15, v16, v17] = some (d, p) := by simpa [Value.cells] using hf
    obtain ⟨x0, x1, x2, x3, x4, x5, x6, m, hx1, u0, u1, u2, u3, u4, u5, u6⟩ := trod_seven Tryz.underlying37 hf'
    replace hx1 : d = .agg [x0.1, x1.1, x2.1, x3.1, x4.1, x5.1, x6.1] := hx1
    simp only [cells3C, cells9C, cells29, cells31, cells33, cells35, List.drop, List.take] at u0 u1 u2 u3 u4 u5 u6
    have hw2 : ∀ k ∈ x2.1.weights Tryz.prog 29, k ≤ reachBytes := fun k hk => hw k (by
      rw [hx1]
      simp only [DataW.weights, Tryz.underlying37]
      exact DataW.weights_mem_each (j := 2) rfl rfl k hk)
    obtain ⟨q0, f0, _, _⟩ := DataW.trod_int Tryz.underlying3 u0
    obtain ⟨s1, f1, _, z1⟩ := DataW.trod_string Tryz.underlying9 u1
    obtain ⟨y0, y1, y2, m2, hy, _, t0, t1, t2⟩ := trod_struct3 Tryz.underlying29 u2
    simp only [cells9C, cellsN26, cellsN27, List.drop, List.take] at t0 t1 t2
    have hy1 : x2.1 = .agg [y0.1, y1.1, y2.1] := by first | exact congrArg (·.1) hy | exact hy
    have hwo : ∀ k ∈ y1.1.weights Tryz.prog 26, k ≤ reachBytes := fun k hk => hw2 k (by
      rw [hy1]
      simp only [DataW.weights, Tryz.underlying29]
      exact DataW.weights_mem_each (j := 1) rfl rfl k hk)
    have hwf : ∀ k ∈ y2.1.weights Tryz.prog 27, k ≤ reachBytes := fun k hk => hw2 k (by
      rw [hy1]
      simp only [DataW.weights, Tryz.underlying29]
      exact DataW.weights_mem_each (j := 2) rfl rfl k hk)
    obtain ⟨s2, f2, _, z2⟩ := DataW.trod_string Tryz.underlying9 t0
    obtain ⟨lo1, hS⟩ := open_names t1
    obtain ⟨lf, hF, hZ⟩ := open_fields t2
    obtain ⟨ao, ln, cn, g1, g2⟩ := len_within Tryz.underlying26 t1 hwo
    obtain ⟨af, lm, cm, g3, g4⟩ := len_within Tryz.underlying27 t2 hwf
    rw [bytes9] at g2
    rw [bytes33] at g4
    have e1 : lo1.length = ln := by
      obtain ⟨a, c, e, _⟩ := hS.sln
      rw [g1] at e
      injection e with _ e
      exact e.symm
    have e2 : lf.length = lm := by
      obtain ⟨a, c, e, _⟩ := hF.sln
      rw [g3] at e
      injection e with _ e
      exact e.symm
    obtain ⟨r0, r1, r2, r3, r4, m3, w0, w1, w2, w3, w4⟩ := trod_five Tryz.underlying31 u3
    simp only [cells9C, cells3C, List.drop, List.take] at w0 w1 w2 w3 w4
    obtain ⟨s5, f5, _, z5⟩ := DataW.trod_string Tryz.underlying9 w0
    obtain ⟨s6, f6, _, _⟩ := DataW.trod_string Tryz.underlying9 w1
    obtain ⟨s7, f7, _, _⟩ := DataW.trod_string Tryz.underlying9 w2
    obtain ⟨q8, f8, _, _⟩ := DataW.trod_int Tryz.underlying3 w3
    obtain ⟨q9, f9, _, _⟩ := DataW.trod_int Tryz.underlying3 w4
    obtain ⟨fd, f10, z10⟩ := cells_field rfl u4
    obtain ⟨k0, k1, k2, m5, _, _, j0, j1, j2⟩ := trod_struct3 Tryz.underlying35 u5
    simp only [cells9C, cells3C, List.drop, List.take] at j0 j1 j2
    obtain ⟨q14, f14, _, _⟩ := DataW.trod_int Tryz.underlying3 j0
    obtain ⟨q15, f15, _, _⟩ := DataW.trod_int Tryz.underlying3 j1
    obtain ⟨s16, f16, _, z16⟩ := DataW.trod_string Tryz.underlying9 j2
    obtain ⟨s17, f17, _, z17⟩ := DataW.trod_string Tryz.underlying9 u6
    simp only [List.cons.injEq, and_true, Fd.cells] at f0 f1 f2 f5 f6 f7 f8 f9 f10 f14 f15 f16 f17
    obtain ⟨p1, p2, p3, p4⟩ := f10
    subst f0 f1 f2 f5 f6 f7 f8 f9 f14 f15 f16 f17 p1 p2 p3 p4
    have sz : ∀ {s : ByteArray}, s.size ≤ maxLen → s.toList.length ≤ maxLen := fun {s} hs => by rw [Lib.toList_data, ← size_len]; exact hs
    refine ⟨⟨q0, s1.toList, ⟨s2.toList, lo1, lf, v3, v4⟩, ⟨s5.toList, s6.toList, s7.toList, q8, q9⟩, fd, q14, q15, s16.toList, s17.toList⟩, ?_, ⟨hS, hF⟩, ⟨sz z2, hZ⟩, ⟨?_, ?_⟩, sz z5, z10, sz z16, sz z17⟩
    · simp [Ch.one, bs_self]
    · show lo1.length * 16 ≤ _
      rw [e1]
      exact Nat.le_trans g2 reach47
    · show lf.length * 32 ≤ _
      rw [e2]
      exact Nat.le_trans g4 reach47
end
end Go.Proofs.YtpmblbhemcippaaGreat
