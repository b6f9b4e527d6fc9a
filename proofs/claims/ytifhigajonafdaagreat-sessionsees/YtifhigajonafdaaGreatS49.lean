/-
  Ops as a parameter.
-/
import Derived.Test.YtifhigajonafdaaGreatS48
import Derived.Test.YtifhigajonafdaaGreatS46
namespace Go.Proofs.YtifhigajonafdaaGreat
open Go.ChangeShapes Go.WideShapes Go.ChangeAt Go.RowKit Go.Joins Go.Deep
open Go.ChangeMaps (open_string shut_string)
set_option linter.unusedVariables false
set_option linter.unusedSimpArgs false

theorem cells54O : Tryz.prog.cellsOf 56 = 11 := by kernel_rfl
theorem bytes50O : Tryz.prog.bytesOf 52 = 48 := by kernel_rfl
theorem reachO : reachBytes ≤ 140737488355328 := by decide
abbrev RcO (o : Opx) : Prop := OpSz o ∧ o.nd.rc.length ≤ 2932031007402
section
variable {H : Type} {enc : TypeId × Value → H}
theorem len_withinO {W : World} {b : Nat} {sp : Nat → Bool} {hd : Bool} {n : Nat} {t e : TypeId} {v : Value} {x : DataW H × List MemPlace} (ht : Tryz.prog.underlying t = some (.slice e)) (h : DataW.trod enc Tryz.prog W b sp hd n t [v] = some x) (hw : ∀ k ∈ x.1.weights Tryz.prog t, k ≤ reachBytes) :
    ∃ ao len cp, v = .slice ao len cp ∧ len * Tryz.prog.bytesOf e ≤ reachBytes := by
  rcases DataW.trod_slice ht h with ⟨hc, _⟩ | ⟨a, len, cap, elems, rest, m, _, hc, hx, _, _, _, hl, _⟩
  · simp only [List.cons.injEq, and_true] at hc
    exact ⟨none, 0, 0, hc, by simp⟩
  · simp only [List.cons.injEq, and_true] at hc
    refine ⟨some a, len, cap, hc, ?_⟩
    have := hw ((elems.length + rest.length) * Tryz.prog.bytesOf e) (by rw [hx]; simp [DataW.weights, ht])
    rw [hl] at this
    exact Nat.le_trans (Nat.mul_le_mul_right _ (Nat.le_add_right _ _)) this
theorem weightsAll_inO {P : Program} {e : TypeId} : ∀ {l : List (DataW H)} {d : DataW H}, d ∈ l → ∀ n ∈ d.weights P e, n ∈ DataW.weightsAll P e l
  | x :: r, d, h, n, hn => by
    simp only [DataW.weightsAll, List.mem_append]
    rcases List.mem_cons.1 h with rfl | h
    · exact .inl hn
    · exact .inr (weightsAll_inO h n hn)
set_option maxRecDepth 100000 in
theorem cells_op {W : World} {b : Nat} {sp : Nat → Bool} {hd : Bool} {n : Nat} {cs : List Value} {x : DataW H × List MemPlace} (hlen : cs.length = 11) (h : DataW.trod enc Tryz.prog W b sp hd n 56 cs = some x) (hw : ∀ k ∈ x.1.weights Tryz.prog 56, k ≤ reachBytes) :
    ∃ o : Opx, cs = o.cells ∧ IsR W o.nd.rv o.nd.rc ∧ RcO o := by
  obtain ⟨y0, y1, y2, y3, k, hxy, _, u0, u1, u2, u3⟩ := trod_struct4 Tryz.underlying56 h
  have hx1 : x.1 = .agg [y0.1, y1.1, y2.1, y3.1] := by first | exact congrArg (·.1) hxy | exact hxy
  match cs, hlen with
  | [v0, v1, v2, v3, v4, v5, v6, v7, v8, v9, v10], _ =>
    simp only [cells3C, cells29G, cells56G, cells31G, List.drop, List.take] at u0 u1 u2 u3
    have hw2 : ∀ k ∈ y1.1.weights Tryz.prog 48, k ≤ reachBytes := fun k hk => hw k (by
      rw [hx1]
      simp only [DataW.weights, Tryz.underlying56]
      exact DataW.weights_mem_each (j := 1) rfl rfl k hk)
    obtain ⟨q0, e0, d0, _⟩ := DataW.trod_int Tryz.underlying3 u0
    obtain ⟨a0, a1, a2, k1, ha, _, t0, t1, t2⟩ := trod_struct3 Tryz.underlying48 u1
    simp only [cells9C, cells3C, cells27G, List.drop, List.take] at t0 t1 t2
    have hy1 : y1.1 = .agg [a0.1, a1.1, a2.1] := by first | exact congrArg (·.1) ha | exact ha
    have hwr : ∀ k ∈ a2.1.weights Tryz.prog 46, k ≤ reachBytes := fun k hk => hw2 k (by
      rw [hy1]
      simp only [DataW.weights, Tryz.underlying48]
      exact DataW.weights_mem_each (j := 2) rfl rfl k hk)
    obtain ⟨q1, e1, d1, _⟩ := DataW.trod_int Tryz.underlying3 t0
    obtain ⟨s1, f1, d2, z1⟩ := DataW.trod_string Tryz.underlying9 t1
    obtain ⟨l, hR, hZ, hl⟩ := open_propsC t2
    obtain ⟨ar, lr, cr, g1, g2⟩ := len_withinO Tryz.underlying46 t2 hwr
    rw [bytes50O] at g2
    have e9 : l.length = lr := by
      obtain ⟨a, c, e, _⟩ := hR
      rw [g1] at e
      injection e with _ e
      exact e.symm
    obtain ⟨pr, ep, zp1, zp2⟩ := cells_propC rfl u2
    obtain ⟨c0, c1, c2, k3, hc, _, r0, r1, r2⟩ := trod_struct3 Tryz.underlying54 u3
    simp only [cells9C, cells3C, List.drop, List.take] at r0 r1 r2
    obtain ⟨s3, g0, d3, z3⟩ := DataW.trod_string Tryz.underlying9 r0
    obtain ⟨q4, g3, d4, _⟩ := DataW.trod_int Tryz.underlying3 r1
    obtain ⟨q5, g4, d5, _⟩ := DataW.trod_int Tryz.underlying3 r2
    simp only [List.cons.injEq, and_true, Pr.cells] at e0 e1 f1 ep g0 g3 g4
    obtain ⟨p1, p2, p3, p4⟩ := ep
    subst e0 e1 f1 g0 g3 g4 p1 p2 p3 p4
    refine ⟨⟨q0, ⟨q1, s1, v3, l⟩, pr, ⟨s3, q4, q5⟩⟩, rfl, hR, ⟨⟨z1, hZ, hl⟩, ⟨zp1, zp2⟩, z3⟩, ?_⟩
    show l.length ≤ 2932031007402
    have := reachO
    rw [e9]
    omega
set_option maxRecDepth 100000 in
theorem open_ops {W : World} {r : Reach} {b0 b : Nat} {sp : Nat → Bool} {hd : Bool} {v : Value} {d : DataW H} {p : List MemPlace} (hv : Value.okWide Tryz.prog W r b0 30 v) (h0 : DataW.Trod enc Tryz.prog W b sp hd 30 v d p) (hw : ∀ k ∈ d.weights Tryz.prog 30, k ≤ reachBytes) :
    ∃ L, IsO W v L ∧ (∀ o ∈ L, RcO o) ∧ L.length ≤ maxLen := by
  obtain ⟨a0, l0, c0, rfl⟩ := okWide_slice Tryz.underlying30 hv
  obtain ⟨fuel, hf⟩ := h0
  have h : DataW.trod enc Tryz.prog W b sp hd fuel 30 [.slice a0 l0 c0] = some (d, p) := by simpa [Value.cells] using hf
  rcases open_slice Tryz.underlying30 h with ⟨hc, _⟩ | ⟨a, len, cap, m, n, D, Pl, hc, hb, hl, hm, hmm, hx, hall⟩
  · simp only [List.cons.injEq, and_true] at hc
    exact ⟨[], ⟨none, 0, hc, Nat.le_refl _, .inl rfl⟩, fun f hf => by simp at hf, by decide⟩
  · simp only [List.cons.injEq, and_true] at hc
    rw [hc]
    clear hc
    have hlm : len ≤ m := by rw [hmm]; split <;> omega
    have hd1 : d = .slice ((List.range len).map D) ((List.range (m - len)).map fun j => D (len + j)) := congrArg (·.1) hx
    by_cases h0 : len = 0
    · subst h0
      exact ⟨[], ⟨some a, cap, rfl, Nat.zero_le _, .inl rfl⟩, fun f hf => by simp at hf, by decide⟩
    · have each : ∀ i, i < len → ∃ f : Opx, (∀ j, j < 11 → W.cell? ((a.add (i * 11)).add j) = f.cells[j]?) ∧ IsR W f.nd.rv f.nd.rc ∧ RcO f := by
        intro i hi
        obtain ⟨cs', h1, h2⟩ := hall i (by omega)
        rw [cells54O] at h1
        obtain ⟨_, hlen, hcell⟩ := World.cells?_some h1
        obtain ⟨f, rfl, z⟩ := cells_op hlen h2 (fun k hk => hw k (by
          rw [hd1]
          simp only [DataW.weights, Tryz.underlying30]
          exact List.mem_cons_of_mem _ (List.mem_append_left _ (weightsAll_inO (List.mem_map.2 ⟨i, List.mem_range.2 hi, rfl⟩) k hk))))
        exact ⟨f, hcell, z⟩
      haveI : Inhabited Opx := ⟨⟨0, ⟨0, ⟨#[]⟩, .nilIface, []⟩, ⟨⟨#[]⟩, 0, 0, ⟨#[]⟩⟩, ⟨⟨#[]⟩, 0, 0⟩⟩⟩
      obtain ⟨q, hq⟩ := choose_lt each
      have hsp : a.spot = none ∧ a.block < W.heap.size := by
        have c0 := (hq 0 (by omega)).1 0 (by decide)
        rw [addzC, Nat.zero_mul, addzC] at c0
        exact cell_plainC (c0.trans rfl)
      obtain ⟨bk, off, spot⟩ := a
      obtain ⟨e1, e2⟩ := hsp
      simp only at e1 e2
      subst e1
      refine ⟨(List.range len).map q, ⟨_, cap, by simp, by simpa using hl, .inr ⟨bk, off, rfl, e2, fun k y hy => ?_⟩⟩, fun f hf => ?_, by simp; omega⟩
      · rw [List.getElem?_map] at hy
        obtain ⟨k', h1, h2⟩ := Option.map_eq_some_iff.1 hy
        obtain ⟨h3, h4⟩ := List.getElem?_eq_some_iff.1 h1
        simp at h3 h4
        subst h4; subst h2
        refine ⟨fun j u hu => ?_, (hq k h3).2.1⟩
        have hj : j < 11 := by have := (List.getElem?_eq_some_iff.1 hu).1; rwa [op_len] at this
        have hh := (hq k h3).1 j hj
        rw [Addr.add_lit, Addr.add_lit] at hh
        exact hh.trans hu
      · obtain ⟨i, hi, rfl⟩ := List.mem_map.1 hf
        exact (hq i (List.mem_range.1 hi)).2.2
end
end Go.Proofs.YtifhigajonafdaaGreat
