/-
  The walk of delta.Do, of a graph that is right.
-/
import Derived.Test.YtidmfdbckpficaaM12
import Derived.Test.YtidmfdbckpficaaM03
namespace Go.Proofs.Ytidmfdbckpficaa
open Go.RowKit
set_option linter.unusedVariables false
set_option linter.unusedSimpArgs false

/-- What Do gives. -/
def DoPost (S : OpS) (N : List Nd) (T : List Te) (o : Opx) (w : World) (e : Ending) (w' : World) : Prop :=
  Below w.heap.size w w' ∧ ((S.e o (cN N) T = 0 ∧ ∃ un ut M, e = .returned (.tuple #[.agg #[un, ut], .nilIface]) ∧ cN M = S.m o (cN N) T ∧ OwnNs w' w.heap.size un M ∧ OwnTs w' w.heap.size ut (S.t o (cN N) T) ∧ gErr M (S.t o (cN N) T) = 0) ∨
   (S.e o (cN N) T ≠ 0 ∧ e = .returned (.tuple #[.agg #[.slice none 0 0, .slice none 0 0], errV (S.e o (cN N) T)])))
abbrev opA (o : Opx) : Array Value := #[.int .i64 o.wh, .int .i64 o.nd.id, .string o.nd.kd, o.nd.rv, .string o.pr.nm, .int .i64 o.pr.t, .int .i64 o.pr.n, .string o.pr.s, .string o.te.bd, .int .i64 o.te.fr, .int .i64 o.te.tt]
/-- The blocks of Do ahead of All. -/
abbrev doW (w : World) (vn vt : Value) (o : Opx) : World := (((w.alloc (.cells #[vn, vt] 25)).alloc (.cells (opA o) 42)).alloc (.cells #[.slice none 0 0, .slice none 0 0] 25)).alloc (.cells (opA o) 42)
theorem doW_below (w : World) (vn vt : Value) (o : Opx) : Below w.heap.size w (doW w vn vt o) := b_alloc (b_alloc (b_alloc (b_alloc (Below.refl _ _) _) _) _) _
theorem doW_size (w : World) (vn vt : Value) (o : Opx) : (doW w vn vt o).heap.size = w.heap.size + 4 := by simp [doW]
theorem doW_2 (w : World) (vn vt : Value) (o : Opx) : (doW w vn vt o).heap[w.heap.size + 2]? = some (.cells #[.slice none 0 0, .slice none 0 0] 25 (0, 0)) := by
  have := heap_alloc_new ((w.alloc (.cells #[vn, vt] 25)).alloc (.cells (opA o) 42)) (.cells #[.slice none 0 0, .slice none 0 0] 25)
  simp only [World.size_alloc] at this
  exact (heap_alloc_old _ _ (by simp)).trans this
theorem doW_3 (w : World) (vn vt : Value) (o : Opx) : (doW w vn vt o).heap[w.heap.size + 3]? = some (.cells (opA o) 42 (0, 0)) := by
  have := heap_alloc_new (((w.alloc (.cells #[vn, vt] 25)).alloc (.cells (opA o) 42)).alloc (.cells #[.slice none 0 0, .slice none 0 0] 25)) (.cells (opA o) 42)
  simp only [World.size_alloc] at this
  exact this
theorem doW_isO {w : World} {vn vt : Value} {o : Opx} (hR : IsR w o.nd.rv o.nd.rc) : IsO (doW w vn vt o) (.slice (some ⟨w.heap.size + 3, 0, none⟩) 1 1) [o] := by
  refine ⟨_, 1, rfl, Nat.le_refl _, .inr ⟨w.heap.size + 3, 0, rfl, by rw [doW_size]; omega, fun k x hx => ?_⟩⟩
  obtain ⟨rfl, rfl⟩ : k = 0 ∧ o = x := by
    have := (List.getElem?_eq_some_iff.1 hx).1
    have hk : k = 0 := by simp at this; exact this
    subst hk
    exact ⟨rfl, by simpa using hx⟩
  refine ⟨fun i u hu => ?_, hR.on (doW_below w vn vt o)⟩
  have e : 0 + 0 * 11 + i = i := by omega
  rw [e]
  exact cell_at (doW_3 w vn vt o) (by simpa [Opx.cells, opA] using hu)

set_option maxHeartbeats 4000000 in
set_option maxRecDepth 100000 in
theorem do_ok (S : OpS) {vn vt : Value} {N : List Nd} {T : List Te} {o : Opx} {w : World} (hN : IsN w vn N) (hT : IsT w vt T) (zN : SzN N) (zT : SzT T) (he : gErr N T = 0) (hR : IsR w o.nd.rv o.nd.rc) (zo : OpSz o) (hap : ApOk S o) (hri : KeepsR S o) (h0 : S.e o (cN N) T = 0) :
    Calls Try.prog 6 #[.agg #[vn, vt], o.one] w (DoPost S N T o w) := by
  have hB := doW_below w vn vt o
  have cA : Calls Try.prog 8 #[.agg #[vn, vt], .slice (some ⟨w.heap.size + 3, 0, none⟩) 1 1] (doW w vn vt o) (AllPost S N T [o] (doW w vn vt o)) := all_in S (hN.on hB) (hT.on hB) zN zT he (doW_isO hR) (by simp) (fun x hx => by simp at hx; subst hx; exact zo) (fun x hx => by simp at hx; subst hx; exact hap) (fun x hx => by simp at hx; subst hx; exact hri)
  replace cA : Calls Try.prog 8 #[.agg #[vn, vt], .slice (some ⟨w.heap.size + 3, 0, none⟩) 1 1] (doW w vn vt o) (fun e w' => ∃ un ut M, e = .returned (.tuple #[.agg #[un, ut], .int .i64 0, .nilIface]) ∧ (cN M = S.m o (cN N) T ∧ OwnNs w' w.heap.size un M ∧ OwnTs w' w.heap.size ut (S.t o (cN N) T) ∧ gErr M (S.t o (cN N) T) = 0) ∧ Below (doW w vn vt o).heap.size (doW w vn vt o) w') := cA.mono fun e w' hP => by
    obtain ⟨hB1, ⟨_, un, ut, M, rfl, hM, hN2, hT2, hg2⟩ | ⟨h1, _⟩⟩ := hP
    · simp only [OpS.res, h0, if_true] at hM hT2 hg2
      exact ⟨un, ut, M, rfl, ⟨hM, ⟨own_base hN2.1 hB.size, fun n hn => own_base (hN2.2 n hn) hB.size⟩, own_base hT2 hB.size, hg2⟩, hB1⟩
    · simp [OpS.err, h0] at h1
  have HB : Hid (Below w.heap.size w (doW w vn vt o) ∧ (doW w vn vt o).heap.size = w.heap.size + 4 ∧ (doW w vn vt o).heap[w.heap.size + 2]? = some (.cells #[.slice none 0 0, .slice none 0 0] 25 (0, 0))) := ⟨hB, doW_size w vn vt o, doW_2 w vn vt o⟩
  obtain ⟨an, cn, hvn, _⟩ := hN
  obtain ⟨am, cm, hvt, _⟩ := hT
  subst hvn hvt
  obtain ⟨av, lv, cv, hv⟩ := hR.sl
  clear hR hB hap hri zo
  obtain ⟨wh, ⟨id, kd, rv, rc⟩, ⟨nm, pt, pn, ps⟩, ⟨bd, fr, tt⟩⟩ := o
  simp only at hv
  subst hv
  unfold doW opA at cA
  simp only at cA
  obtain ⟨W3, hW3⟩ : ∃ W3, W3 = ((w.alloc (.cells #[.slice an N.length cn, .slice am T.length cm] 25)).alloc (.cells #[.int .i64 wh, .int .i64 id, .string kd, .slice av lv cv, .string nm, .int .i64 pt, .int .i64 pn, .string ps, .string bd, .int .i64 fr, .int .i64 tt] 42)).alloc (.cells #[.slice none 0 0, .slice none 0 0] 25) := ⟨_, rfl⟩
  have m0 : W3.heap[w.heap.size]? = some (.cells #[.slice an N.length cn, .slice am T.length cm] 25 (0, 0)) := by
    rw [hW3]; exact (heap_alloc_old _ _ (by simp; omega)).trans ((heap_alloc_old _ _ (by simp)).trans (heap_alloc_new w _))
  have m1 : W3.heap[w.heap.size + 1]? = some (.cells #[.int .i64 wh, .int .i64 id, .string kd, .slice av lv cv, .string nm, .int .i64 pt, .int .i64 pn, .string ps, .string bd, .int .i64 fr, .int .i64 tt] 42 (0, 0)) := by
    have := heap_alloc_new (w.alloc (.cells #[.slice an N.length cn, .slice am T.length cm] 25)) (.cells #[.int .i64 wh, .int .i64 id, .string kd, .slice av lv cv, .string nm, .int .i64 pt, .int .i64 pn, .string ps, .string bd, .int .i64 fr, .int .i64 tt] 42)
    simp only [World.size_alloc] at this
    rw [hW3]; exact (heap_alloc_old _ _ (by simp)).trans this
  have hs3 : W3.heap.size = w.heap.size + 3 := by rw [hW3]; simp
  have x0 : W3.cell? ⟨w.heap.size, 0, none⟩ = some (.slice an N.length cn) := cell_at m0 rfl
  have x1 : W3.cell? ⟨w.heap.size, 1, none⟩ = some (.slice am T.length cm) := cell_at m0 rfl
  have y0 : W3.cell? ⟨w.heap.size + 1, 0, none⟩ = some (.int .i64 wh) := cell_at m1 rfl
  have y1 : W3.cell? ⟨w.heap.size + 1, 1, none⟩ = some (.int .i64 id) := cell_at m1 rfl
  have y2 : W3.cell? ⟨w.heap.size + 1, 2, none⟩ = some (.string kd) := cell_at m1 rfl
  have y3 : W3.cell? ⟨w.heap.size + 1, 3, none⟩ = some (.slice av lv cv) := cell_at m1 rfl
  have y4 : W3.cell? ⟨w.heap.size + 1, 4, none⟩ = some (.string nm) := cell_at m1 rfl
  have y5 : W3.cell? ⟨w.heap.size + 1, 5, none⟩ = some (.int .i64 pt) := cell_at m1 rfl
  have y6 : W3.cell? ⟨w.heap.size + 1, 6, none⟩ = some (.int .i64 pn) := cell_at m1 rfl
  have y7 : W3.cell? ⟨w.heap.size + 1, 7, none⟩ = some (.string ps) := cell_at m1 rfl
  have y8 : W3.cell? ⟨w.heap.size + 1, 8, none⟩ = some (.string bd) := cell_at m1 rfl
  have y9 : W3.cell? ⟨w.heap.size + 1, 9, none⟩ = some (.int .i64 fr) := cell_at m1 rfl
  have y10 : W3.cell? ⟨w.heap.size + 1, 10, none⟩ = some (.int .i64 tt) := cell_at m1 rfl
  rw [← hW3] at cA
  clear m0 m1
  go_enter Try.func6, Try.ntmps6
  go_upto_region 1 with fail
  rw [← hW3]
  have HW3 := Lib.hid hW3
  clear hW3
  go_wp2_with (first | (go_at_call 8; refine cA.mono ?_; rintro e W1 ⟨un, ut, M, rfl, ⟨hM, hN2, hT2, hg2⟩, hB1⟩; refine Hid.out ?_))
  refine Lib.hid ?_
  obtain ⟨a3, c3, hu3⟩ := own_slice hN2.1
  obtain ⟨a4, c4, hu4⟩ := own_slice hT2
  subst hu3 hu4
  obtain ⟨b1, b2, b3⟩ := HB.out
  have hW3 := HW3.out
  have hbw : Below w.heap.size w W1 := by
    refine on1K b1 ?_ (Nat.le_refl _)
    unfold doW opA
    rw [hW3] at hB1
    exact hB1
  have hX : W1.heap[w.heap.size + 2]? = some (.cells #[.slice none 0 0, .slice none 0 0] 25 (0, 0)) := by
    have hB1' := hB1
    rw [hW3] at hB1'
    exact (hB1'.block (w.heap.size + 2) (by simp)).trans b3
  have hsz : w.heap.size + 4 ≤ W1.heap.size := by
    have := hB1.size
    rw [World.size_alloc, hs3] at this
    exact this
  have c0 : W1.cell? ⟨w.heap.size + 2, 0, none⟩ = some (.slice none 0 0) := cell_at hX rfl
  have c1 : W1.cell? ⟨w.heap.size + 2, 1, none⟩ = some (.slice none 0 0) := cell_at hX rfl
  clear b1 b2 b3 hB1 HB cA hW3 HW3 x0 x1 y0 y1 y2 y3 y4 y5 y6 y7 y8 y9 y10
  have q0 := cell_old c0
  have q1 := cell_old c1
  have f0 : ∀ o, (W1.alloc o).frozen? ⟨w.heap.size + 2, 0, none⟩ = false := fun o => frz_at (((b_alloc (Below.refl _ W1) o).block (w.heap.size + 2) (by omega)).trans hX)
  have f1 : ∀ o, (W1.alloc o).frozen? ⟨w.heap.size + 2, 1, none⟩ = false := fun o => frz_at (((b_alloc (Below.refl _ W1) o).block (w.heap.size + 2) (by omega)).trans hX)
  generalize hnl : M.length = nl at *
  generalize htl : (S.t ⟨wh, ⟨id, kd, .slice av lv cv, rc⟩, ⟨nm, pt, pn, ps⟩, ⟨bd, fr, tt⟩⟩ (cN N) T).length = tl at *
  have hb4 : Below W1.heap.size W1 (W1.alloc (.cells #[.slice a3 nl c3, .slice a4 tl c4] 25)) := b_alloc (Below.refl _ _) _
  have hX4 := (hb4.block (w.heap.size + 2) (by omega)).trans hX
  have u1 : (((W1.alloc (.cells #[.slice a3 nl c3, .slice a4 tl c4] 25)).setCell ⟨w.heap.size + 2, 0, none⟩ (.slice a3 nl c3)).setCell ⟨w.heap.size + 2, 1, none⟩ (.slice a4 tl c4)).heap[w.heap.size + 2]? = some (.cells #[.slice a3 nl c3, .slice a4 tl c4] 25 (0, 0)) := heap_setCell_same _ _ 1 _ 25 _ (heap_setCell_same _ _ 0 _ 25 _ hX4)
  have HF : Hid (Below w.heap.size w (W1.alloc (.cells #[.slice a3 nl c3, .slice a4 tl c4] 25)) ∧ Ty (W1.alloc (.cells #[.slice a3 nl c3, .slice a4 tl c4] 25)) (w.heap.size + 2) 25) := ⟨on1K hbw hb4 (Nat.le_refl _), _, hX4⟩
  have HU := Lib.hid u1
  have HM := Lib.hid (And.intro hM (And.intro hN2 (And.intro hT2 (And.intro hg2 hb4))))
  have H0 := Lib.hid h0
  clear u1 hX4 hb4 hbw hX hM hN2 hT2 hg2 c0 c1 h0
  go_wp2
  have v0 : (((W1.alloc (.cells #[.slice a3 nl c3, .slice a4 tl c4] 25)).setCell ⟨w.heap.size + 1 + 1, 0, none⟩ (.slice a3 nl c3)).setCell ⟨w.heap.size + 1 + 1, 1, none⟩ (.slice a4 tl c4)).cell? ⟨w.heap.size + 1 + 1, 0, none⟩ = some (.slice a3 nl c3) := cell_at HU.out rfl
  have v1 : (((W1.alloc (.cells #[.slice a3 nl c3, .slice a4 tl c4] 25)).setCell ⟨w.heap.size + 1 + 1, 0, none⟩ (.slice a3 nl c3)).setCell ⟨w.heap.size + 1 + 1, 1, none⟩ (.slice a4 tl c4)).cell? ⟨w.heap.size + 1 + 1, 1, none⟩ = some (.slice a4 tl c4) := cell_at HU.out rfl
  obtain ⟨m1, m2, m3, m4, m5⟩ := HM.out
  obtain ⟨z1, z5⟩ := HF.out
  have k29 : Kt 30 W1 (((W1.alloc (.cells #[.slice a3 nl c3, .slice a4 tl c4] 25)).setCell ⟨w.heap.size + 1 + 1, 0, none⟩ (.slice a3 nl c3)).setCell ⟨w.heap.size + 1 + 1, 1, none⟩ (.slice a4 tl c4)) := ((Kt.of_below m5).ty z5 (by decide) _ _).ty (z5.set _ _ _) (by decide) _ _
  have k31 : Kt 40 W1 (((W1.alloc (.cells #[.slice a3 nl c3, .slice a4 tl c4] 25)).setCell ⟨w.heap.size + 1 + 1, 0, none⟩ (.slice a3 nl c3)).setCell ⟨w.heap.size + 1 + 1, 1, none⟩ (.slice a4 tl c4)) := ((Kt.of_below m5).ty z5 (by decide) _ _).ty (z5.set _ _ _) (by decide) _ _
  have k59 : Kt 38 W1 (((W1.alloc (.cells #[.slice a3 nl c3, .slice a4 tl c4] 25)).setCell ⟨w.heap.size + 1 + 1, 0, none⟩ (.slice a3 nl c3)).setCell ⟨w.heap.size + 1 + 1, 1, none⟩ (.slice a4 tl c4)) := ((Kt.of_below m5).ty z5 (by decide) _ _).ty (z5.set _ _ _) (by decide) _ _
  refine bodyPost_ret (v := .tuple #[.agg #[.slice a3 nl c3, .slice a4 tl c4], .nilIface]) ?_ rfl ⟨(z1.setCell (by show _ ≤ w.heap.size + 1 + 1; omega) _).setCell (by show _ ≤ w.heap.size + 1 + 1; omega) _, .inl ⟨H0.out, _, _, M, rfl, m1, m2.kt k29 k59, m3.kt k31, m4⟩⟩
  simp [results, Try.results6, go_sem, v0, v1]
set_option maxHeartbeats 4000000 in
set_option maxRecDepth 100000 in
theorem do_bad (S : OpS) {vn vt : Value} {N : List Nd} {T : List Te} {o : Opx} {w : World} (hN : IsN w vn N) (hT : IsT w vt T) (zN : SzN N) (zT : SzT T) (he : gErr N T = 0) (hR : IsR w o.nd.rv o.nd.rc) (zo : OpSz o) (hap : ApOk S o) (hri : KeepsR S o) (h0 : S.e o (cN N) T ≠ 0) :
    Calls Try.prog 6 #[.agg #[vn, vt], o.one] w (DoPost S N T o w) := by
  have hB := doW_below w vn vt o
  have cA : Calls Try.prog 8 #[.agg #[vn, vt], .slice (some ⟨w.heap.size + 3, 0, none⟩) 1 1] (doW w vn vt o) (AllPost S N T [o] (doW w vn vt o)) := all_in S (hN.on hB) (hT.on hB) zN zT he (doW_isO hR) (by simp) (fun x hx => by simp at hx; subst hx; exact zo) (fun x hx => by simp at hx; subst hx; exact hap) (fun x hx => by simp at hx; subst hx; exact hri)
  replace cA : Calls Try.prog 8 #[.agg #[vn, vt], .slice (some ⟨w.heap.size + 3, 0, none⟩) 1 1] (doW w vn vt o) (fun e w' => e = .returned (.tuple #[.agg #[.slice none 0 0, .slice none 0 0], .int .i64 0, .iface 60 (.int .i64 (S.e o (cN N) T))]) ∧ Below (doW w vn vt o).heap.size (doW w vn vt o) w') := cA.mono fun e w' hP => by
    obtain ⟨hB1, ⟨h1, _⟩ | ⟨_, rfl⟩⟩ := hP
    · simp [OpS.err, h0] at h1
    · refine ⟨?_, hB1⟩
      simp [OpS.err, OpS.at, h0, errV_ne h0]
  have HB : Hid (Below w.heap.size w (doW w vn vt o) ∧ (doW w vn vt o).heap.size = w.heap.size + 4 ∧ (doW w vn vt o).heap[w.heap.size + 2]? = some (.cells #[.slice none 0 0, .slice none 0 0] 25 (0, 0))) := ⟨hB, doW_size w vn vt o, doW_2 w vn vt o⟩
  obtain ⟨an, cn, hvn, _⟩ := hN
  obtain ⟨am, cm, hvt, _⟩ := hT
  subst hvn hvt
  obtain ⟨av, lv, cv, hv⟩ := hR.sl
  clear hR hB hap hri zo
  obtain ⟨wh, ⟨id, kd, rv, rc⟩, ⟨nm, pt, pn, ps⟩, ⟨bd, fr, tt⟩⟩ := o
  simp only at hv
  subst hv
  unfold doW opA at cA
  simp only at cA
  obtain ⟨W3, hW3⟩ : ∃ W3, W3 = ((w.alloc (.cells #[.slice an N.length cn, .slice am T.length cm] 25)).alloc (.cells #[.int .i64 wh, .int .i64 id, .string kd, .slice av lv cv, .string nm, .int .i64 pt, .int .i64 pn, .string ps, .string bd, .int .i64 fr, .int .i64 tt] 42)).alloc (.cells #[.slice none 0 0, .slice none 0 0] 25) := ⟨_, rfl⟩
  have m0 : W3.heap[w.heap.size]? = some (.cells #[.slice an N.length cn, .slice am T.length cm] 25 (0, 0)) := by
    rw [hW3]; exact (heap_alloc_old _ _ (by simp; omega)).trans ((heap_alloc_old _ _ (by simp)).trans (heap_alloc_new w _))
  have m1 : W3.heap[w.heap.size + 1]? = some (.cells #[.int .i64 wh, .int .i64 id, .string kd, .slice av lv cv, .string nm, .int .i64 pt, .int .i64 pn, .string ps, .string bd, .int .i64 fr, .int .i64 tt] 42 (0, 0)) := by
    have := heap_alloc_new (w.alloc (.cells #[.slice an N.length cn, .slice am T.length cm] 25)) (.cells #[.int .i64 wh, .int .i64 id, .string kd, .slice av lv cv, .string nm, .int .i64 pt, .int .i64 pn, .string ps, .string bd, .int .i64 fr, .int .i64 tt] 42)
    simp only [World.size_alloc] at this
    rw [hW3]; exact (heap_alloc_old _ _ (by simp)).trans this
  have hs3 : W3.heap.size = w.heap.size + 3 := by rw [hW3]; simp
  have x0 : W3.cell? ⟨w.heap.size, 0, none⟩ = some (.slice an N.length cn) := cell_at m0 rfl
  have x1 : W3.cell? ⟨w.heap.size, 1, none⟩ = some (.slice am T.length cm) := cell_at m0 rfl
  have y0 : W3.cell? ⟨w.heap.size + 1, 0, none⟩ = some (.int .i64 wh) := cell_at m1 rfl
  have y1 : W3.cell? ⟨w.heap.size + 1, 1, none⟩ = some (.int .i64 id) := cell_at m1 rfl
  have y2 : W3.cell? ⟨w.heap.size + 1, 2, none⟩ = some (.string kd) := cell_at m1 rfl
  have y3 : W3.cell? ⟨w.heap.size + 1, 3, none⟩ = some (.slice av lv cv) := cell_at m1 rfl
  have y4 : W3.cell? ⟨w.heap.size + 1, 4, none⟩ = some (.string nm) := cell_at m1 rfl
  have y5 : W3.cell? ⟨w.heap.size + 1, 5, none⟩ = some (.int .i64 pt) := cell_at m1 rfl
  have y6 : W3.cell? ⟨w.heap.size + 1, 6, none⟩ = some (.int .i64 pn) := cell_at m1 rfl
  have y7 : W3.cell? ⟨w.heap.size + 1, 7, none⟩ = some (.string ps) := cell_at m1 rfl
  have y8 : W3.cell? ⟨w.heap.size + 1, 8, none⟩ = some (.string bd) := cell_at m1 rfl
  have y9 : W3.cell? ⟨w.heap.size + 1, 9, none⟩ = some (.int .i64 fr) := cell_at m1 rfl
  have y10 : W3.cell? ⟨w.heap.size + 1, 10, none⟩ = some (.int .i64 tt) := cell_at m1 rfl
  rw [← hW3] at cA
  clear m0 m1
  go_enter Try.func6, Try.ntmps6
  go_upto_region 1 with fail
  rw [← hW3]
  have HW3 := Lib.hid hW3
  clear hW3
  have H0 := Lib.hid h0
  generalize hz : S.e ⟨wh, ⟨id, kd, .slice av lv cv, rc⟩, ⟨nm, pt, pn, ps⟩, ⟨bd, fr, tt⟩⟩ (cN N) T = z at *
  have HZ := Lib.hid hz
  clear h0 hz
  go_wp2_with (first | (go_at_call 8; refine cA.mono ?_; rintro e W1 ⟨rfl, hB1⟩; refine Hid.out ?_))
  refine Lib.hid ?_
  obtain ⟨b1, b2, b3⟩ := HB.out
  have hW3 := HW3.out
  have hbw : Below w.heap.size w W1 := by
    refine on1K b1 ?_ (Nat.le_refl _)
    unfold doW opA
    rw [hW3] at hB1
    exact hB1
  have hX : W1.heap[w.heap.size + 2]? = some (.cells #[.slice none 0 0, .slice none 0 0] 25 (0, 0)) := by
    have hB1' := hB1
    rw [hW3] at hB1'
    exact (hB1'.block (w.heap.size + 2) (by simp)).trans b3
  have hsz : w.heap.size + 4 ≤ W1.heap.size := by
    have := hB1.size
    rw [World.size_alloc, hs3] at this
    exact this
  have c0 : W1.cell? ⟨w.heap.size + 2, 0, none⟩ = some (.slice none 0 0) := cell_at hX rfl
  have c1 : W1.cell? ⟨w.heap.size + 2, 1, none⟩ = some (.slice none 0 0) := cell_at hX rfl
  clear b1 b2 b3 hB1 HB cA hW3 HW3 x0 x1 y0 y1 y2 y3 y4 y5 y6 y7 y8 y9 y10
  have q0 := cell_old c0
  have q1 := cell_old c1
  have f0 : ∀ o, (W1.alloc o).frozen? ⟨w.heap.size + 2, 0, none⟩ = false := fun o => frz_at (((b_alloc (Below.refl _ W1) o).block (w.heap.size + 2) (by omega)).trans hX)
  have f1 : ∀ o, (W1.alloc o).frozen? ⟨w.heap.size + 2, 1, none⟩ = false := fun o => frz_at (((b_alloc (Below.refl _ W1) o).block (w.heap.size + 2) (by omega)).trans hX)
  have hb4 : Below W1.heap.size W1 (W1.alloc (.cells #[.slice none 0 0, .slice none 0 0] 25)) := b_alloc (Below.refl _ _) _
  have hX4 := (hb4.block (w.heap.size + 2) (by omega)).trans hX
  have u1 : (((W1.alloc (.cells #[.slice none 0 0, .slice none 0 0] 25)).setCell ⟨w.heap.size + 2, 0, none⟩ (.slice none 0 0)).setCell ⟨w.heap.size + 2, 1, none⟩ (.slice none 0 0)).heap[w.heap.size + 2]? = some (.cells #[.slice none 0 0, .slice none 0 0] 25 (0, 0)) := heap_setCell_same _ _ 1 _ 25 _ (heap_setCell_same _ _ 0 _ 25 _ hX4)
  have HF : Hid (Below w.heap.size w (W1.alloc (.cells #[.slice none 0 0, .slice none 0 0] 25))) := on1K hbw hb4 (Nat.le_refl _)
  have HU := Lib.hid u1
  clear u1 hX4 hb4 hbw hX c0 c1
  go_wp2
  have v0 : (((W1.alloc (.cells #[.slice none 0 0, .slice none 0 0] 25)).setCell ⟨w.heap.size + 1 + 1, 0, none⟩ (.slice none 0 0)).setCell ⟨w.heap.size + 1 + 1, 1, none⟩ (.slice none 0 0)).cell? ⟨w.heap.size + 1 + 1, 0, none⟩ = some (.slice none 0 0) := cell_at HU.out rfl
  have v1 : (((W1.alloc (.cells #[.slice none 0 0, .slice none 0 0] 25)).setCell ⟨w.heap.size + 1 + 1, 0, none⟩ (.slice none 0 0)).setCell ⟨w.heap.size + 1 + 1, 1, none⟩ (.slice none 0 0)).cell? ⟨w.heap.size + 1 + 1, 1, none⟩ = some (.slice none 0 0) := cell_at HU.out rfl
  have z1 := HF.out
  refine bodyPost_ret (v := .tuple #[.agg #[.slice none 0 0, .slice none 0 0], .iface 60 (.int .i64 z)]) ?_ rfl ⟨(z1.setCell (by show _ ≤ w.heap.size + 1 + 1; omega) _).setCell (by show _ ≤ w.heap.size + 1 + 1; omega) _, .inr ⟨by rw [HZ.out]; exact H0.out, ?_⟩⟩
  · simp [results, Try.results6, go_sem, v0, v1]
  · rw [HZ.out, errV_ne H0.out]
theorem do_in (S : OpS) {vn vt : Value} {N : List Nd} {T : List Te} {o : Opx} {w : World} (hN : IsN w vn N) (hT : IsT w vt T) (zN : SzN N) (zT : SzT T) (he : gErr N T = 0) (hR : IsR w o.nd.rv o.nd.rc) (zo : OpSz o) (hap : ApOk S o) (hri : KeepsR S o) :
    Calls Try.prog 6 #[.agg #[vn, vt], o.one] w (DoPost S N T o w) := by
  by_cases h0 : S.e o (cN N) T = 0
  · exact do_ok S hN hT zN zT he hR zo hap hri h0
  · exact do_bad S hN hT zN zT he hR zo hap hri h0
end Go.Proofs.Ytidmfdbckpficaa

/-
  The walks of find and of what it calls, and of kinref2.In.
-/
namespace Go.Proofs.Ytidmfdbckpficaa
open Go.RowKit
set_option linter.unusedVariables false
set_option linter.unusedSimpArgs false

/-- Where the node of an id stands. -/
def idxN (id : Int) : List Nd → Nat → Int
  | [], _ => -1
  | n :: r, k => if n.id = id then (k : Int) else idxN id r (k + 1)
/-- Is there such a node? -/
def hasId (N : List Nd) (id : Int) : Bool := N.any fun n => n.id == id
theorem idxN_neg (id : Int) : ∀ (N : List Nd) (k : Nat), (idxN id N k < 0) ↔ hasId N id = false
  | [], k => by simp [idxN, hasId]
  | n :: r, k => by
    have ih := idxN_neg id r (k + 1)
    unfold idxN
    by_cases h : n.id = id
    · rw [if_pos h]; simp [hasId, h]
    · rw [if_neg h, ih]; simp [hasId, h]
/-- The fault of finding a node. -/
def fE (N : List Nd) (T : List Te) (id : Int) : Int := if gErr N T = 0 then (if hasId N id = true then 0 else 5) else gErr N T

set_option maxHeartbeats 1000000 in
theorem find1_any (n : Nd) (p : Nat) (id : Int) (w : World) (hp : p < w.heap.size) (hc : w.cell? ⟨p, 0, none⟩ = some (.int .i64 id)) (hv : ∃ a l c, n.rv = .slice a l c) :
    Calls Try.prog 52 #[n.one, .pointer (some ⟨p, 0, none⟩)] w fun e w' => e = .returned (.bool (n.id == id)) ∧ Below w.heap.size w w' := by
  obtain ⟨ni, kd, rv, rc⟩ := n
  obtain ⟨a, l, c, h⟩ := hv
  simp only at h ⊢
  subst h
  have hB : Below w.heap.size w (w.alloc (.cells #[.int .i64 ni, .string kd, .slice a l c] 30)) := b_alloc (Below.refl _ _) _
  have hc' := (hB.cell (p := ⟨p, 0, none⟩) hp).trans hc
  have hpn : ¬ p = w.heap.size := by omega
  go_enter Try.func52, Try.ntmps52
  go_wp2
  go_ret
  exact ⟨rfl, hB⟩

set_option maxHeartbeats 1000000 in
set_option maxRecDepth 100000 in
theorem index_any {ao : Option Addr} {cn : Nat} {N : List Nd} {w : World} (hn : N = [] ∨ ∃ b off, ao = some ⟨b, off, none⟩ ∧ b < w.heap.size ∧ LiesN w b off N) (h60 : N.length ≤ 60) (p : Nat) (id : Int) (hp : p < w.heap.size) (hc : w.cell? ⟨p, 0, none⟩ = some (.int .i64 id)) :
    Calls Try.prog 51 #[.slice ao N.length cn, .func (.func 52) #[] #[.pointer (some ⟨p, 0, none⟩)]] w fun e w' => e = .returned (.int .i64 (idxN id N 0)) ∧ Below w.heap.size w w' := by
  go_enter Try.func51, Try.ntmps51
  go_wp2
  go_loopw [8] (fun i wr => ∃ k : Nat, k ≤ N.length ∧ i = .int .i64 k ∧ idxN id N 0 = idxN id (N.drop k) k ∧ Below w.heap.size w wr) (fun i _ => N.length - (intOf i).toNat)
  case atStart => exact ⟨0, Nat.zero_le _, rfl, rfl, Below.refl _ _⟩
  case round =>
    obtain ⟨k, hk, rfl, hx, hB⟩ := hrel
    have HX : Hid (idxN id N 0 = idxN id (N.drop k) k) := hx
    clear hx
    by_cases hlt : k < N.length
    · obtain ⟨n, hn'⟩ : ∃ n, N[k]? = some n := ⟨N[k], by simp [hlt]⟩
      rcases hn with rfl | ⟨b, off, rfl, hb, hL⟩
      · exact absurd hlt (by simp)
      have HD : Hid (N.drop k = n :: N.drop (k + 1)) := dropN hn'
      obtain ⟨c0, c1, c2, cR⟩ := hL k n hn'
      have d0 := (hB.cell (p := ⟨b, off + k * 3, none⟩) hb).trans c0
      have d1 := (hB.cell (p := ⟨b, off + k * 3 + 1, none⟩) hb).trans c1
      have d2 := (hB.cell (p := ⟨b, off + k * 3 + 2, none⟩) hb).trans c2
      obtain ⟨av, cv, hv, _⟩ := cR
      have cf := find1_any n p id wr (Nat.lt_of_lt_of_le hp hB.size) ((hB.cell hp).trans hc) ⟨av, n.rc.length, cv, hv⟩
      have HL : Hid (LiesN w b off N) := hL
      clear c0 c1 c2 hn' hL hc
      obtain ⟨ni, kd, rv, rc⟩ := n
      simp only at hv d0 d1 d2 cf HD
      subst hv
      by_cases he : ni = id
      · have H : Hid (idxN id N 0 = (k : Int)) := by
          show _ = _
          rw [HX.out, HD.out]; unfold idxN; rw [if_pos he]
        have hb' : (ni == id) = true := by simpa using he
        rw [hb'] at cf
        clear HX HD he hb'
        go_wp2_with (first | (go_at_call 52; refine cf.mono ?_; rintro e W2 ⟨rfl, hB2⟩))
        go_ret
        exact ⟨ret_v (congrArg (Value.int .i64) H.out.symm), on1 hB hB2⟩
      · have H : Hid (idxN id N 0 = idxN id (N.drop (k + 1)) (k + 1)) := by
          show _ = _
          rw [HX.out, HD.out]; conv => lhs; unfold idxN; rw [if_neg he]
        have hb' : (ni == id) = false := by simpa using he
        rw [hb'] at cf
        clear HX HD he hb'
        go_wp2_with (first | (go_at_call 52; refine cf.mono ?_; rintro e W2 ⟨rfl, hB2⟩))
        go_roundw
        case rel => exact ⟨k + 1, by omega, by go_num, H.out, on1 hB hB2⟩
        case measure => simp [intOf]; omega
    · have hd : N.drop k = [] := List.drop_eq_nil_of_le (by omega)
      have H : Hid (idxN id N 0 = -1) := by
        show _ = _
        rw [HX.out, hd]; rfl
      clear HX hd
      go_wp2
      go_ret
      exact ⟨ret_v (congrArg (Value.int .i64) H.out.symm), hB⟩

theorem fE_bad {N : List Nd} {T : List Te} (id : Int) (h : ¬ gErr N T = 0) : fE N T id = gErr N T := by unfold fE; rw [if_neg h]
theorem fE_ok {N : List Nd} {T : List Te} {id : Int} (h : gErr N T = 0) (h2 : hasId N id = true) : fE N T id = 0 := by unfold fE; rw [if_pos h, if_pos h2]
theorem fE_no {N : List Nd} {T : List Te} {id : Int} (h : gErr N T = 0) (h2 : hasId N id = false) : fE N T id = 5 := by unfold fE; rw [if_pos h, h2]; rfl
theorem gErr_len {N : List Nd} {T : List Te} (h : gErr N T = 0) : N.length ≤ 60 ∧ T.length ≤ 120 := by
  unfold gErr at h
  split at h
  · cases h
  · omega

set_option maxHeartbeats 1000000 in
set_option maxRecDepth 100000 in
theorem find_any {vn vt : Value} {N : List Nd} {T : List Te} {w : World} (hN : IsN w vn N) (hT : IsT w vt T) (zN : SzN N) (zT : SzT T) (lN : N.length ≤ maxLen) (lT : T.length ≤ maxLen) (id : Int) :
    Calls Try.prog 22 #[.agg #[vn, vt], .int .i64 id] w fun e w' => ∃ x, e = .returned (.tuple #[.int .i64 x, errV (fE N T id)]) ∧ Below w.heap.size w w' := by
  have hN' := hN
  obtain ⟨an, cn, rfl, hcn, hn⟩ := hN
  have hT' := hT
  obtain ⟨am, cm, rfl, hcm, hm⟩ := hT
  have hB : Below w.heap.size w ((w.alloc (.cells #[.slice an N.length cn, .slice am T.length cm] 25)).alloc (.cells #[.int .i64 id] 3)) := b_alloc (b_alloc (Below.refl _ _) _) _
  have cc := gcheck_any (hN'.on hB) (hT'.on hB) zN zT lN lT
  by_cases hg : gErr N T = 0
  · rw [hg, errV_0] at cc
    have g0 : ((w.alloc (.cells #[.slice an N.length cn, .slice am T.length cm] 25)).alloc (.cells #[.int .i64 id] 3)).cell? ⟨w.heap.size, 0, none⟩ = some (.slice an N.length cn) := by simp
    have g2 : ((w.alloc (.cells #[.slice an N.length cn, .slice am T.length cm] 25)).alloc (.cells #[.int .i64 id] 3)).cell? ⟨w.heap.size + 1, 0, none⟩ = some (.int .i64 id) := by simp
    have ci := fun W (hW : Below ((w.alloc (.cells #[.slice an N.length cn, .slice am T.length cm] 25)).alloc (.cells #[.int .i64 id] 3)).heap.size ((w.alloc (.cells #[.slice an N.length cn, .slice am T.length cm] 25)).alloc (.cells #[.int .i64 id] 3)) W) => index_any (ao := an) (cn := cn) (N := N) (w := W) (by
      rcases hn with h | ⟨b, off, h1, h2, h3⟩
      · exact .inl h
      · exact .inr ⟨b, off, h1, Nat.lt_of_lt_of_le h2 (on1 hB hW).size, h3.on h2 (on1 hB hW)⟩) (gErr_len hg).1 (w.heap.size + 1) id (by have := hW.size; simp at this; omega) ((hW.cell (by simp)).trans g2)
    have HG : Hid (∀ W, Below ((w.alloc (.cells #[.slice an N.length cn, .slice am T.length cm] 25)).alloc (.cells #[.int .i64 id] 3)).heap.size ((w.alloc (.cells #[.slice an N.length cn, .slice am T.length cm] 25)).alloc (.cells #[.int .i64 id] 3)) W → W.cell? ⟨w.heap.size, 0, none⟩ = some (.slice an N.length cn)) := fun W hW => (hW.cell (by simp; omega)).trans g0
    obtain ⟨r, hr⟩ : ∃ r, idxN id N 0 = r := ⟨_, rfl⟩
    rw [hr] at ci
    by_cases h0 : r < 0
    · have H : Hid (errV (fE N T id) = .iface 60 (.int .i64 5)) := by
        show _ = _
        rw [fE_no hg ((idxN_neg id N 0).1 (by omega))]; rfl
      clear g0 g2 hg hr hn hm
      go_enter Try.func22, Try.ntmps22
      go_wp2_with (first | (go_at_call 11; refine cc.mono ?_; rintro e W2 ⟨rfl, hB2⟩; have k0 := HG.out W2 hB2) | (go_at_call 51; refine (ci _ hB2).mono ?_; rintro e W3 ⟨rfl, hB3⟩))
      go_ret2
      exact ⟨0, by rw [H.out]; rfl, on1 (on1 hB hB2) hB3⟩
    · have H : Hid (errV (fE N T id) = .nilIface) := by
        show _ = _
        rw [fE_ok hg (by
          cases hh : hasId N id
          · exact absurd ((idxN_neg id N 0).2 hh) (by omega)
          · rfl)]; rfl
      clear g0 g2 hg hr hn hm
      go_enter Try.func22, Try.ntmps22
      go_wp2_with (first | (go_at_call 11; refine cc.mono ?_; rintro e W2 ⟨rfl, hB2⟩; have k0 := HG.out W2 hB2) | (go_at_call 51; refine (ci _ hB2).mono ?_; rintro e W3 ⟨rfl, hB3⟩))
      go_ret2
      exact ⟨r, by rw [H.out]; rfl, on1 (on1 hB hB2) hB3⟩
  · have H : Hid (errV (fE N T id) = .iface 60 (.int .i64 (gErr N T))) := by
      show _ = _
      rw [fE_bad id hg, errV_ne hg]
    rw [errV_ne hg] at cc
    clear hg hn hm
    go_enter Try.func22, Try.ntmps22
    go_wp2_with (first | (go_at_call 11; refine cc.mono ?_; rintro e W2 ⟨rfl, hB2⟩))
    go_ret2
    exact ⟨0, by rw [H.out]; rfl, on1 hB hB2⟩
end Go.Proofs.Ytidmfdbckpficaa
