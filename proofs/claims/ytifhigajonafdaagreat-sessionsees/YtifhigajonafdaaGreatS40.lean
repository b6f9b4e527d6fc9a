/-
  The walk of delta.Do, of a graph that is right.
-/
import Derived.Test.YtifhigajonafdaaGreatS08
import Derived.Test.YtifhigajonafdaaGreatS39
namespace Go.Proofs.YtifhigajonafdaaGreat
open Go.RowKit
set_option linter.unusedVariables false
set_option linter.unusedSimpArgs false

def DoPost (S : OpS) (N : List Nd) (T : List Te) (o : Opx) (w : World) (e : Ending) (w' : World) : Prop :=
  Below w.heap.size w w' ∧ ((S.e o (cN N) T = 0 ∧ ∃ un ut M, e = .returned (.tuple #[.agg #[un, ut], .nilIface]) ∧ cN M = S.m o (cN N) T ∧ OwnNs w' w.heap.size un M ∧ OwnTs w' w.heap.size ut (S.t o (cN N) T) ∧ gErr M (S.t o (cN N) T) = 0) ∨
   (S.e o (cN N) T ≠ 0 ∧ e = .returned (.tuple #[.agg #[.slice none 0 0, .slice none 0 0], errV (S.e o (cN N) T)])))
abbrev opA (o : Opx) : Array Value := #[.int .i64 o.wh, .int .i64 o.nd.id, .string o.nd.kd, o.nd.rv, .string o.pr.nm, .int .i64 o.pr.t, .int .i64 o.pr.n, .string o.pr.s, .string o.te.bd, .int .i64 o.te.fr, .int .i64 o.te.tt]
abbrev doW (w : World) (vn vt : Value) (o : Opx) : World := (((w.alloc (.cells #[vn, vt] 29)).alloc (.cells (opA o) 56)).alloc (.cells #[.slice none 0 0, .slice none 0 0] 29)).alloc (.cells (opA o) 56)
theorem doW_below (w : World) (vn vt : Value) (o : Opx) : Below w.heap.size w (doW w vn vt o) := b_alloc (b_alloc (b_alloc (b_alloc (Below.refl _ _) _) _) _) _
theorem doW_size (w : World) (vn vt : Value) (o : Opx) : (doW w vn vt o).heap.size = w.heap.size + 4 := by simp [doW]
theorem doW_2 (w : World) (vn vt : Value) (o : Opx) : (doW w vn vt o).heap[w.heap.size + 2]? = some (.cells #[.slice none 0 0, .slice none 0 0] 29 (0, 0)) := by
  have := heap_alloc_new ((w.alloc (.cells #[vn, vt] 29)).alloc (.cells (opA o) 56)) (.cells #[.slice none 0 0, .slice none 0 0] 29)
  simp only [World.size_alloc] at this
  exact (Below.heap_alloc _ _ _ (by simp)).trans this
theorem doW_3 (w : World) (vn vt : Value) (o : Opx) : (doW w vn vt o).heap[w.heap.size + 3]? = some (.cells (opA o) 56 (0, 0)) := by
  have := heap_alloc_new (((w.alloc (.cells #[vn, vt] 29)).alloc (.cells (opA o) 56)).alloc (.cells #[.slice none 0 0, .slice none 0 0] 29)) (.cells (opA o) 56)
  simp only [World.size_alloc] at this
  exact this
theorem doW_isO {w : World} {vn vt : Value} {o : Opx} (hR : IsR w o.nd.rv o.nd.rc) : IsO (doW w vn vt o) (.slice (some ⟨w.heap.size + 3, 0, none⟩) 1 1) [o] := by
  refine ⟨_, 1, rfl, Nat.le_refl _, .inr ⟨w.heap.size + 3, 0, rfl, by rw [doW_size]; omega, fun k x hx => ?_⟩⟩
  obtain ⟨rfl, rfl⟩ : k = 0 ∧ o = x := by
    have := (List.getElem?_eq_some_iff.1 hx).1
    have hk : k = 0 := by simp at this; exact this
    subst hk
    exact ⟨rfl, by simpa using hx⟩
  refine ⟨fun i u hu => ?_, hR.on (doW_below w vn vt o)⟩
  have e : 0 + 0 * 11 + i = i := by omega
  rw [e]
  exact cell_at (doW_3 w vn vt o) (by simpa [Opx.cells, opA] using hu)

set_option maxHeartbeats 4000000 in
set_option maxRecDepth 100000 in
theorem do_ok (S : OpS) {vn vt : Value} {N : List Nd} {T : List Te} {o : Opx} {w : World} (hN : IsN w vn N) (hT : IsT w vt T) (zN : SzN N) (zT : SzT T) (he : gErr N T = 0) (hR : IsR w o.nd.rv o.nd.rc) (zo : OpSz o) (hap : ApOk S o) (hri : KeepsR S o) (h0 : S.e o (cN N) T = 0) :
    Calls Tryz.prog 20 #[.agg #[vn, vt], o.one] w (DoPost S N T o w) := by
  have hB := doW_below w vn vt o
  have cA : Calls Tryz.prog 34 #[.agg #[vn, vt], .slice (some ⟨w.heap.size + 3, 0, none⟩) 1 1] (doW w vn vt o) (AllPost S N T [o] (doW w vn vt o)) := all_in S (hN.on hB) (hT.on hB) zN zT he (doW_isO hR) (by simp) (fun x hx => by simp at hx; subst hx; exact zo) (fun x hx => by simp at hx; subst hx; exact hap) (fun x hx => by simp at hx; subst hx; exact hri)
  replace cA : Calls Tryz.prog 34 #[.agg #[vn, vt], .slice (some ⟨w.heap.size + 3, 0, none⟩) 1 1] (doW w vn vt o) (fun e w' => ∃ un ut M, e = .returned (.tuple #[.agg #[un, ut], .int .i64 0, .nilIface]) ∧ (cN M = S.m o (cN N) T ∧ OwnNs w' w.heap.size un M ∧ OwnTs w' w.heap.size ut (S.t o (cN N) T) ∧ gErr M (S.t o (cN N) T) = 0) ∧ Below (doW w vn vt o).heap.size (doW w vn vt o) w') := cA.mono fun e w' hP => by
    obtain ⟨hB1, ⟨_, un, ut, M, rfl, hM, hN2, hT2, hg2⟩ | ⟨h1, _⟩⟩ := hP
    · simp only [OpS.res, h0, if_true] at hM hT2 hg2
      exact ⟨un, ut, M, rfl, ⟨hM, ⟨own_base hN2.1 hB.size, fun n hn => own_base (hN2.2 n hn) hB.size⟩, own_base hT2 hB.size, hg2⟩, hB1⟩
    · simp [OpS.err, h0] at h1
  have HB : Hid (Below w.heap.size w (doW w vn vt o) ∧ (doW w vn vt o).heap.size = w.heap.size + 4 ∧ (doW w vn vt o).heap[w.heap.size + 2]? = some (.cells #[.slice none 0 0, .slice none 0 0] 29 (0, 0))) := ⟨hB, doW_size w vn vt o, doW_2 w vn vt o⟩
  obtain ⟨an, cn, hvn, _⟩ := hN
  obtain ⟨am, cm, hvt, _⟩ := hT
  subst hvn hvt
  obtain ⟨av, lv, cv, hv⟩ := hR.sl
  clear hR hB hap hri zo
  obtain ⟨wh, ⟨id, kd, rv, rc⟩, ⟨nm, pt, pn, ps⟩, ⟨bd, fr, tt⟩⟩ := o
  simp only at hv
  subst hv
  unfold doW opA at cA
  simp only at cA
  obtain ⟨W3, hW3⟩ : ∃ W3, W3 = ((w.alloc (.cells #[.slice an N.length cn, .slice am T.length cm] 29)).alloc (.cells #[.int .i64 wh, .int .i64 id, .string kd, .slice av lv cv, .string nm, .int .i64 pt, .int .i64 pn, .string ps, .string bd, .int .i64 fr, .int .i64 tt] 56)).alloc (.cells #[.slice none 0 0, .slice none 0 0] 29) := ⟨_, rfl⟩
  have m0 : W3.heap[w.heap.size]? = some (.cells #[.slice an N.length cn, .slice am T.length cm] 29 (0, 0)) := by
    rw [hW3]; exact (Below.heap_alloc _ _ _ (by simp; omega)).trans ((Below.heap_alloc _ _ _ (by simp)).trans (heap_alloc_new w _))
  have m1 : W3.heap[w.heap.size + 1]? = some (.cells #[.int .i64 wh, .int .i64 id, .string kd, .slice av lv cv, .string nm, .int .i64 pt, .int .i64 pn, .string ps, .string bd, .int .i64 fr, .int .i64 tt] 56 (0, 0)) := by
    have := heap_alloc_new (w.alloc (.cells #[.slice an N.length cn, .slice am T.length cm] 29)) (.cells #[.int .i64 wh, .int .i64 id, .string kd, .slice av lv cv, .string nm, .int .i64 pt, .int .i64 pn, .string ps, .string bd, .int .i64 fr, .int .i64 tt] 56)
    simp only [World.size_alloc] at this
    rw [hW3]; exact (Below.heap_alloc _ _ _ (by simp)).trans this
  have hs3 : W3.heap.size = w.heap.size + 3 := by rw [hW3]; simp
  have x0 : W3.cell? ⟨w.heap.size, 0, none⟩ = some (.slice an N.length cn) := cell_at m0 rfl
  have x1 : W3.cell? ⟨w.heap.size, 1, none⟩ = some (.slice am T.length cm) := cell_at m0 rfl
  have y0 : W3.cell? ⟨w.heap.size + 1, 0, none⟩ = some (.int .i64 wh) := cell_at m1 rfl
  have y1 : W3.cell? ⟨w.heap.size + 1, 1, none⟩ = some (.int .i64 id) := cell_at m1 rfl
  have y2 : W3.cell? ⟨w.heap.size + 1, 2, none⟩ = some (.string kd) := cell_at m1 rfl
  have y3 : W3.cell? ⟨w.heap.size + 1, 3, none⟩ = some (.slice av lv cv) := cell_at m1 rfl
  have y4 : W3.cell? ⟨w.heap.size + 1, 4, none⟩ = some (.string nm) := cell_at m1 rfl
  have y5 : W3.cell? ⟨w.heap.size + 1, 5, none⟩ = some (.int .i64 pt) := cell_at m1 rfl
  have y6 : W3.cell? ⟨w.heap.size + 1, 6, none⟩ = some (.int .i64 pn) := cell_at m1 rfl
  have y7 : W3.cell? ⟨w.heap.size + 1, 7, none⟩ = some (.string ps) := cell_at m1 rfl
  have y8 : W3.cell? ⟨w.heap.size + 1, 8, none⟩ = some (.string bd) := cell_at m1 rfl
  have y9 : W3.cell? ⟨w.heap.size + 1, 9, none⟩ = some (.int .i64 fr) := cell_at m1 rfl
  have y10 : W3.cell? ⟨w.heap.size + 1, 10, none⟩ = some (.int .i64 tt) := cell_at m1 rfl
  rw [← hW3] at cA
  clear m0 m1
  go_enter Tryz.func20, Tryz.ntmps20
  go_upto_region 1 with fail
  rw [← hW3]
  have HW3 := Lib.hid hW3
  clear hW3
  go_wp2_with (first | (go_at_call 34; refine cA.mono ?_; rintro e W1 ⟨un, ut, M, rfl, ⟨hM, hN2, hT2, hg2⟩, hB1⟩; refine Hid.out ?_))
  refine Lib.hid ?_
  obtain ⟨a3, c3, hu3⟩ := own_slice hN2.1
  obtain ⟨a4, c4, hu4⟩ := own_slice hT2
  subst hu3 hu4
  obtain ⟨b1, b2, b3⟩ := HB.out
  have hW3 := HW3.out
  have hbw : Below w.heap.size w W1 := by
    refine on1K b1 ?_ (Nat.le_refl _)
    unfold doW opA
    rw [hW3] at hB1
    exact hB1
  have hX : W1.heap[w.heap.size + 2]? = some (.cells #[.slice none 0 0, .slice none 0 0] 29 (0, 0)) := by
    have hB1' := hB1
    rw [hW3] at hB1'
    exact (hB1'.block (w.heap.size + 2) (by simp)).trans b3
  have hsz : w.heap.size + 4 ≤ W1.heap.size := by
    have := hB1.size
    rw [World.size_alloc, hs3] at this
    exact this
  have c0 : W1.cell? ⟨w.heap.size + 2, 0, none⟩ = some (.slice none 0 0) := cell_at hX rfl
  have c1 : W1.cell? ⟨w.heap.size + 2, 1, none⟩ = some (.slice none 0 0) := cell_at hX rfl
  clear b1 b2 b3 hB1 HB cA hW3 HW3 x0 x1 y0 y1 y2 y3 y4 y5 y6 y7 y8 y9 y10
  have q0 := cell_old c0
  have q1 := cell_old c1
  have f0 : ∀ o, (W1.alloc o).frozen? ⟨w.heap.size + 2, 0, none⟩ = false := fun o => frz_at (((b_alloc (Below.refl _ W1) o).block (w.heap.size + 2) (by omega)).trans hX)
  have f1 : ∀ o, (W1.alloc o).frozen? ⟨w.heap.size + 2, 1, none⟩ = false := fun o => frz_at (((b_alloc (Below.refl _ W1) o).block (w.heap.size + 2) (by omega)).trans hX)
  generalize hnl : M.length = nl at *
  generalize htl : (S.t ⟨wh, ⟨id, kd, .slice av lv cv, rc⟩, ⟨nm, pt, pn, ps⟩, ⟨bd, fr, tt⟩⟩ (cN N) T).length = tl at *
  have hb4 : Below W1.heap.size W1 (W1.alloc (.cells #[.slice a3 nl c3, .slice a4 tl c4] 29)) := b_alloc (Below.refl _ _) _
  have hX4 := (hb4.block (w.heap.size + 2) (by omega)).trans hX
  have u1 : (((W1.alloc (.cells #[.slice a3 nl c3, .slice a4 tl c4] 29)).setCell ⟨w.heap.size + 2, 0, none⟩ (.slice a3 nl c3)).setCell ⟨w.heap.size + 2, 1, none⟩ (.slice a4 tl c4)).heap[w.heap.size + 2]? = some (.cells #[.slice a3 nl c3, .slice a4 tl c4] 29 (0, 0)) := heap_setCell_same _ _ 1 _ 29 _ (heap_setCell_same _ _ 0 _ 29 _ hX4)
  have HF : Hid (Below w.heap.size w (W1.alloc (.cells #[.slice a3 nl c3, .slice a4 tl c4] 29)) ∧ Ty (W1.alloc (.cells #[.slice a3 nl c3, .slice a4 tl c4] 29)) (w.heap.size + 2) 29) := ⟨on1K hbw hb4 (Nat.le_refl _), _, hX4⟩
  have HU := Lib.hid u1
  have HM := Lib.hid (And.intro hM (And.intro hN2 (And.intro hT2 (And.intro hg2 hb4))))
  have H0 := Lib.hid h0
  clear u1 hX4 hb4 hbw hX hM hN2 hT2 hg2 c0 c1 h0
  go_wp2
  have v0 : (((W1.alloc (.cells #[.slice a3 nl c3, .slice a4 tl c4] 29)).setCell ⟨w.heap.size + 1 + 1, 0, none⟩ (.slice a3 nl c3)).setCell ⟨w.heap.size + 1 + 1, 1, none⟩ (.slice a4 tl c4)).cell? ⟨w.heap.size + 1 + 1, 0, none⟩ = some (.slice a3 nl c3) := cell_at HU.out rfl
  have v1 : (((W1.alloc (.cells #[.slice a3 nl c3, .slice a4 tl c4] 29)).setCell ⟨w.heap.size + 1 + 1, 0, none⟩ (.slice a3 nl c3)).setCell ⟨w.heap.size + 1 + 1, 1, none⟩ (.slice a4 tl c4)).cell? ⟨w.heap.size + 1 + 1, 1, none⟩ = some (.slice a4 tl c4) := cell_at HU.out rfl
  obtain ⟨m1, m2, m3, m4, m5⟩ := HM.out
  obtain ⟨z1, z5⟩ := HF.out
  have k29 : Kt 48 W1 (((W1.alloc (.cells #[.slice a3 nl c3, .slice a4 tl c4] 29)).setCell ⟨w.heap.size + 1 + 1, 0, none⟩ (.slice a3 nl c3)).setCell ⟨w.heap.size + 1 + 1, 1, none⟩ (.slice a4 tl c4)) := ((Kt.of_below m5).ty z5 (by decide) _ _).ty (z5.set _ _ _) (by decide) _ _
  have k31 : Kt 54 W1 (((W1.alloc (.cells #[.slice a3 nl c3, .slice a4 tl c4] 29)).setCell ⟨w.heap.size + 1 + 1, 0, none⟩ (.slice a3 nl c3)).setCell ⟨w.heap.size + 1 + 1, 1, none⟩ (.slice a4 tl c4)) := ((Kt.of_below m5).ty z5 (by decide) _ _).ty (z5.set _ _ _) (by decide) _ _
  have k59 : Kt 52 W1 (((W1.alloc (.cells #[.slice a3 nl c3, .slice a4 tl c4] 29)).setCell ⟨w.heap.size + 1 + 1, 0, none⟩ (.slice a3 nl c3)).setCell ⟨w.heap.size + 1 + 1, 1, none⟩ (.slice a4 tl c4)) := ((Kt.of_below m5).ty z5 (by decide) _ _).ty (z5.set _ _ _) (by decide) _ _
  refine bodyPost_ret (v := .tuple #[.agg #[.slice a3 nl c3, .slice a4 tl c4], .nilIface]) ?_ rfl ⟨(z1.setCell (by show _ ≤ w.heap.size + 1 + 1; omega) _).setCell (by show _ ≤ w.heap.size + 1 + 1; omega) _, .inl ⟨H0.out, _, _, M, rfl, m1, m2.kt k29 k59, m3.kt k31, m4⟩⟩
  simp [results, Tryz.results20, go_sem, v0, v1]
set_option maxHeartbeats 4000000 in
set_option maxRecDepth 100000 in
theorem do_bad (S : OpS) {vn vt : Value} {N : List Nd} {T : List Te} {o : Opx} {w : World} (hN : IsN w vn N) (hT : IsT w vt T) (zN : SzN N) (zT : SzT T) (he : gErr N T = 0) (hR : IsR w o.nd.rv o.nd.rc) (zo : OpSz o) (hap : ApOk S o) (hri : KeepsR S o) (h0 : S.e o (cN N) T ≠ 0) :
    Calls Tryz.prog 20 #[.agg #[vn, vt], o.one] w (DoPost S N T o w) := by
  have hB := doW_below w vn vt o
  have cA : Calls Tryz.prog 34 #[.agg #[vn, vt], .slice (some ⟨w.heap.size + 3, 0, none⟩) 1 1] (doW w vn vt o) (AllPost S N T [o] (doW w vn vt o)) := all_in S (hN.on hB) (hT.on hB) zN zT he (doW_isO hR) (by simp) (fun x hx => by simp at hx; subst hx; exact zo) (fun x hx => by simp at hx; subst hx; exact hap) (fun x hx => by simp at hx; subst hx; exact hri)
  replace cA : Calls Tryz.prog 34 #[.agg #[vn, vt], .slice (some ⟨w.heap.size + 3, 0, none⟩) 1 1] (doW w vn vt o) (fun e w' => e = .returned (.tuple #[.agg #[.slice none 0 0, .slice none 0 0], .int .i64 0, .iface 74 (.int .i64 (S.e o (cN N) T))]) ∧ Below (doW w vn vt o).heap.size (doW w vn vt o) w') := cA.mono fun e w' hP => by
    obtain ⟨hB1, ⟨h1, _⟩ | ⟨_, rfl⟩⟩ := hP
    · simp [OpS.err, h0] at h1
    · refine ⟨?_, hB1⟩
      simp [OpS.err, OpS.at, h0, errV_ne h0]
  have HB : Hid (Below w.heap.size w (doW w vn vt o) ∧ (doW w vn vt o).heap.size = w.heap.size + 4 ∧ (doW w vn vt o).heap[w.heap.size + 2]? = some (.cells #[.slice none 0 0, .slice none 0 0] 29 (0, 0))) := ⟨hB, doW_size w vn vt o, doW_2 w vn vt o⟩
  obtain ⟨an, cn, hvn, _⟩ := hN
  obtain ⟨am, cm, hvt, _⟩ := hT
  subst hvn hvt
  obtain ⟨av, lv, cv, hv⟩ := hR.sl
  clear hR hB hap hri zo
  obtain ⟨wh, ⟨id, kd, rv, rc⟩, ⟨nm, pt, pn, ps⟩, ⟨bd, fr, tt⟩⟩ := o
  simp only at hv
  subst hv
  unfold doW opA at cA
  simp only at cA
  obtain ⟨W3, hW3⟩ : ∃ W3, W3 = ((w.alloc (.cells #[.slice an N.length cn, .slice am T.length cm] 29)).alloc (.cells #[.int .i64 wh, .int .i64 id, .string kd, .slice av lv cv, .string nm, .int .i64 pt, .int .i64 pn, .string ps, .string bd, .int .i64 fr, .int .i64 tt] 56)).alloc (.cells #[.slice none 0 0, .slice none 0 0] 29) := ⟨_, rfl⟩
  have m0 : W3.heap[w.heap.size]? = some (.cells #[.slice an N.length cn, .slice am T.length cm] 29 (0, 0)) := by
    rw [hW3]; exact (Below.heap_alloc _ _ _ (by simp; omega)).trans ((Below.heap_alloc _ _ _ (by simp)).trans (heap_alloc_new w _))
  have m1 : W3.heap[w.heap.size + 1]? = some (.cells #[.int .i64 wh, .int .i64 id, .string kd, .slice av lv cv, .string nm, .int .i64 pt, .int .i64 pn, .string ps, .string bd, .int .i64 fr, .int .i64 tt] 56 (0, 0)) := by
    have := heap_alloc_new (w.alloc (.cells #[.slice an N.length cn, .slice am T.length cm] 29)) (.cells #[.int .i64 wh, .int .i64 id, .string kd, .slice av lv cv, .string nm, .int .i64 pt, .int .i64 pn, .string ps, .string bd, .int .i64 fr, .int .i64 tt] 56)
    simp only [World.size_alloc] at this
    rw [hW3]; exact (Below.heap_alloc _ _ _ (by simp)).trans this
  have hs3 : W3.heap.size = w.heap.size + 3 := by rw [hW3]; simp
  have x0 : W3.cell? ⟨w.heap.size, 0, none⟩ = some (.slice an N.length cn) := cell_at m0 rfl
  have x1 : W3.cell? ⟨w.heap.size, 1, none⟩ = some (.slice am T.length cm) := cell_at m0 rfl
  have y0 : W3.cell? ⟨w.heap.size + 1, 0, none⟩ = some (.int .i64 wh) := cell_at m1 rfl
  have y1 : W3.cell? ⟨w.heap.size + 1, 1, none⟩ = some (.int .i64 id) := cell_at m1 rfl
  have y2 : W3.cell? ⟨w.heap.size + 1, 2, none⟩ = some (.string kd) := cell_at m1 rfl
  have y3 : W3.cell? ⟨w.heap.size + 1, 3, none⟩ = some (.slice av lv cv) := cell_at m1 rfl
  have y4 : W3.cell? ⟨w.heap.size + 1, 4, none⟩ = some (.string nm) := cell_at m1 rfl
  have y5 : W3.cell? ⟨w.heap.size + 1, 5, none⟩ = some (.int .i64 pt) := cell_at m1 rfl
  have y6 : W3.cell? ⟨w.heap.size + 1, 6, none⟩ = some (.int .i64 pn) := cell_at m1 rfl
  have y7 : W3.cell? ⟨w.heap.size + 1, 7, none⟩ = some (.string ps) := cell_at m1 rfl
  have y8 : W3.cell? ⟨w.heap.size + 1, 8, none⟩ = some (.string bd) := cell_at m1 rfl
  have y9 : W3.cell? ⟨w.heap.size + 1, 9, none⟩ = some (.int .i64 fr) := cell_at m1 rfl
  have y10 : W3.cell? ⟨w.heap.size + 1, 10, none⟩ = some (.int .i64 tt) := cell_at m1 rfl
  rw [← hW3] at cA
  clear m0 m1
  go_enter Tryz.func20, Tryz.ntmps20
  go_upto_region 1 with fail
  rw [← hW3]
  have HW3 := Lib.hid hW3
  clear hW3
  have H0 := Lib.hid h0
  generalize hz : S.e ⟨wh, ⟨id, kd, .slice av lv cv, rc⟩, ⟨nm, pt, pn, ps⟩, ⟨bd, fr, tt⟩⟩ (cN N) T = z at *
  have HZ := Lib.hid hz
  clear h0 hz
  go_wp2_with (first | (go_at_call 34; refine cA.mono ?_; rintro e W1 ⟨rfl, hB1⟩; refine Hid.out ?_))
  refine Lib.hid ?_
  obtain ⟨b1, b2, b3⟩ := HB.out
  have hW3 := HW3.out
  have hbw : Below w.heap.size w W1 := by
    refine on1K b1 ?_ (Nat.le_refl _)
    unfold doW opA
    rw [hW3] at hB1
    exact hB1
  have hX : W1.heap[w.heap.size + 2]? = some (.cells #[.slice none 0 0, .slice none 0 0] 29 (0, 0)) := by
    have hB1' := hB1
    rw [hW3] at hB1'
    exact (hB1'.block (w.heap.size + 2) (by simp)).trans b3
  have hsz : w.heap.size + 4 ≤ W1.heap.size := by
    have := hB1.size
    rw [World.size_alloc, hs3] at this
    exact this
  have c0 : W1.cell? ⟨w.heap.size + 2, 0, none⟩ = some (.slice none 0 0) := cell_at hX rfl
  have c1 : W1.cell? ⟨w.heap.size + 2, 1, none⟩ = some (.slice none 0 0) := cell_at hX rfl
  clear b1 b2 b3 hB1 HB cA hW3 HW3 x0 x1 y0 y1 y2 y3 y4 y5 y6 y7 y8 y9 y10
  have q0 := cell_old c0
  have q1 := cell_old c1
  have f0 : ∀ o, (W1.alloc o).frozen? ⟨w.heap.size + 2, 0, none⟩ = false := fun o => frz_at (((b_alloc (Below.refl _ W1) o).block (w.heap.size + 2) (by omega)).trans hX)
  have f1 : ∀ o, (W1.alloc o).frozen? ⟨w.heap.size + 2, 1, none⟩ = false := fun o => frz_at (((b_alloc (Below.refl _ W1) o).block (w.heap.size + 2) (by omega)).trans hX)
  have hb4 : Below W1.heap.size W1 (W1.alloc (.cells #[.slice none 0 0, .slice none 0 0] 29)) := b_alloc (Below.refl _ _) _
  have hX4 := (hb4.block (w.heap.size + 2) (by omega)).trans hX
  have u1 : (((W1.alloc (.cells #[.slice none 0 0, .slice none 0 0] 29)).setCell ⟨w.heap.size + 2, 0, none⟩ (.slice none 0 0)).setCell ⟨w.heap.size + 2, 1, none⟩ (.slice none 0 0)).heap[w.heap.size + 2]? = some (.cells #[.slice none 0 0, .slice none 0 0] 29 (0, 0)) := heap_setCell_same _ _ 1 _ 29 _ (heap_setCell_same _ _ 0 _ 29 _ hX4)
  have HF : Hid (Below w.heap.size w (W1.alloc (.cells #[.slice none 0 0, .slice none 0 0] 29))) := on1K hbw hb4 (Nat.le_refl _)
  have HU := Lib.hid u1
  clear u1 hX4 hb4 hbw hX c0 c1
  go_wp2
  have v0 : (((W1.alloc (.cells #[.slice none 0 0, .slice none 0 0] 29)).setCell ⟨w.heap.size + 1 + 1, 0, none⟩ (.slice none 0 0)).setCell ⟨w.heap.size + 1 + 1, 1, none⟩ (.slice none 0 0)).cell? ⟨w.heap.size + 1 + 1, 0, none⟩ = some (.slice none 0 0) := cell_at HU.out rfl
  have v1 : (((W1.alloc (.cells #[.slice none 0 0, .slice none 0 0] 29)).setCell ⟨w.heap.size + 1 + 1, 0, none⟩ (.slice none 0 0)).setCell ⟨w.heap.size + 1 + 1, 1, none⟩ (.slice none 0 0)).cell? ⟨w.heap.size + 1 + 1, 1, none⟩ = some (.slice none 0 0) := cell_at HU.out rfl
  have z1 := HF.out
  refine bodyPost_ret (v := .tuple #[.agg #[.slice none 0 0, .slice none 0 0], .iface 74 (.int .i64 z)]) ?_ rfl ⟨(z1.setCell (by show _ ≤ w.heap.size + 1 + 1; omega) _).setCell (by show _ ≤ w.heap.size + 1 + 1; omega) _, .inr ⟨by rw [HZ.out]; exact H0.out, ?_⟩⟩
  · simp [results, Tryz.results20, go_sem, v0, v1]
  · rw [HZ.out, errV_ne H0.out]
theorem do_in (S : OpS) {vn vt : Value} {N : List Nd} {T : List Te} {o : Opx} {w : World} (hN : IsN w vn N) (hT : IsT w vt T) (zN : SzN N) (zT : SzT T) (he : gErr N T = 0) (hR : IsR w o.nd.rv o.nd.rc) (zo : OpSz o) (hap : ApOk S o) (hri : KeepsR S o) :
    Calls Tryz.prog 20 #[.agg #[vn, vt], o.one] w (DoPost S N T o w) := by
  by_cases h0 : S.e o (cN N) T = 0
  · exact do_ok S hN hT zN zT he hR zo hap hri h0
  · exact do_bad S hN hT zN zT he hR zo hap hri h0
end Go.Proofs.YtifhigajonafdaaGreat

/-
  What Do leaves of a base.
-/
namespace Go.Proofs.YtifhigajonafdaaGreat
open Go.RowKit Go.Maps
set_option linter.unusedVariables false
set_option linter.unusedSimpArgs false

def ssDo (x : Ss) (o : Opx) : Ss := ⟨x.gN, x.gT, x.O ++ [o.c], opM o x.eN x.eT, opT o x.eN x.eT, x.X⟩
def doS (s : Bs) (i : Int) (x : Ss) (o : Opx) : Bs := ⟨s.L, s.B, s.N, s.T, upd s.F i (ssDo x o), s.cnt, s.op, s.age, s.nb⟩
theorem err_app : ∀ (O : List Opx) (o : Opx) (M : List Nd) (T : List Te), opS.err O M T = 0 → opS.err (O ++ [o]) M T = opE o (opS.res O M T).1 (opS.res O M T).2
  | [], o, M, T, _ => by
    show opS.err [o] M T = opE o M T
    unfold OpS.err
    by_cases h : opS.e o M T = 0
    · rw [if_pos h]; exact h.symm
    · rw [if_neg h]; rfl
  | q :: r, o, M, T, h => by
    have e : opS.e q M T = 0 := by
      by_cases e : opS.e q M T = 0
      · exact e
      · unfold OpS.err at h; rw [if_neg e] at h; exact absurd h e
    show opS.err (q :: (r ++ [o])) M T = _
    unfold OpS.err at h ⊢
    rw [if_pos e] at h ⊢
    rw [OpS.res, if_pos e]
    exact err_app r o _ _ h
theorem res_app : ∀ (O : List Opx) (o : Opx) (M : List Nd) (T : List Te), opS.err O M T = 0 → opE o (opS.res O M T).1 (opS.res O M T).2 = 0 → opS.res (O ++ [o]) M T = (opM o (opS.res O M T).1 (opS.res O M T).2, opT o (opS.res O M T).1 (opS.res O M T).2)
  | [], o, M, T, _, h => by
    show opS.res [o] M T = _
    unfold OpS.res
    have h' : opS.e o M T = 0 := h
    rw [if_pos h']
    rfl
  | q :: r, o, M, T, h, h2 => by
    have e : opS.e q M T = 0 := by
      by_cases e : opS.e q M T = 0
      · exact e
      · unfold OpS.err at h; rw [if_neg e] at h; exact absurd h e
    show opS.res (q :: (r ++ [o])) M T = _
    unfold OpS.err at h
    rw [if_pos e] at h
    rw [OpS.res, if_pos e] at h2
    rw [OpS.res, if_pos e, OpS.res, if_pos e]
    exact res_app r o _ _ h h2
theorem res_g : ∀ (O : List Opx) (M : List Nd) (T : List Te), gErr M T = 0 → opS.err O M T = 0 → gErr (opS.res O M T).1 (opS.res O M T).2 = 0
  | [], M, T, h, _ => h
  | q :: r, M, T, h, he => by
    have e : opS.e q M T = 0 := by
      by_cases e : opS.e q M T = 0
      · exact e
      · unfold OpS.err at he; rw [if_neg e] at he; exact absurd he e
    unfold OpS.err at he
    rw [if_pos e] at he
    rw [OpS.res, if_pos e]
    exact res_g r _ _ (keeps_all q M T h e) he
theorem SsOk.eg {x : Ss} (h : SsOk x) : gErr x.eN x.eT = 0 := by
  have := res_g x.O x.gN x.gT h.g0 h.e0
  rwa [h.r0] at this
theorem ssDo_ok {x : Ss} {o : Opx} (h : SsOk x) (hl : x.O.length < 40) (zo : OpSz o) (e0 : opE o x.eN x.eT = 0) : SsOk (ssDo x o) := by
  have h1 : opE o.c (opS.res x.O x.gN x.gT).1 (opS.res x.O x.gN x.gT).2 = 0 := by rw [h.r0]; exact e0
  refine ⟨h.g0, ?_, ?_, by simp [ssDo]; omega, fun q hq => ?_, h.i0⟩
  · show opS.err (x.O ++ [o.c]) x.gN x.gT = 0
    rw [err_app _ _ _ _ h.e0]; exact h1
  · show opS.res (x.O ++ [o.c]) x.gN x.gT = (opM o x.eN x.eT, opT o x.eN x.eT)
    rw [res_app _ _ _ _ h.e0 h1, h.r0]; rfl
  · rcases List.mem_append.1 hq with hq | hq
    · exact h.z0 q hq
    · rw [List.mem_singleton.1 hq]; exact zo
theorem doS_ok {s : Bs} {i : Int} {x : Ss} {o : Opx} (h : BsOk s) (hF : s.F i = some x) (hl : x.O.length < 40) (zo : OpSz o) (e0 : opE o x.eN x.eT = 0) : BsOk (doS s i x o) := by
  refine ⟨h.c0, h.kz, h.bz, fun j y hy => ?_, h.on, h.an, h.nl, fun j hj => ?_⟩
  · unfold doS upd at hy
    simp only at hy
    split at hy
    · rename_i e
      rw [← Option.some.inj hy, e]
      exact ⟨ssDo_ok (h.so i x hF).1 hl zo e0, (h.so i x hF).2⟩
    · exact h.so j y hy
  · unfold doS upd at hj
    simp only at hj
    split at hj
    · rename_i e
      rw [e]
      exact h.nf i (by rw [hF]; exact fun h => by cases h)
    · exact h.nf j hj
theorem be_do {w W : World} {base p : Nat} {l : Bl} {s : Bs} {i : Int} {x : Ss} {o : Opx} (h : BeL w base p l s) (hb : base ≤ w.heap.size) (hF : s.F i = some x)
    (hx : Bx w.heap.size (l.q i :: (l.v i).ownBlock.toList) w W) {vn vt v' un ut : Value} {K M : List Nd} {O : List Opx}
    (hs : w.heap[l.q i]? = some (.cells #[vn, vt, l.v i, un, ut, .map (some (l.m i))] 78 (0, 0))) (hg : cN K = x.gN ∧ OwnNs w base vn K ∧ OwnTs w base vt x.gT) {un' ut' : Value}
    (hq : W.heap[l.q i]? = some (.cells #[vn, vt, v', un', ut', .map (some (l.m i))] 78 (0, 0))) (hO : cO O = x.O ++ [o.c]) (hOw : OwnOs W base v' O) (hmv : Moved w (l.v i) v')
    (hM : cN M = opM o x.eN x.eT ∧ OwnNs W base un' M ∧ OwnTs W base ut' (opT o x.eN x.eT)) : Be W base p (doS s i x o) ∧ Fr base w W := by
  have hne : s.F i ≠ none := by rw [hF]; exact fun h => by cases h
  have hf := h.fr hb hx (fun y hy => by
    rcases List.mem_cons.1 hy with rfl | hy
    · exact .inr (.inr ⟨i, hne, .inl rfl⟩)
    · exact .inr (.inr ⟨i, hne, .inr (.inr (by simpa using hy))⟩))
  obtain ⟨b1, b2, b3, b4, b5⟩ := h.blks hne
  have k : ∀ t, t ≠ 73 → t ≠ 78 → t ≠ 56 → Kt t w W := hf.2
  obtain ⟨hsn, hmm⟩ := h.ss i x hF
  obtain ⟨l1, l2, l3, l4, l5⟩ := hsn.lts
  have hmX : l.m i ∉ l.q i :: (l.v i).ownBlock.toList := fun hy => by
    rcases List.mem_cons.1 hy with e | hy
    · exact Ty.nem l4 l5 e.symm
    · exact Ty.nem (l3 _ (by simpa using hy)).2.2 l5 rfl
  have hpX : p ∉ l.q i :: (l.v i).ownBlock.toList := fun hy => by
    rcases List.mem_cons.1 hy with e | hy
    · exact b1 e.symm
    · exact (b5 p (by simpa using hy)).1 rfl
  have hbX : l.mb ∉ l.q i :: (l.v i).ownBlock.toList := fun hy => by
    rcases List.mem_cons.1 hy with e | hy
    · exact b2 e.symm
    · exact (b5 _ (by simpa using hy)).2 rfl
  refine ⟨⟨⟨l.vk, l.vb, l.vn, l.vt, l.mb, l.K, l.M, l.q, l.m, fun j => if j = i then v' else l.v j⟩, (hx.block p (Array.getElem?_eq_some_iff.1 h.cs).1 hpX).trans h.cs, h.bp, h.bm, h.sc' hf, h.gr' hf, ?_, fun j y hy => ?_, fun j j' hj hj' hjj => ?_⟩, hf⟩
  · have := h.mp.of_block (hx.block _ h.mp.lt hbX)
    have e : (fun j => ((doS s i x o).F j).map fun _ => l.q j) = fun j => (s.F j).map fun _ => l.q j := by
      funext j
      unfold doS upd
      simp only
      by_cases e : j = i
      · rw [if_pos e, e, hF]; rfl
      · rw [if_neg e]
    show SMap W l.mb s.op s.cnt (fun j => ((doS s i x o).F j).map fun _ => l.q j)
    rw [e]; exact this
  · unfold doS upd at hy
    simp only at hy
    by_cases e : j = i
    · subst e
      rw [if_pos rfl] at hy
      rw [← Option.some.inj hy]
      simp only [if_pos]
      obtain ⟨_, _, _, _, _, _, n', _, _, _, _, _, hS, hn, hq0, hm0⟩ := hsn
      exact ⟨⟨vn, vt, un', ut', K, M, n', O, hq, ⟨hg.1, hg.2.1.kt (k _ (by decide) (by decide) (by decide)) (k _ (by decide) (by decide) (by decide)), hg.2.2.kt (k _ (by decide) (by decide) (by decide))⟩, ⟨hO, hOw⟩, hM, hS.of_block (hx.block _ l2 hmX), hn, hq0, hm0⟩, hmm⟩
    · rw [if_neg e] at hy
      simp only [if_neg e]
      have hyn : s.F j ≠ none := by rw [hy]; exact fun h => by cases h
      obtain ⟨a1, a2, a3⟩ := h.ap j i hyn hne e
      obtain ⟨_, _, m3, m4, m5⟩ := (h.ss j y hy).1.lts
      refine ⟨h.sn hx hf hy (fun hm => ?_) (fun hm => ?_) (fun g hg hm => ?_), (h.ss j y hy).2⟩
      · rcases List.mem_cons.1 hm with e' | hm
        · exact a1 e'
        · exact Ty.ne m4 (l3 _ (by simpa using hm)).2.2 (by decide) rfl
      · rcases List.mem_cons.1 hm with e' | hm
        · exact Ty.nem l4 m5 e'.symm
        · exact Ty.nem (l3 _ (by simpa using hm)).2.2 m5 rfl
      · rcases List.mem_cons.1 hm with e' | hm
        · exact Ty.ne (m3 g hg).2.2 l4 (by decide) e'
        · exact a3 g hg (by simpa using hm)
  · have key : ∀ j, (doS s i x o).F j ≠ none → s.F j ≠ none := fun j hj => by
      unfold doS upd at hj
      simp only at hj
      by_cases e : j = i
      · rw [e]; exact hne
      · rwa [if_neg e] at hj
    obtain ⟨a1, a2, a3⟩ := h.ap j j' (key j hj) (key j' hj') hjj
    refine ⟨a1, a2, fun g hg => ?_⟩
    have bl : ∀ j g, s.F j ≠ none → (l.v j).ownBlock = some g → g < w.heap.size := fun j g hj hg => by
      obtain ⟨y, hy⟩ := Option.ne_none_iff_exists'.1 hj
      exact ((h.ss j y hy).1.lts.2.2.1 g hg).2.1
    by_cases e : j = i
    · have e' : j' ≠ i := fun q => hjj (e.trans q.symm)
      simp only [if_pos e] at hg
      simp only [if_neg e']
      rcases hmv with hmv | ⟨g', h1, h2⟩
      · rw [hmv, ← e] at hg; exact a3 g hg
      · rw [h1] at hg
        intro q
        have := bl j' g (key j' hj') q
        have := Option.some.inj hg
        omega
    · simp only [if_neg e] at hg
      by_cases e' : j' = i
      · simp only [if_pos e']
        rcases hmv with hmv | ⟨g', h1, h2⟩
        · rw [hmv, ← e']; exact a3 g hg
        · rw [h1]
          intro q
          have := bl j g (key j hj) hg
          have := Option.some.inj q
          omega
      · simp only [if_neg e']
        exact a3 g hg
/- (the texts from here on: parts of a session's Do) -/
theorem infoOp : (Tryz.prog.info? 56).map (fun i => (i.zero, i.size, i.bytes)) = some (some (.agg #[.int .i64 0, .int .i64 0, .string ⟨#[]⟩, .slice none 0 0, .string ⟨#[]⟩, .int .i64 0, .int .i64 0, .string ⟨#[]⟩, .string ⟨#[]⟩, .int .i64 0, .int .i64 0]), 11, 136) := by kernel_rfl
theorem op_one {o : Opx} (h : ∃ a l c, o.nd.rv = .slice a l c) : ∀ u ∈ o.cells, u.oneCell' = true := by
  obtain ⟨a, l, c, e⟩ := h
  intro u hu
  unfold Opx.cells at hu
  simp only [List.mem_cons, List.not_mem_nil, or_false] at hu
  rcases hu with rfl | rfl | rfl | rfl | rfl | rfl | rfl | rfl | rfl | rfl | rfl <;> (try rw [e]) <;> rfl
theorem ops_app {W : World} {base g0 : Nat} {v : Value} {O : List Opx} {o : Opx} (h : OwnOs W base v O) (hr : OwnRc W base o.nd.rv o.nd.rc) (hl : O.length < 40) (hc : ∀ j u, o.cells[j]? = some u → W.cell? ((⟨g0, 0, none⟩ : Addr).add j) = some u) (hb : base ≤ W.heap.size) :
    ∃ v' w', (∀ ty, (Builtin.append_ #[30, 30] ty #[v, .slice (some ⟨g0, 0, none⟩) 1 1]).run Tryz.prog W = .ok v' w') ∧ OwnOs w' base v' (O ++ [o]) ∧ W.grownBy w' v.ownBlock ∧ Moved W v v' ∧ ∃ a n c, v' = .slice a n c := by
  obtain ⟨i0, hi, hz0, hz1, hz2⟩ := info_parts infoOp
  obtain ⟨v', w', r1, r2, r3, r4, _⟩ := append_at (P := Tryz.prog) W base 30 0 56 i0 _ 11 136 Tryz.underlying30 hi hz0 hz1 hz2 rfl (by decide) v _ _ h.1 ⟨g0, 0, none⟩ 1 1 (by omega) o.cells rfl hc (op_one hr.sl) (by unfold maxLen; omega) (by omega) hb
  have hk : Kt 52 W w' := Kt.of_own h.1 (by decide) r3
  obtain ⟨a, c, e⟩ := own_slice r2
  refine ⟨v', w', fun ty => r1, ⟨?_, fun q hq => ?_⟩, r3, r4, _, _, _, e⟩
  · rw [List.length_append, List.flatMap_append]
    simpa using r2
  · rcases List.mem_append.1 hq with hq | hq
    · exact (h.2 q hq).kt hk
    · rw [List.mem_singleton.1 hq]; exact hr.kt hk
theorem clone_recB (w : World) (base : Nat) (hb : base ≤ w.heap.size) {v : Value} {L : List Pr} (h : IsR w v L) (hl : L.length ≤ 2932031007402) (ty : TypeId) :
    ∃ v' w', (Builtin.append_ #[46, 46] ty #[.slice none 0 0, v]).run Tryz.prog w = .ok v' w' ∧ (OwnRc w' base v' L ∧ w.grownBy w' none) := by
  obtain ⟨i0, hi0, hz0, hz1, hz2⟩ := info_parts infoP
  exact run_clone w base 46 ty 52 i0 _ 4 48 Tryz.underlying46 hi0 hz0 hz1 hz2 rfl (by decide) v _ _ h.has (flatK_len pr_len L) (pr_one L) (by unfold maxLen; omega) (by omega) hb
set_option maxHeartbeats 1000000 in
theorem copiedNode_big (n : Nd) (w : World) (hR : IsR w n.rv n.rc) (hl : n.rc.length ≤ 2932031007402) :
    Calls Tryz.prog 21 #[n.one] w fun e w' => ∃ v', e = .returned (.agg #[.int .i64 n.id, .string n.kd, v']) ∧ OwnRc w' w.heap.size v' n.rc ∧ Below w.heap.size w w' := by
  have hR0 := hR.on (cpW_below w n)
  have hcl := fun ty => clone_recB (cpW w n) w.heap.size (cpW_below w n).size hR0 hl ty
  have HB : Hid (Below w.heap.size w (cpW w n) ∧ (cpW w n).heap[w.heap.size]? = some (.cells #[.int .i64 n.id, .string n.kd, n.rv] 48 (0, 0)) ∧ (cpW w n).heap[w.heap.size + 1]? = some (.cells #[.int .i64 0, .string ⟨#[]⟩, .slice none 0 0] 48 (0, 0)) ∧ (cpW w n).heap.size = w.heap.size + 2) := ⟨cpW_below w n, cpW_0 w n, cpW_1 w n, by simp [cpW]⟩
  obtain ⟨av, lv, cv, hv⟩ := hR.sl
  obtain ⟨id, kd, rv, rc⟩ := n
  simp only at hv hl hcl HB
  subst hv
  clear hR hR0
  unfold cpW at hcl
  go_enter Tryz.func21, Tryz.ntmps21
  go_wp2_with (at_builtin; refine wpList_append_E rfl _ _ 46 rfl _ _ rfl rfl (hcl _) ?_; rintro v1 w1 ⟨hown, hgrow⟩; refine Hid.out ?_)
  refine Lib.hid ?_
  obtain ⟨ao, cp, rfl⟩ := own_slice hown
  obtain ⟨hB, h0, h1, hsz⟩ := HB.out
  have k0 := (hgrow.block w.heap.size (by simp; omega) (by simp)).trans h0
  have k1 := (hgrow.block (w.heap.size + 1) (by simp) (by simp)).trans h1
  have HO : Hid (OwnRc w1 w.heap.size (.slice ao rc.length cp) rc ∧ Below w.heap.size w w1 ∧ w1.heap[w.heap.size]? = some (.cells #[.int .i64 id, .string kd, .slice av lv cv] 48 (0, 0)) ∧ w1.heap[w.heap.size + 1]? = some (.cells #[.int .i64 0, .string ⟨#[]⟩, .slice none 0 0] 48 (0, 0))) := ⟨hown, below_grown hB hgrow (by rw [hsz]; omega) (fun k hk => by cases hk), k0, k1⟩
  have c0 : w1.cell? ⟨w.heap.size, 0, none⟩ = some (.int .i64 id) := cell_at k0 rfl
  have c1 : w1.cell? ⟨w.heap.size, 1, none⟩ = some (.string kd) := cell_at k0 rfl
  have c2 : w1.cell? ⟨w.heap.size, 2, none⟩ = some (.slice av lv cv) := cell_at k0 rfl
  have f2 : w1.frozen? ⟨w.heap.size, 2, none⟩ = false := frz_at k0
  have d0 : w1.cell? ⟨w.heap.size + 1, 0, none⟩ = some (.int .i64 0) := cell_at k1 rfl
  have d1 : w1.cell? ⟨w.heap.size + 1, 1, none⟩ = some (.string ⟨#[]⟩) := cell_at k1 rfl
  have d2 : w1.cell? ⟨w.heap.size + 1, 2, none⟩ = some (.slice none 0 0) := cell_at k1 rfl
  have g0 : w1.frozen? ⟨w.heap.size + 1, 0, none⟩ = false := frz_at k1
  have g1 : w1.frozen? ⟨w.heap.size + 1, 1, none⟩ = false := frz_at k1
  have g2 : w1.frozen? ⟨w.heap.size + 1, 2, none⟩ = false := frz_at k1
  clear hB h0 h1 hsz k0 k1 hown hgrow HB hcl
  go_wp2
  obtain ⟨o1, o2, o3, o4⟩ := HO.out
  refine bodyPost_ret (v := .agg #[.int .i64 id, .string kd, .slice ao rc.length cp]) ?_ rfl ⟨_, rfl, ?_, ?_⟩
  · simp [results, Tryz.results21, go_sem, c0, c1, c2, d0, d1, d2]
  · exact o1.kt (((Kt.refl _ _).ty ⟨_, o3⟩ (by decide) _ _).ty3 (Ty.set ⟨_, o4⟩ _ _ _) (by decide) _ _ _ _ _ _)
  · exact below_set3 (o2.setCell (Nat.le_refl _) _) (by omega) _ _ _ _ _ _
end Go.Proofs.YtifhigajonafdaaGreat
