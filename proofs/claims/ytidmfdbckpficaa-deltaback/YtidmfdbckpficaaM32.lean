/-
  All of what is wrong, or too much; what it gives, in two cases.
-/
import Derived.Test.YtidmfdbckpficaaM22
import Derived.Test.YtidmfdbckpficaaM31
namespace Go.Proofs.Ytidmfdbckpficaa
open Go.RowKit
set_option linter.unusedVariables false
set_option linter.unusedSimpArgs false

/-- All of these goes through. -/
def AllOk (N : List Nd) (T : List Te) (L : List Opx) : Prop := L.length ≤ 40 ∧ gErr N T = 0 ∧ opS.err L (cN N) T = 0
abbrev noG (k z : Int) : Ending := .returned (.tuple #[.agg #[.slice none 0 0, .slice none 0 0], .int .i64 k, .iface 60 (.int .i64 z)])

set_option maxHeartbeats 4000000 in
set_option maxRecDepth 100000 in
theorem all_full {vn vt vl : Value} {N : List Nd} {T : List Te} {L : List Opx} {w : World} (hN : IsN w vn N) (hT : IsT w vt T) (hL : IsO w vl L) (hl : 40 < L.length) (hm : L.length ≤ maxLen) :
    Calls Try.prog 8 #[.agg #[vn, vt], vl] w fun e w' => e = noG 0 4 ∧ Below w.heap.size w w' := by
  obtain ⟨an, cn, hvn, _⟩ := hN
  obtain ⟨am, cm, hvt, _⟩ := hT
  obtain ⟨ao, co, hvl, _⟩ := hL
  subst hvn hvt hvl
  unfold maxLen at hm
  have hlen : ((L.length : Int) > 40) := by omega
  go_enter Try.func8, Try.ntmps8
  go_wp2
  refine bodyPost_ret (v := .tuple #[.agg #[.slice none 0 0, .slice none 0 0], .int .i64 0, .iface 60 (.int .i64 4)]) ?_ rfl ⟨rfl, ?_⟩
  · simp [results, Try.results8, go_sem]
  · first
      | exact (((Below.refl _ _).alloc (Nat.le_refl _) _).alloc (by simp) _)
      | exact ((((Below.refl _ _).alloc (Nat.le_refl _) _).alloc (by simp) _).setCell (by simp) _).setCell (by simp) _

set_option maxHeartbeats 4000000 in
set_option maxRecDepth 100000 in
theorem all_wrong {vn vt vl : Value} {N : List Nd} {T : List Te} {L : List Opx} {w : World} (hN : IsN w vn N) (hT : IsT w vt T) (zN : SzN N) (zT : SzT T) (lN : N.length ≤ maxLen) (lT : T.length ≤ maxLen) (hL : IsO w vl L) (hl : L.length ≤ 40) (h0 : gErr N T ≠ 0) :
    Calls Try.prog 8 #[.agg #[vn, vt], vl] w fun e w' => e = noG 0 (gErr N T) ∧ Below w.heap.size w w' := by
  obtain ⟨W0, hW0⟩ : ∃ W0, W0 = (w.alloc (.cells #[vn, vt] 25)).alloc (.cells #[.slice none 0 0, .slice none 0 0] 25) := ⟨_, rfl⟩
  have hB0 : Below w.heap.size w W0 := by rw [hW0]; exact b_alloc (b_alloc (Below.refl _ _) _) _
  have hs0 : W0.heap.size = w.heap.size + 2 := by rw [hW0]; simp
  have n1 : W0.heap[w.heap.size + 1]? = some (.cells #[.slice none 0 0, .slice none 0 0] 25 (0, 0)) := by
    have := heap_alloc_new (w.alloc (.cells #[vn, vt] 25)) (.cells #[.slice none 0 0, .slice none 0 0] 25)
    rw [World.size_alloc] at this; rw [hW0]; exact this
  have cG := gcheck_any (hN.on hB0) (hT.on hB0) zN zT lN lT
  rw [errV_ne h0] at cG
  obtain ⟨an, cn, hvn, _⟩ := hN
  obtain ⟨am, cm, hvt, _⟩ := hT
  obtain ⟨ao, co, hvl, _⟩ := hL
  subst hvn hvt hvl
  have HI : Hid (Below w.heap.size w W0 ∧ W0.heap[w.heap.size + 1]? = some (.cells #[.slice none 0 0, .slice none 0 0] 25 (0, 0))) := ⟨hB0, n1⟩
  generalize gErr N T = z at *
  clear hB0 n1 h0
  have hlen : ¬ ((L.length : Int) > 40) := by omega
  go_enter Try.func8, Try.ntmps8
  subst hW0
  go_wp2_with (first | (go_at_call 11; refine cG.mono ?_; rintro e W1 ⟨rfl, hB1⟩; refine Hid.out ?_))
  refine Lib.hid ?_
  have hbw := on1K HI.out.1 hB1 (Nat.le_refl _)
  have m1 := (hB1.block (w.heap.size + 1) (by rw [hs0]; omega)).trans HI.out.2
  have y0 : W1.cell? ⟨w.heap.size + 1, 0, none⟩ = some (.slice none 0 0) := cell_at m1 rfl
  have y1 : W1.cell? ⟨w.heap.size + 1, 1, none⟩ = some (.slice none 0 0) := cell_at m1 rfl
  have f0 : W1.frozen? ⟨w.heap.size + 1, 0, none⟩ = false := frz_at m1
  have f1 : W1.frozen? ⟨w.heap.size + 1, 1, none⟩ = false := frz_at m1
  have HU := Lib.hid (heap_setCell_same _ _ 1 _ 25 (.slice none 0 0) (heap_setCell_same _ _ 0 _ 25 (.slice none 0 0) m1))
  have HF := Lib.hid hbw
  clear hbw m1 hB1 HI cG
  go_wp2
  have v0 := cell_at (i := 0) HU.out rfl
  have v1 := cell_at (i := 1) HU.out rfl
  have z1 := HF.out
  refine bodyPost_ret (v := .tuple #[.agg #[.slice none 0 0, .slice none 0 0], .int .i64 0, .iface 60 (.int .i64 z)]) ?_ rfl ⟨rfl, (z1.setCell (by show _ ≤ w.heap.size + 1; omega) _).setCell (by show _ ≤ w.heap.size + 1; omega) _⟩
  simp [results, Try.results8, go_sem, v0, v1]

theorem all_no {vn vt vl : Value} {N : List Nd} {T : List Te} {L : List Opx} {w : World} (hN : IsN w vn N) (hT : IsT w vt T) (zN : SzN N) (zT : SzT T) (lN : N.length ≤ maxLen) (lT : T.length ≤ maxLen) (hL : IsO w vl L) (zL : ∀ o ∈ L, OpSz o) (lL : L.length ≤ maxLen) (h0 : ¬ AllOk N T L) :
    Calls Try.prog 8 #[.agg #[vn, vt], vl] w fun e w' => ∃ k z, z ≠ 0 ∧ e = noG k z ∧ Below w.heap.size w w' := by
  by_cases h1 : L.length ≤ 40
  · by_cases h2 : gErr N T = 0
    · have h3 : opS.err L (cN N) T ≠ 0 := fun h => h0 ⟨h1, h2, h⟩
      refine (all_in opS hN hT zN zT h2 hL h1 zL (fun o _ => apply_all o) (fun o _ => keeps_all o)).mono ?_
      rintro e w' ⟨hB, ⟨h, _⟩ | ⟨_, rfl⟩⟩
      · exact absurd h h3
      · exact ⟨_, _, h3, by rw [errV_ne h3], hB⟩
    · refine (all_wrong hN hT zN zT lN lT hL h1 h2).mono ?_
      rintro e w' ⟨rfl, hB⟩
      exact ⟨_, _, h2, rfl, hB⟩
  · refine (all_full hN hT hL (by omega) lL).mono ?_
    rintro e w' ⟨rfl, hB⟩
    exact ⟨_, _, by decide, rfl, hB⟩
theorem all_yes {vn vt vl : Value} {N : List Nd} {T : List Te} {L : List Opx} {w : World} (hN : IsN w vn N) (hT : IsT w vt T) (zN : SzN N) (zT : SzT T) (hL : IsO w vl L) (zL : ∀ o ∈ L, OpSz o) (h0 : AllOk N T L) :
    Calls Try.prog 8 #[.agg #[vn, vt], vl] w fun e w' => ∃ a l c b m d M, e = .returned (.tuple #[.agg #[.slice a l c, .slice b m d], .int .i64 0, .nilIface]) ∧ cN M = (opS.res L (cN N) T).1 ∧ OwnNs w' w.heap.size (.slice a l c) M ∧ OwnTs w' w.heap.size (.slice b m d) (opS.res L (cN N) T).2 ∧ gErr M (opS.res L (cN N) T).2 = 0 ∧ Below w.heap.size w w' := by
  refine (all_in opS hN hT zN zT h0.2.1 hL h0.1 zL (fun o _ => apply_all o) (fun o _ => keeps_all o)).mono ?_
  rintro e w' ⟨hB, ⟨_, un, ut, M, rfl, q1, q2, q3, q4⟩ | ⟨h, _⟩⟩
  · obtain ⟨a, c, e1⟩ := own_slice q2.1
    obtain ⟨b, d, e2⟩ := own_slice q3
    subst e1 e2
    exact ⟨_, _, _, _, _, _, M, rfl, q1, q2, q3, q4, hB⟩
  · exact absurd h0.2.2 h
end Go.Proofs.Ytidmfdbckpficaa

/-
  The walks of Diff and Turn.
-/
namespace Go.Proofs.Ytidmfdbckpficaa
open Go.RowKit
set_option linter.unusedVariables false
set_option linter.unusedSimpArgs false

/-- What between gives, of any two graphs that are right. -/
def BeOk : Prop := ∀ {vn vt un ut : Value} {N M : List Nd} {T U : List Te} {w : World}, IsN w vn N → IsT w vt T → IsN w un M → IsT w ut U → gErr N T = 0 → gErr M U = 0 → Calls Try.prog 13 #[.agg #[vn, vt], .agg #[un, ut]] w (OuPost w (difO N T M U))
abbrev noD (z : Int) : Ending := .returned (.tuple #[.slice none 0 0, .iface 60 (.int .i64 z)])
/-- What Diff gives. -/
def DfPost (w : World) (D : List Opx) (e : Ending) (w' : World) : Prop := ∃ ao c L, e = .returned (.tuple #[.slice ao L.length c, .nilIface]) ∧ OwnOs w' w.heap.size (.slice ao L.length c) L ∧ L.map Opx.c = D ∧ Below w.heap.size w w'

set_option maxHeartbeats 4000000 in
set_option maxRecDepth 100000 in
theorem diff_yes (hb : BeOk) {vn vt un ut : Value} {N M : List Nd} {T U : List Te} {w : World} (hN : IsN w vn N) (hT : IsT w vt T) (hM : IsN w un M) (hU : IsT w ut U) (zN : SzN N) (zT : SzT T) (zM : SzN M) (zU : SzT U) (g1 : gErr N T = 0) (g2 : gErr M U = 0) :
    Calls Try.prog 5 #[.agg #[vn, vt], .agg #[un, ut]] w (DfPost w (difO N T M U)) := by
  obtain ⟨l1, l2, _, _⟩ := gErr_lens g1
  obtain ⟨l3, l4, _, _⟩ := gErr_lens g2
  obtain ⟨W0, hW0⟩ : ∃ W0, W0 = (w.alloc (.cells #[vn, vt] 25)).alloc (.cells #[un, ut] 25) := ⟨_, rfl⟩
  have hB0 : Below w.heap.size w W0 := by rw [hW0]; exact b_alloc (b_alloc (Below.refl _ _) _) _
  have n0 : W0.heap[w.heap.size]? = some (.cells #[vn, vt] 25 (0, 0)) := by rw [hW0]; exact (heap_alloc_old _ _ (by simp)).trans (heap_alloc_new w _)
  have n1 : W0.heap[w.heap.size + 1]? = some (.cells #[un, ut] 25 (0, 0)) := by
    have := heap_alloc_new (w.alloc (.cells #[vn, vt] 25)) (.cells #[un, ut] 25)
    rw [World.size_alloc] at this; rw [hW0]; exact this
  have cG := gcheck_any (hN.on hB0) (hT.on hB0) zN zT (by unfold maxLen; omega) (by unfold maxLen; omega)
  rw [g1, errV_0] at cG
  have cH := fun (W1 : World) (hB : Below W0.heap.size W0 W1) => gcheck_any (hM.on (on1K hB0 hB (Nat.le_refl _))) (hU.on (on1K hB0 hB (Nat.le_refl _))) zM zU (by unfold maxLen; omega) (by unfold maxLen; omega)
  rw [g2, errV_0] at cH
  have cB := fun (W1 : World) (hB : Below W0.heap.size W0 W1) => hb (hN.on (on1K hB0 hB (Nat.le_refl _))) (hT.on (on1K hB0 hB (Nat.le_refl _))) (hM.on (on1K hB0 hB (Nat.le_refl _))) (hU.on (on1K hB0 hB (Nat.le_refl _))) g1 g2
  have HX : Hid (∀ W, Below W0.heap.size W0 W → W.cell? ⟨w.heap.size, 0, none⟩ = some vn ∧ W.cell? ⟨w.heap.size, 1, none⟩ = some vt ∧ W.cell? ⟨w.heap.size + 1, 0, none⟩ = some un ∧ W.cell? ⟨w.heap.size + 1, 1, none⟩ = some ut) := fun W hb => ⟨cell_at ((hb.block _ (Array.getElem?_eq_some_iff.1 n0).1).trans n0) rfl, cell_at ((hb.block _ (Array.getElem?_eq_some_iff.1 n0).1).trans n0) rfl, cell_at ((hb.block _ (Array.getElem?_eq_some_iff.1 n1).1).trans n1) rfl, cell_at ((hb.block _ (Array.getElem?_eq_some_iff.1 n1).1).trans n1) rfl⟩
  have HB0 := Lib.hid hB0
  obtain ⟨an, cn, hvn, _⟩ := hN
  obtain ⟨am, cm, hvt, _⟩ := hT
  obtain ⟨bn, dn, hun, _⟩ := hM
  obtain ⟨bm, dm, hut, _⟩ := hU
  subst hvn hvt hun hut
  clear n0 n1 hB0 hb
  go_enter Try.func5, Try.ntmps5
  subst hW0
  go_wp2_with (first | (go_at_call 11; refine cG.mono ?_; rintro e W1 ⟨rfl, hB1⟩; refine Hid.out ?_))
  refine Lib.hid ?_
  have cH1 := cH W1 hB1
  obtain ⟨y0, y1, y2, y3⟩ := HX.out W1 hB1
  clear cG cH
  go_wp2_with (first | (go_at_call 11; refine cH1.mono ?_; rintro e W2 ⟨rfl, hB2⟩; refine Hid.out ?_))
  refine Lib.hid ?_
  have hB12 := on1K hB1 hB2 (Nat.le_refl _)
  have cB2 := cB W2 hB12
  obtain ⟨z0, z1, z2, z3⟩ := HX.out W2 hB12
  have HB2 := Lib.hid (on1K HB0.out hB12 (Nat.le_refl _))
  clear cH1 cB y0 y1 y2 y3 hB1 hB2 hB12 HX HB0
  go_wp2_with (first | (go_at_call 13; refine cB2.mono ?_; rintro e W3 ⟨ao, c, L, rfl, hO, hm, hB3⟩; have HE := Lib.hid (And.intro hO (And.intro hm hB3)); clear hO hm hB3))
  go_ret2
  obtain ⟨hO, hm, hB3⟩ := HE.out
  exact ⟨ao, c, L, rfl, hO.base HB2.out.size, hm, on1K HB2.out hB3 (Nat.le_refl _)⟩

set_option maxHeartbeats 4000000 in
set_option maxRecDepth 100000 in
theorem diff_no {vn vt un ut : Value} {N M : List Nd} {T U : List Te} {w : World} (hN : IsN w vn N) (hT : IsT w vt T) (hM : IsN w un M) (hU : IsT w ut U) (zN : SzN N) (zT : SzT T) (zM : SzN M) (zU : SzT U) (l1 : N.length ≤ maxLen) (l2 : T.length ≤ maxLen) (l3 : M.length ≤ maxLen) (l4 : U.length ≤ maxLen) (h : ¬ (gErr N T = 0 ∧ gErr M U = 0)) :
    Calls Try.prog 5 #[.agg #[vn, vt], .agg #[un, ut]] w fun e w' => ∃ z, z ≠ 0 ∧ e = noD z ∧ Below w.heap.size w w' := by
  obtain ⟨W0, hW0⟩ : ∃ W0, W0 = (w.alloc (.cells #[vn, vt] 25)).alloc (.cells #[un, ut] 25) := ⟨_, rfl⟩
  have hB0 : Below w.heap.size w W0 := by rw [hW0]; exact b_alloc (b_alloc (Below.refl _ _) _) _
  have n1 : W0.heap[w.heap.size + 1]? = some (.cells #[un, ut] 25 (0, 0)) := by
    have := heap_alloc_new (w.alloc (.cells #[vn, vt] 25)) (.cells #[un, ut] 25)
    rw [World.size_alloc] at this; rw [hW0]; exact this
  have cG := gcheck_any (hN.on hB0) (hT.on hB0) zN zT l1 l2
  have cH := fun (W1 : World) (hB : Below W0.heap.size W0 W1) => gcheck_any (hM.on (on1K hB0 hB (Nat.le_refl _))) (hU.on (on1K hB0 hB (Nat.le_refl _))) zM zU l3 l4
  have HX : Hid (∀ W, Below W0.heap.size W0 W → W.cell? ⟨w.heap.size + 1, 0, none⟩ = some un ∧ W.cell? ⟨w.heap.size + 1, 1, none⟩ = some ut) := fun W hb => ⟨cell_at ((hb.block _ (Array.getElem?_eq_some_iff.1 n1).1).trans n1) rfl, cell_at ((hb.block _ (Array.getElem?_eq_some_iff.1 n1).1).trans n1) rfl⟩
  have HB0 := Lib.hid hB0
  obtain ⟨an, cn, hvn, _⟩ := hN
  obtain ⟨am, cm, hvt, _⟩ := hT
  obtain ⟨bn, dn, hun, _⟩ := hM
  obtain ⟨bm, dm, hut, _⟩ := hU
  subst hvn hvt hun hut
  clear n1 hB0
  by_cases g1 : gErr N T = 0
  · have g2 : ¬ gErr M U = 0 := fun g2 => h ⟨g1, g2⟩
    rw [g1, errV_0] at cG
    rw [errV_ne g2] at cH
    have HG := Lib.hid g2
    generalize gErr M U = z at *
    clear g1 g2 h
    go_enter Try.func5, Try.ntmps5
    subst hW0
    go_wp2_with (first | (go_at_call 11; refine cG.mono ?_; rintro e W1 ⟨rfl, hB1⟩; refine Hid.out ?_))
    refine Lib.hid ?_
    have cH1 := cH W1 hB1
    obtain ⟨y0, y1⟩ := HX.out W1 hB1
    clear cG cH
    go_wp2_with (first | (go_at_call 11; refine cH1.mono ?_; rintro e W2 ⟨rfl, hB2⟩))
    go_ret2
    exact ⟨z, HG.out, rfl, on1K HB0.out (on1K hB1 hB2 (Nat.le_refl _)) (Nat.le_refl _)⟩
  · rw [errV_ne g1] at cG
    have HG := Lib.hid g1
    generalize gErr N T = z at *
    clear g1 h cH
    go_enter Try.func5, Try.ntmps5
    subst hW0
    go_wp2_with (first | (go_at_call 11; refine cG.mono ?_; rintro e W1 ⟨rfl, hB1⟩))
    go_ret2
    exact ⟨z, HG.out, rfl, on1K HB0.out hB1 (Nat.le_refl _)⟩

set_option maxHeartbeats 4000000 in
set_option maxRecDepth 100000 in
theorem turn_yes (hb : BeOk) {vn vt vl : Value} {N : List Nd} {T : List Te} {L : List Opx} {w : World} (hN : IsN w vn N) (hT : IsT w vt T) (zN : SzN N) (zT : SzT T) (hL : IsO w vl L) (zL : ∀ o ∈ L, OpSz o) (h0 : AllOk N T L) :
    Calls Try.prog 9 #[.agg #[vn, vt], vl] w (fun e w' => ∃ M, cN M = (opS.res L (cN N) T).1 ∧ gErr M (opS.res L (cN N) T).2 = 0 ∧ DfPost w (difO M (opS.res L (cN N) T).2 N T) e w') := by
  obtain ⟨W0, hW0⟩ : ∃ W0, W0 = w.alloc (.cells #[vn, vt] 25) := ⟨_, rfl⟩
  have hB0 : Below w.heap.size w W0 := by rw [hW0]; exact b_alloc (Below.refl _ _) _
  have n0 : W0.heap[w.heap.size]? = some (.cells #[vn, vt] 25 (0, 0)) := by rw [hW0]; exact heap_alloc_new w _
  have cA := all_yes (hN.on hB0) (hT.on hB0) zN zT (hL.on hB0) zL h0
  have g1 := h0.2.1
  have cB := fun (W1 : World) (hB : Below W0.heap.size W0 W1) {un ut : Value} {M : List Nd} {U : List Te} (hM : IsN W1 un M) (hU : IsT W1 ut U) (g2 : gErr M U = 0) => hb hM hU (hN.on (on1K hB0 hB (Nat.le_refl _))) (hT.on (on1K hB0 hB (Nat.le_refl _))) g2 g1
  have HX : Hid (∀ W, Below W0.heap.size W0 W → W.cell? ⟨w.heap.size, 0, none⟩ = some vn ∧ W.cell? ⟨w.heap.size, 1, none⟩ = some vt) := fun W hb => ⟨cell_at ((hb.block _ (Array.getElem?_eq_some_iff.1 n0).1).trans n0) rfl, cell_at ((hb.block _ (Array.getElem?_eq_some_iff.1 n0).1).trans n0) rfl⟩
  have HB0 := Lib.hid hB0
  generalize (opS.res L (cN N) T).2 = U at *
  generalize (opS.res L (cN N) T).1 = R at *
  obtain ⟨an, cn, hvn, _⟩ := hN
  obtain ⟨am, cm, hvt, _⟩ := hT
  obtain ⟨ao, co, hvl, _⟩ := hL
  subst hvn hvt hvl
  clear n0 hB0 hb h0 g1
  go_enter Try.func9, Try.ntmps9
  subst hW0
  go_wp2_with (first | (go_at_call 8; refine cA.mono ?_; rintro e W1 ⟨a, l, c, b, m, d, M, rfl, q1, q2, q3, q4, hB1⟩; refine Hid.out ?_))
  refine Lib.hid ?_
  have hBx : Below W1.heap.size W1 (W1.alloc (.cells #[.slice a l c, .slice b m d] 25)) := b_alloc (Below.refl _ _) _
  have hB1x := on1K hB1 hBx (Nat.le_refl _)
  have cB1 := cB _ hB1x (q2.isN.on hBx) (q3.isT.on hBx) q4
  obtain ⟨y0, y1⟩ := HX.out _ hB1x
  have HE := Lib.hid (And.intro q1 (And.intro q4 (on1K HB0.out hB1x (Nat.le_refl _))))
  have hz : ¬ w.heap.size = W1.heap.size := by have := hB1.size; simp at this; omega
  clear q1 q2 q3 q4 hB1 hBx hB1x cA cB HX HB0
  go_wp2_with (first | (go_at_call 13; refine cB1.mono ?_; rintro e W3 ⟨ao', c', L', rfl, hO, hm, hB3⟩; have HF := Lib.hid (And.intro hO (And.intro hm hB3)); clear hO hm hB3))
  go_ret2
  obtain ⟨hO, hm, hB3⟩ := HF.out
  obtain ⟨q1, q4, hbx⟩ := HE.out
  exact ⟨M, q1, q4, ao', c', L', rfl, hO.base hbx.size, hm, on1K hbx hB3 (Nat.le_refl _)⟩
end Go.Proofs.Ytidmfdbckpficaa
