/-
  The walk of the law TextBack.
-/
import Derived.Test.YteabdlandbmdaaaGreatDoorM21
namespace Go.Proofs.YteabdlandbmdaaaGreatDoor
open Go.RowKit
set_option linter.unusedVariables false
set_option linter.unusedSimpArgs false

set_option maxHeartbeats 8000000 in
set_option maxRecDepth 100000 in
theorem tback_ok {vn vt : Value} {N : List Nd} {T : List Te} {t : Nm} {w : World} (hN : IsN w vn N) (hT : IsT w vt T) (zN : SzN N) (zT : SzT T) (ht : t.length ≤ 140737488355328) (hE : EV w) (hse : gErr N T = 0) :
    Calls Tryz.prog 3 #[.agg #[vn, vt], .string (bs t)] w fun e w' => e = .returned (.bool true) ∧ Below w.heap.size w w' := by
  obtain ⟨W0, hW0⟩ : ∃ W0, W0 = w.alloc (.cells #[vn, vt] 25) := ⟨_, rfl⟩
  have hB0 : Below w.heap.size w W0 := by rw [hW0]; exact b_alloc (Below.refl _ _) _
  have n0 : W0.heap[w.heap.size]? = some (.cells #[vn, vt] 25 (0, 0)) := by rw [hW0]; exact heap_alloc_new w _
  have HX : Hid (∀ W, Below W0.heap.size W0 W → W.cell? ⟨w.heap.size, 0, none⟩ = some vn ∧ W.cell? ⟨w.heap.size, 1, none⟩ = some vt) := fun W hb => ⟨cellB ((hb.block _ (Array.getElem?_eq_some_iff.1 n0).1).trans n0) rfl, cellB ((hb.block _ (Array.getElem?_eq_some_iff.1 n0).1).trans n0) rfl⟩
  have cF := parse_fact (hE.on hB0)
  rw [show bs fact0 = ⟨#[110, 111, 100, 101, 32, 51, 32, 97, 32, 120, 61, 49, 10, 116, 105, 101, 32, 112, 32, 51, 32, 51, 10]⟩ from rfl] at cF
  have HG : Hid (IsN w vn N ∧ IsT w vt T ∧ EV w ∧ Below w.heap.size w W0) := ⟨hN, hT, hE, hB0⟩
  have hz0 : w.heap.size < W0.heap.size := by rw [hW0]; simp
  obtain ⟨an, cn, rfl, _⟩ := hN
  obtain ⟨av, cv, rfl, _⟩ := hT
  clear hE hB0 n0
  go_enter Tryz.func3, Tryz.ntmps3
  go_upto_region 1 with fail
  rw [← hW0]
  clear hW0
  go_wp2_with (first | (go_at_call 4; refine cF.mono ?_; rintro e W1 ⟨bn, on, cn1, rb, ro, rc, a1, ct1, rfl, ⟨m1, m2⟩, hB1⟩; refine Hid.out ?_))
  refine Lib.hid ?_
  have hold : ∀ {a : Addr} {v : Value}, W1.cell? a = some v → ∀ o, (W1.alloc o).cell? a = some v := fun {a v} h o => ((b_alloc (Below.refl _ W1) o).cell (World.block_lt_of_cell? W1 _ h)).trans h
  have m1' := hold m1
  have m2' := hold m2
  have hB1a : Below W0.heap.size W0 (W1.alloc (.cells #[.slice (some ⟨bn, on, none⟩) 1 cn1, .slice a1 1 ct1] 25)) := on1 hB1 (b_alloc (Below.refl _ _) _)
  have hbw1 := on1 HG.out.2.2.2 hB1a
  obtain ⟨x0, x1⟩ := HX.out _ hB1a
  have HB1 := Lib.hid hB1a
  have cPr := tprint_ok (HG.out.1.on hbw1) (HG.out.2.1.on hbw1) zN zT (HG.out.2.2.1.on hbw1).tb hse
  clear hold hB1a hbw1 hB1 cF
  go_wp2_with (first | (go_at_call 5; refine cPr.mono ?_; rintro e W2 ⟨rfl, hB2⟩; refine Hid.out ?_))
  refine Lib.hid ?_
  have hBt2 := on1 HB1.out hB2
  have hbw2 := on1 HG.out.2.2.2 hBt2
  have cG := parse_good hse (HG.out.2.2.1.on hbw2)
  have HB2 := Lib.hid hBt2
  clear cPr hBt2 hbw2 hB2 m1 m2 m1' m2' HB1 x0 x1
  go_wp2_with (first | (go_at_call 4; refine cG.mono ?_; rintro e W3 ⟨a3, k3, c3, b3, l3, d3, L', rfl, ⟨q1, q2, q3⟩, hB3⟩; refine Hid.out ?_))
  refine Lib.hid ?_
  have hx3 : Below W3.heap.size W3 (W3.alloc (.cells #[.slice a3 k3 c3, .slice b3 l3 d3] 25)) := b_alloc (Below.refl _ _) _
  have hB3a := on1 (on1 HB2.out hB3) hx3
  have hbw3 := on1 HG.out.2.2.2 hB3a
  have hlen : L'.length = N.length := by have := congrArg List.length q1; simpa [cN] using this
  obtain ⟨g1, g2, g3, _⟩ := gErr_zero hse
  have cS := graph_same (q2.on hx3) (q3.on hx3) (HG.out.1.on hbw3) (HG.out.2.1.on hbw3) q1 (by omega) (by omega) (fun n hn => by
    obtain ⟨m, hm, e⟩ := List.mem_map.1 (show n.c ∈ cN N by rw [← q1]; exact List.mem_map.2 ⟨n, hn, rfl⟩)
    have e2 : m.rc = n.rc := show m.c.rc = n.c.rc from congrArg Nd.rc e
    have := rErr_len (g3 m hm).rc
    rw [← e2]
    omega)
  obtain ⟨x0, x1⟩ := HX.out _ hB3a
  have hz3 : ¬ w.heap.size = W3.heap.size := by have h3 := (on1 HB2.out hB3).size; omega
  have HB3 := Lib.hid hB3a
  clear q1 q2 q3 hB3 hx3 hB3a hbw3 hlen g1 g2 g3 cG HB2
  go_wp2_with (first | (go_at_call 6; refine cS.mono ?_; rintro e Wt ⟨rfl, hB4⟩; refine Hid.out ?_))
  refine Lib.hid ?_
  have hBt := on1 HB3.out hB4
  clear cS hB4 HB3 x0 x1 hse
  have hbt := on1 HG.out.2.2.2 hBt
  have hEt := HG.out.2.2.1.on hbt
  have HBt := Lib.hid hbt
  by_cases hok : PaOk t
  · have cY := parse_yes ht hEt hok
    clear hok hBt hbt HX
    go_wp2_with (first | (go_at_call 4; refine cY.mono ?_; rintro e W6 ⟨a6, k6, c6, b6, l6, d6, L6, B6, rfl, ⟨q1, q2, q3, q4⟩, hB6⟩; refine Hid.out ?_))
    refine Lib.hid ?_
    have hx6 : Below W6.heap.size W6 (W6.alloc (.cells #[.slice a6 k6 c6, .slice b6 l6 d6] 25)) := b_alloc (Below.refl _ _) _
    have hB6a := on1 hB6 hx6
    obtain ⟨z1, z2⟩ := lines_sz ht q1
    have cP2 := tprint_ok (q3.on hx6) (q4.on hx6) z1 z2 (hEt.on hB6a).tb q2
    rw [show gText L6 B6 = t by rw [← gText_c]; exact print_read q1 (by rw [gErr_c]; exact q2)] at cP2
    have HB6 := Lib.hid (on1 HBt.out hB6a)
    clear q1 q2 q3 q4 hB6 hx6 hB6a z1 z2 cY hEt
    go_wp2_with (first | (go_at_call 5; refine cP2.mono ?_; rintro e W7 ⟨rfl, hB7⟩))
    go_ret
    exact ⟨rfl, on1 HB6.out hB7⟩
  · have cN := parse_no ht hEt hok
    clear hok hBt hbt HX hEt
    go_wp2_with (first | (go_at_call 4; refine cN.mono ?_; rintro e W6 ⟨a6, n6, c6, b6, nb6, d6, at6, z6, rfl, hB6⟩))
    go_ret
    exact ⟨rfl, b_alloc (on1 HBt.out hB6) _⟩
set_option maxHeartbeats 8000000 in
set_option maxRecDepth 100000 in
theorem tback_bad {vn vt : Value} {N : List Nd} {T : List Te} {t : Nm} {w : World} (hN : IsN w vn N) (hT : IsT w vt T) (zN : SzN N) (zT : SzT T) (lN : N.length ≤ maxLen) (lT : T.length ≤ maxLen) (ht : t.length ≤ 140737488355328) (hE : EV w) (hse : ¬ gErr N T = 0) :
    Calls Tryz.prog 3 #[.agg #[vn, vt], .string (bs t)] w fun e w' => e = .returned (.bool true) ∧ Below w.heap.size w w' := by
  obtain ⟨W0, hW0⟩ : ∃ W0, W0 = w.alloc (.cells #[vn, vt] 25) := ⟨_, rfl⟩
  have hB0 : Below w.heap.size w W0 := by rw [hW0]; exact b_alloc (Below.refl _ _) _
  have n0 : W0.heap[w.heap.size]? = some (.cells #[vn, vt] 25 (0, 0)) := by rw [hW0]; exact heap_alloc_new w _
  have HX : Hid (∀ W, Below W0.heap.size W0 W → W.cell? ⟨w.heap.size, 0, none⟩ = some vn ∧ W.cell? ⟨w.heap.size, 1, none⟩ = some vt) := fun W hb => ⟨cellB ((hb.block _ (Array.getElem?_eq_some_iff.1 n0).1).trans n0) rfl, cellB ((hb.block _ (Array.getElem?_eq_some_iff.1 n0).1).trans n0) rfl⟩
  have cF := parse_fact (hE.on hB0)
  rw [show bs fact0 = ⟨#[110, 111, 100, 101, 32, 51, 32, 97, 32, 120, 61, 49, 10, 116, 105, 101, 32, 112, 32, 51, 32, 51, 10]⟩ from rfl] at cF
  have HG : Hid (IsN w vn N ∧ IsT w vt T ∧ EV w ∧ Below w.heap.size w W0) := ⟨hN, hT, hE, hB0⟩
  have hz0 : w.heap.size < W0.heap.size := by rw [hW0]; simp
  obtain ⟨an, cn, rfl, _⟩ := hN
  obtain ⟨av, cv, rfl, _⟩ := hT
  clear hE hB0 n0
  go_enter Tryz.func3, Tryz.ntmps3
  go_upto_region 1 with fail
  rw [← hW0]
  clear hW0
  go_wp2_with (first | (go_at_call 4; refine cF.mono ?_; rintro e W1 ⟨bn, on, cn1, rb, ro, rc, a1, ct1, rfl, ⟨m1, m2⟩, hB1⟩; refine Hid.out ?_))
  refine Lib.hid ?_
  have hold : ∀ {a : Addr} {v : Value}, W1.cell? a = some v → ∀ o, (W1.alloc o).cell? a = some v := fun {a v} h o => ((b_alloc (Below.refl _ W1) o).cell (World.block_lt_of_cell? W1 _ h)).trans h
  have m1' := hold m1
  have m2' := hold m2
  have hB1a : Below W0.heap.size W0 (W1.alloc (.cells #[.slice (some ⟨bn, on, none⟩) 1 cn1, .slice a1 1 ct1] 25)) := on1 hB1 (b_alloc (Below.refl _ _) _)
  have hbw1 := on1 HG.out.2.2.2 hB1a
  obtain ⟨x0, x1⟩ := HX.out _ hB1a
  have HB1 := Lib.hid hB1a
  have cPr := tprint_bad (HG.out.1.on hbw1) (HG.out.2.1.on hbw1) zN zT lN lT hse
  generalize gErr N T = ge at cPr
  clear hold hB1a hbw1 hB1 cF
  go_wp2_with (first | (go_at_call 5; refine cPr.mono ?_; rintro e Wt ⟨rfl, hB2⟩; refine Hid.out ?_))
  refine Lib.hid ?_
  have hBt := on1 HB1.out hB2
  clear cPr hB2 m1 m2 m1' m2' HB1 x0 x1 hse
  have hbt := on1 HG.out.2.2.2 hBt
  have hEt := HG.out.2.2.1.on hbt
  have HBt := Lib.hid hbt
  by_cases hok : PaOk t
  · have cY := parse_yes ht hEt hok
    clear hok hBt hbt HX
    go_wp2_with (first | (go_at_call 4; refine cY.mono ?_; rintro e W6 ⟨a6, k6, c6, b6, l6, d6, L6, B6, rfl, ⟨q1, q2, q3, q4⟩, hB6⟩; refine Hid.out ?_))
    refine Lib.hid ?_
    have hx6 : Below W6.heap.size W6 (W6.alloc (.cells #[.slice a6 k6 c6, .slice b6 l6 d6] 25)) := b_alloc (Below.refl _ _) _
    have hB6a := on1 hB6 hx6
    obtain ⟨z1, z2⟩ := lines_sz ht q1
    have cP2 := tprint_ok (q3.on hx6) (q4.on hx6) z1 z2 (hEt.on hB6a).tb q2
    rw [show gText L6 B6 = t by rw [← gText_c]; exact print_read q1 (by rw [gErr_c]; exact q2)] at cP2
    have HB6 := Lib.hid (on1 HBt.out hB6a)
    clear q1 q2 q3 q4 hB6 hx6 hB6a z1 z2 cY hEt
    go_wp2_with (first | (go_at_call 5; refine cP2.mono ?_; rintro e W7 ⟨rfl, hB7⟩))
    go_ret
    exact ⟨rfl, on1 HB6.out hB7⟩
  · have cN := parse_no ht hEt hok
    clear hok hBt hbt HX hEt
    go_wp2_with (first | (go_at_call 4; refine cN.mono ?_; rintro e W6 ⟨a6, n6, c6, b6, nb6, d6, at6, z6, rfl, hB6⟩))
    go_ret
    exact ⟨rfl, b_alloc (on1 HBt.out hB6) _⟩
end Go.Proofs.YteabdlandbmdaaaGreatDoor
