/-
  The walk of the law SchemaBack.
-/
import Derived.Test.YtgjlonilbhlneaaGreatDoorM24
namespace Go.Proofs.YtgjlonilbhlneaaGreatDoor
open Go.RowKit
set_option linter.unusedVariables false
set_option linter.unusedSimpArgs false

set_option maxHeartbeats 8000000 in
set_option maxRecDepth 100000 in
theorem sback_ok {vk vb : Value} {L : List Kd} {B : List Bd} {t : Nm} {w : World} (hK : IsK w vk L) (hP : Parts w L) (hz : SzK L) (hb : IsB w vb B) (hzb : SzB B) (ht : t.length ≤ 90000000) (hE : EV w) (hse : (sErr L B).2 = 0) :
    Calls Tryz.prog 4 #[.agg #[vk, vb], .string (bs t)] w fun e w' => e = .returned (.bool true) ∧ Below w.heap.size w w' := by
  obtain ⟨W0, hW0⟩ : ∃ W0, W0 = w.alloc (.cells #[vk, vb] 25) := ⟨_, rfl⟩
  have hB0 : Below w.heap.size w W0 := by rw [hW0]; exact b_alloc (Below.refl _ _) (Nat.le_refl _) _
  have n0 : W0.heap[w.heap.size]? = some (.cells #[vk, vb] 25 (0, 0)) := by rw [hW0]; exact World.alloc_heap_new w _
  have HX : Hid (∀ W, Below W0.heap.size W0 W → W.cell? ⟨w.heap.size, 0, none⟩ = some vk ∧ W.cell? ⟨w.heap.size, 1, none⟩ = some vb) := fun W hb => ⟨cell_at ((hb.block _ (Array.getElem?_eq_some_iff.1 n0).1).trans n0) rfl, cell_at ((hb.block _ (Array.getElem?_eq_some_iff.1 n0).1).trans n0) rfl⟩
  have cF := parse_fact (hE.on hB0)
  rw [show bs fact0 = ⟨#[107, 105, 110, 100, 32, 97, 32, 120, 58, 105, 110, 116, 42, 10, 107, 105, 110, 100, 32, 98, 32, 111, 102, 32, 97, 32, 121, 58, 116, 101, 120, 116, 33, 10, 98, 111, 110, 100, 32, 112, 32, 97, 32, 98, 32, 48, 32, 97, 110, 121, 10]⟩ from rfl] at cF
  have HG : Hid (IsK w vk L ∧ Parts w L ∧ IsB w vb B ∧ EV w ∧ Below w.heap.size w W0) := ⟨hK, hP, hb, hE, hB0⟩
  obtain ⟨ak, ck, evk, _⟩ := hK.sln
  obtain ⟨ab, cb, evb⟩ : ∃ ab cb, vb = .slice ab B.length cb := by
    rcases hb with ⟨rfl, rfl⟩ | ⟨b, off, cap, rfl, _⟩
    · exact ⟨none, 0, rfl⟩
    · exact ⟨_, _, rfl⟩
  subst evk evb
  clear hK hP hb hE hB0 n0
  go_enter Tryz.func4, Tryz.ntmps4
  go_upto_region 1 with fail
  rw [← hW0]
  clear hW0
  go_wp2_with (first | (go_at_call 11; refine cF.mono ?_; rintro e W1 ⟨k0, ck0, b0, cb0, f0, cf0, of0, ff0, bf0, rfl, ⟨m1, m2, m3⟩, hB1⟩; refine Hid.out ?_))
  refine Lib.hid ?_
  have hold : ∀ {a : Addr} {v : Value}, W1.cell? a = some v → ∀ o, (W1.alloc o).cell? a = some v := fun {a v} h o => ((b_alloc (Below.refl _ W1) (Nat.le_refl _) o).cell (World.block_lt_of_cell? W1 _ h)).trans h
  have m1' := hold m1
  have m2' := hold m2
  have m3' := hold m3
  have hB1a : Below W0.heap.size W0 (W1.alloc (.cells #[.slice (some ⟨k0, of0, none⟩) 2 ck0, .slice (some ⟨b0, bf0, none⟩) 1 cb0] 25)) := on1 hB1 (b_alloc (Below.refl _ _) (Nat.le_refl _) _) (Nat.le_refl _)
  have hbw1 := on1 HG.out.2.2.2.2 hB1a (Nat.le_refl _)
  obtain ⟨x0, x1⟩ := HX.out _ hB1a
  have HB1 := Lib.hid hB1a
  have cPr := sprint_ok (HG.out.1.on hbw1) (HG.out.2.1.on hbw1) hz (HG.out.2.2.1.on hbw1) hzb (HG.out.2.2.2.1.on hbw1).tw hse
  clear hold hB1a hbw1 hB1 cF
  go_wp2_with (first | (go_at_call 9; refine cPr.mono ?_; rintro e W2 ⟨rfl, hB2⟩; refine Hid.out ?_))
  refine Lib.hid ?_
  have hBt2 := on1 HB1.out hB2 (Nat.le_refl _)
  have hbw2 := on1 HG.out.2.2.2.2 hBt2 (Nat.le_refl _)
  have cG := parse_good hse (HG.out.2.2.2.1.on hbw2)
  have HB2 := Lib.hid hBt2
  clear cPr hBt2 hbw2 hB2 m1 m2 m3 m1' m2' m3' HB1 x0 x1
  go_wp2_with (first | (go_at_call 11; refine cG.mono ?_; rintro e W3 ⟨a3, c3, b3, d3, L', rfl, ⟨q1, q2, q3, q4⟩, hB3⟩; refine Hid.out ?_))
  refine Lib.hid ?_
  have hx3 : Below W3.heap.size W3 (W3.alloc (.cells #[.slice a3 L'.length c3, .slice b3 B.length d3] 25)) := b_alloc (Below.refl _ _) (Nat.le_refl _) _
  have hB3a := on1 (on1 HB2.out hB3 (Nat.le_refl _)) hx3 (Nat.le_refl _)
  have hbw3 := on1 HG.out.2.2.2.2 hB3a (Nat.le_refl _)
  obtain ⟨hks, hGB, hB12⟩ := sErr_good.1 hse
  obtain ⟨hGd, hL12⟩ := ksErr_good.1 hks
  have hL'12 : L'.length ≤ 12 := by have := congrArg List.length q1; simp only [List.length_map] at this; omega
  have cS := schema_same (q2.on hx3) (q3.on hx3) (q4.on hx3) (HG.out.1.on hbw3) (HG.out.2.1.on hbw3) (HG.out.2.2.1.on hbw3) q1 (by omega) (by omega) (fun k hk => by
    obtain ⟨i, hi⟩ := List.getElem?_of_mem hk
    obtain ⟨k2, hk2⟩ : ∃ k2, L[i]? = some k2 := by
      have := congrArg (fun l => l[i]?) q1
      simp only [List.getElem?_map, hi, Option.map_some] at this
      cases hh : L[i]? with
      | none => rw [hh] at this; cases this
      | some k2 => exact ⟨k2, rfl⟩
    obtain ⟨_, e2, e3⟩ := kq_at q1 hi hk2
    have := good_ok hGd (List.mem_of_getElem? hk2)
    rw [e2, e3]
    exact ⟨Nat.le_trans this.of4 (by omega), Nat.le_trans this.fs8 (by omega)⟩)
  obtain ⟨x0, x1⟩ := HX.out _ hB3a
  have hz3 : ¬ w.heap.size = W3.heap.size := by have := hB3a.size; have h2 := World.block_lt_of_cell? W0 _ (HX.out W0 (Below.refl _ _)).1; have h3 := (on1 HB2.out hB3 (Nat.le_refl _)).size; simp only at h2; omega
  have HB3 := Lib.hid hB3a
  clear q1 q2 q3 q4 hB3 hx3 hB3a hbw3 hks hGB hB12 hGd hL12 hL'12 cG HB2
  go_wp2_with (first | (go_at_call 12; refine cS.mono ?_; rintro e Wt ⟨rfl, hB4⟩; refine Hid.out ?_))
  refine Lib.hid ?_
  have hBt := on1 HB3.out hB4 (Nat.le_refl _)
  clear cS hB4 HB3 x0 x1 hse
  have hbt := on1 HG.out.2.2.2.2 hBt (Nat.le_refl _)
  have hEt := HG.out.2.2.2.1.on hbt
  have HBt := Lib.hid hbt
  by_cases hok : PaOk t
  · have cY := parse_yes ht hEt hok
    clear hok hBt hbt HX
    go_wp2_with (first | (go_at_call 11; refine cY.mono ?_; rintro e W6 ⟨a6, c6, b6, d6, L6, B6, rfl, ⟨q1, q2, q3, q4, q5⟩, hB6⟩; refine Hid.out ?_))
    refine Lib.hid ?_
    have hx6 : Below W6.heap.size W6 (W6.alloc (.cells #[.slice a6 L6.length c6, .slice b6 B6.length d6] 25)) := b_alloc (Below.refl _ _) (Nat.le_refl _) _
    have hB6a := on1 hB6 hx6 (Nat.le_refl _)
    obtain ⟨z1, z2⟩ := lines_sz (by unfold maxLen; omega) q1
    obtain ⟨hks, _, hB12⟩ := sErr_good.1 q2
    obtain ⟨_, hL12⟩ := ksErr_good.1 hks
    have cP2 := sprint_ok (q3.on hx6) (q4.on hx6) z1 (q5.on hx6) z2 (hEt.on hB6a).tw q2
    rw [parse_print q1 hL12 hB12] at cP2
    have HB6 := Lib.hid (on1 HBt.out hB6a (Nat.le_refl _))
    clear q1 q2 q3 q4 q5 hB6 hx6 hB6a z1 z2 hks hB12 hL12 cY hEt
    go_wp2_with (first | (go_at_call 9; refine cP2.mono ?_; rintro e W7 ⟨rfl, hB7⟩))
    go_ret
    exact ⟨rfl, on1 HB6.out hB7 (Nat.le_refl _)⟩
  · have cN := parse_no ht hEt hok
    clear hok hBt hbt HX hEt
    go_wp2_with (first | (go_at_call 11; refine cN.mono ?_; rintro e W6 ⟨a6, n6, c6, b6, nb6, d6, at6, z6, rfl, hB6⟩))
    go_ret
    exact ⟨rfl, b_alloc (on1 HBt.out hB6 (Nat.le_refl _)) (Nat.le_refl _) _⟩
end Go.Proofs.YtgjlonilbhlneaaGreatDoor

/-
  The walk of the law SchemaBack.
-/
namespace Go.Proofs.YtgjlonilbhlneaaGreatDoor
open Go.RowKit
set_option linter.unusedVariables false
set_option linter.unusedSimpArgs false

set_option maxHeartbeats 8000000 in
set_option maxRecDepth 100000 in
theorem sback_bad {vk vb : Value} {L : List Kd} {B : List Bd} {t : Nm} {w : World} (hK : IsK w vk L) (hP : Parts w L) (hz : SzK L) (hb : IsB w vb B) (hzb : SzB B) (ht : t.length ≤ 90000000) (hE : EV w) (hse : ¬ (sErr L B).2 = 0) :
    Calls Tryz.prog 4 #[.agg #[vk, vb], .string (bs t)] w fun e w' => e = .returned (.bool true) ∧ Below w.heap.size w w' := by
  obtain ⟨W0, hW0⟩ : ∃ W0, W0 = w.alloc (.cells #[vk, vb] 25) := ⟨_, rfl⟩
  have hB0 : Below w.heap.size w W0 := by rw [hW0]; exact b_alloc (Below.refl _ _) (Nat.le_refl _) _
  have n0 : W0.heap[w.heap.size]? = some (.cells #[vk, vb] 25 (0, 0)) := by rw [hW0]; exact World.alloc_heap_new w _
  have HX : Hid (∀ W, Below W0.heap.size W0 W → W.cell? ⟨w.heap.size, 0, none⟩ = some vk ∧ W.cell? ⟨w.heap.size, 1, none⟩ = some vb) := fun W hb => ⟨cell_at ((hb.block _ (Array.getElem?_eq_some_iff.1 n0).1).trans n0) rfl, cell_at ((hb.block _ (Array.getElem?_eq_some_iff.1 n0).1).trans n0) rfl⟩
  have cF := parse_fact (hE.on hB0)
  rw [show bs fact0 = ⟨#[107, 105, 110, 100, 32, 97, 32, 120, 58, 105, 110, 116, 42, 10, 107, 105, 110, 100, 32, 98, 32, 111, 102, 32, 97, 32, 121, 58, 116, 101, 120, 116, 33, 10, 98, 111, 110, 100, 32, 112, 32, 97, 32, 98, 32, 48, 32, 97, 110, 121, 10]⟩ from rfl] at cF
  have HG : Hid (IsK w vk L ∧ Parts w L ∧ IsB w vb B ∧ EV w ∧ Below w.heap.size w W0) := ⟨hK, hP, hb, hE, hB0⟩
  obtain ⟨ak, ck, evk, _⟩ := hK.sln
  obtain ⟨ab, cb, evb⟩ : ∃ ab cb, vb = .slice ab B.length cb := by
    rcases hb with ⟨rfl, rfl⟩ | ⟨b, off, cap, rfl, _⟩
    · exact ⟨none, 0, rfl⟩
    · exact ⟨_, _, rfl⟩
  subst evk evb
  clear hK hP hb hE hB0 n0
  go_enter Tryz.func4, Tryz.ntmps4
  go_upto_region 1 with fail
  rw [← hW0]
  clear hW0
  go_wp2_with (first | (go_at_call 11; refine cF.mono ?_; rintro e W1 ⟨k0, ck0, b0, cb0, f0, cf0, of0, ff0, bf0, rfl, ⟨m1, m2, m3⟩, hB1⟩; refine Hid.out ?_))
  refine Lib.hid ?_
  have hold : ∀ {a : Addr} {v : Value}, W1.cell? a = some v → ∀ o, (W1.alloc o).cell? a = some v := fun {a v} h o => ((b_alloc (Below.refl _ W1) (Nat.le_refl _) o).cell (World.block_lt_of_cell? W1 _ h)).trans h
  have m1' := hold m1
  have m2' := hold m2
  have m3' := hold m3
  have hB1a : Below W0.heap.size W0 (W1.alloc (.cells #[.slice (some ⟨k0, of0, none⟩) 2 ck0, .slice (some ⟨b0, bf0, none⟩) 1 cb0] 25)) := on1 hB1 (b_alloc (Below.refl _ _) (Nat.le_refl _) _) (Nat.le_refl _)
  have hbw1 := on1 HG.out.2.2.2.2 hB1a (Nat.le_refl _)
  obtain ⟨x0, x1⟩ := HX.out _ hB1a
  have HB1 := Lib.hid hB1a
  have cPr := sprint_bad (HG.out.1.on hbw1) (HG.out.2.1.on hbw1) hz (HG.out.2.2.1.on hbw1) hzb hse
  clear hold hB1a hbw1 hB1 cF
  generalize (sErr L B).2 = z at *
  clear hse
  go_wp2_with (first | (go_at_call 9; refine cPr.mono ?_; rintro e Wt ⟨rfl, hB2⟩; refine Hid.out ?_))
  refine Lib.hid ?_
  have hBt := on1 HB1.out hB2 (Nat.le_refl _)
  clear cPr hB2 m1 m2 m3 m1' m2' m3' HB1 x0 x1
  have hbt := on1 HG.out.2.2.2.2 hBt (Nat.le_refl _)
  have hEt := HG.out.2.2.2.1.on hbt
  have HBt := Lib.hid hbt
  by_cases hok : PaOk t
  · have cY := parse_yes ht hEt hok
    clear hok hBt hbt HX
    go_wp2_with (first | (go_at_call 11; refine cY.mono ?_; rintro e W6 ⟨a6, c6, b6, d6, L6, B6, rfl, ⟨q1, q2, q3, q4, q5⟩, hB6⟩; refine Hid.out ?_))
    refine Lib.hid ?_
    have hx6 : Below W6.heap.size W6 (W6.alloc (.cells #[.slice a6 L6.length c6, .slice b6 B6.length d6] 25)) := b_alloc (Below.refl _ _) (Nat.le_refl _) _
    have hB6a := on1 hB6 hx6 (Nat.le_refl _)
    obtain ⟨z1, z2⟩ := lines_sz (by unfold maxLen; omega) q1
    obtain ⟨hks, _, hB12⟩ := sErr_good.1 q2
    obtain ⟨_, hL12⟩ := ksErr_good.1 hks
    have cP2 := sprint_ok (q3.on hx6) (q4.on hx6) z1 (q5.on hx6) z2 (hEt.on hB6a).tw q2
    rw [parse_print q1 hL12 hB12] at cP2
    have HB6 := Lib.hid (on1 HBt.out hB6a (Nat.le_refl _))
    clear q1 q2 q3 q4 q5 hB6 hx6 hB6a z1 z2 hks hB12 hL12 cY hEt
    go_wp2_with (first | (go_at_call 9; refine cP2.mono ?_; rintro e W7 ⟨rfl, hB7⟩))
    go_ret
    exact ⟨rfl, on1 HB6.out hB7 (Nat.le_refl _)⟩
  · have cN := parse_no ht hEt hok
    clear hok hBt hbt HX hEt
    go_wp2_with (first | (go_at_call 11; refine cN.mono ?_; rintro e W6 ⟨a6, n6, c6, b6, nb6, d6, at6, z6, rfl, hB6⟩))
    go_ret
    exact ⟨rfl, b_alloc (on1 HBt.out hB6 (Nat.le_refl _)) (Nat.le_refl _) _⟩
end Go.Proofs.YtgjlonilbhlneaaGreatDoor
