/-
  The walk of delta.copied.
-/
import Derived.Test.YtelbmianojomgaaDelA
namespace Go.Proofs.Ytelbmianojomgaa
open Go.RowKit
set_option linter.unusedVariables false
set_option linter.unusedSimpArgs false

set_option maxHeartbeats 4000000 in
set_option maxRecDepth 100000 in
theorem copied_any {vn vt : Value} {N : List Nd} {T : List Te} {w : World} (hN : IsN w vn N) (hT : IsT w vt T) (h60 : N.length ≤ 60) (h120 : T.length ≤ 120) (h8 : ∀ n ∈ N, n.rc.length ≤ 1000) :
    Calls Try.prog 35 #[.agg #[vn, vt]] w fun e w' => ∃ un ut M, e = .returned (.agg #[un, ut]) ∧ cN M = cN N ∧ OwnNs w' w.heap.size un M ∧ OwnTs w' w.heap.size ut T ∧ Below w.heap.size w w' := by
  obtain ⟨W0, hW0⟩ : ∃ W0, W0 = (w.alloc (.cells #[vn, vt] 25)).alloc (.cells #[.slice none 0 0, .slice none 0 0] 25) := ⟨_, rfl⟩
  have hB0 : Below w.heap.size w W0 := by rw [hW0]; exact b_alloc (b_alloc (Below.refl _ _) _) _
  have hs0 : W0.heap.size = w.heap.size + 2 := by rw [hW0]; simp
  have n0 : W0.heap[w.heap.size]? = some (.cells #[vn, vt] 25 (0, 0)) := by rw [hW0]; exact (heap_alloc_old _ _ (by simp)).trans (heap_alloc_new w _)
  have n1 : W0.heap[w.heap.size + 1]? = some (.cells #[.slice none 0 0, .slice none 0 0] 25 (0, 0)) := by
    have := heap_alloc_new (w.alloc (.cells #[vn, vt] 25)) (.cells #[.slice none 0 0, .slice none 0 0] 25)
    rw [World.size_alloc] at this; rw [hW0]; exact this
  have clN := fun (W : World) (hB : Below W0.heap.size W0 W) (ty : TypeId) => clone_nodes W W0.heap.size hB.size (hN.on (on1K hB0 hB (Nat.le_refl _))) (by omega) ty
  have clT := fun (W : World) (hB : Below W0.heap.size W0 W) (ty : TypeId) => clone_ties W W0.heap.size hB.size (hT.on (on1K hB0 hB (Nat.le_refl _))) (by omega) ty
  have HC : Hid ((∀ (W : World) (hB : Below W0.heap.size W0 W) (ty : TypeId), ∃ v' w', (Builtin.append_ #[22, 22] ty #[.slice none 0 0, vn]).run Try.prog W = .ok v' w' ∧ (w'.ownsRow W0.heap.size 29 3 v' N.length (cellsN N) ∧ W.grownBy w' none)) ∧ (∀ (W : World) (hB : Below W0.heap.size W0 W) (ty : TypeId), ∃ v' w', (Builtin.append_ #[23, 23] ty #[.slice none 0 0, vt]).run Try.prog W = .ok v' w' ∧ (OwnTs w' W0.heap.size v' T ∧ W.grownBy w' none))) := ⟨clN, clT⟩
  have HH : Hid (Below w.heap.size w W0 ∧ W0.heap.size = w.heap.size + 2 ∧ W0.heap[w.heap.size]? = some (.cells #[vn, vt] 25 (0, 0)) ∧ W0.heap[w.heap.size + 1]? = some (.cells #[.slice none 0 0, .slice none 0 0] 25 (0, 0)) ∧ IsN w vn N ∧ IsT w vt T) := ⟨hB0, hs0, n0, n1, hN, hT⟩
  obtain ⟨an, cn, rfl, _⟩ := hN
  obtain ⟨am, cm, rfl, _⟩ := hT
  have c0 : W0.cell? ⟨w.heap.size, 0, none⟩ = some (.slice an N.length cn) := cell_at n0 rfl
  have c1 : W0.cell? ⟨w.heap.size, 1, none⟩ = some (.slice am T.length cm) := cell_at n0 rfl
  clear clN clT hB0 n0 n1
  go_enter Try.func35, Try.ntmps35
  go_upto_region 1 with fail
  rw [← hW0]
  clear hW0
  have m0 : ¬ w.heap.size = W0.heap.size := by omega
  have q0 : ∀ o, (W0.drew.alloc o).cell? ⟨w.heap.size, 0, none⟩ = some (.slice an N.length cn) := cell_old (w := W0.drew) c0
  have q1 : ∀ o, (W0.drew.alloc o).cell? ⟨w.heap.size, 1, none⟩ = some (.slice am T.length cm) := cell_old (w := W0.drew) c1
  go_cut [3] (fun s3 wx => CpA w W0 N T s3 wx)
  case first =>
   go_region_law (first | (refine step_append_E rfl (.const (.slice none 0 0)) (.tmp 6) 22 rfl (.slice none 0 0) (.slice an N.length cn) (by simp [Act.eval, Act.put]) (by simp [Act.eval, Act.put]) (HC.out.1 _ (by first | exact b_drew (Below.refl _ W0) | exact b_alloc (b_drew (Below.refl _ W0)) _ | exact hb2.out | exact b_alloc hb2.out _) _) ?_; rintro v1 w1 ⟨hown1, hgrow1⟩; obtain ⟨a1, p1, rfl⟩ := own_slice hown1; have hb1 : Hid (Below W0.heap.size W0 w1) := (on1K (by first | exact b_drew (Below.refl _ W0) | exact b_alloc (b_drew (Below.refl _ W0)) _ | exact hb2.out | exact b_alloc hb2.out _) (grown_below hgrow1) (Nat.le_refl _)); have e10 := (hb1.out.cell (p := ⟨w.heap.size, 0, none⟩) (by show w.heap.size < W0.heap.size; omega)).trans c0; have e11 := (hb1.out.cell (p := ⟨w.heap.size, 1, none⟩) (by show w.heap.size < W0.heap.size; omega)).trans c1; have q10 := cell_old e10; have q11 := cell_old e11; have m1 : ¬ w.heap.size = w1.heap.size := (by have := hb1.out.size; omega); (try (have kb1 : w1.heap[w.heap.size + 2]? = some (.cells #[.slice none 0 0, .slice none 0 0] 25 (0, 0)) := (by first | (rw [← hs0]; exact (hgrow1.block _ (by simp) (by simp)).trans (heap_alloc_new W0.drew _)) | exact (hgrow1.block _ (Array.getElem?_eq_some_iff.1 kb2.out).1 (by simp)).trans kb2.out); have y10 : w1.cell? ⟨w.heap.size + 2, 0, none⟩ = some (.slice none 0 0) := cell_at kb1 rfl; have y11 : w1.cell? ⟨w.heap.size + 2, 1, none⟩ = some (.slice none 0 0) := cell_at kb1 rfl; have x10 : w1.frozen? ⟨w.heap.size + 2, 0, none⟩ = false := frz_at kb1; have x11 : w1.frozen? ⟨w.heap.size + 2, 1, none⟩ = false := frz_at kb1; replace kb1 := Lib.hid kb1)); (try (have kc1 : w1.heap[w2.heap.size]? = some (.cells #[.slice none 0 0, .slice none 0 0] 25 (0, 0)) := (hgrow1.block _ (by simp) (by simp)).trans (heap_alloc_new w2 _); have yy10 : w1.cell? ⟨w2.heap.size, 0, none⟩ = some (.slice none 0 0) := cell_at kc1 rfl; have yy11 : w1.cell? ⟨w2.heap.size, 1, none⟩ = some (.slice none 0 0) := cell_at kc1 rfl; have xx10 : w1.frozen? ⟨w2.heap.size, 0, none⟩ = false := frz_at kc1; have xx11 : w1.frozen? ⟨w2.heap.size, 1, none⟩ = false := frz_at kc1; replace kc1 := Lib.hid kc1)); have z1 := grown_lt hgrow1; have hc1 := grown_cell hgrow1; have hf1 := grown_frozen hgrow1; (try (have hown2b := own_kt hown2 (Kt.of_below (by first | exact grown_below hgrow1 | exact on1K (b_alloc (Below.refl _ _) _) (grown_below hgrow1) (Nat.le_refl _)))))) | (refine step_append_E rfl (.const (.slice none 0 0)) (.tmp 9) 23 rfl (.slice none 0 0) (.slice am T.length cm) (by simp [Act.eval, Act.put]) (by simp [Act.eval, Act.put]) (HC.out.2 _ (by first | exact b_drew (Below.refl _ W0) | exact b_alloc (b_drew (Below.refl _ W0)) _ | exact hb1.out | exact b_alloc hb1.out _) _) ?_; rintro v2 w2 ⟨hown2, hgrow2⟩; obtain ⟨a2, p2, rfl⟩ := own_slice hown2; have hb2 : Hid (Below W0.heap.size W0 w2) := (on1K (by first | exact b_drew (Below.refl _ W0) | exact b_alloc (b_drew (Below.refl _ W0)) _ | exact hb1.out | exact b_alloc hb1.out _) (grown_below hgrow2) (Nat.le_refl _)); have e20 := (hb2.out.cell (p := ⟨w.heap.size, 0, none⟩) (by show w.heap.size < W0.heap.size; omega)).trans c0; have e21 := (hb2.out.cell (p := ⟨w.heap.size, 1, none⟩) (by show w.heap.size < W0.heap.size; omega)).trans c1; have q20 := cell_old e20; have q21 := cell_old e21; have m2 : ¬ w.heap.size = w2.heap.size := (by have := hb2.out.size; omega); (try (have kb2 : w2.heap[w.heap.size + 2]? = some (.cells #[.slice none 0 0, .slice none 0 0] 25 (0, 0)) := (by first | (rw [← hs0]; exact (hgrow2.block _ (by simp) (by simp)).trans (heap_alloc_new W0.drew _)) | exact (hgrow2.block _ (Array.getElem?_eq_some_iff.1 kb1.out).1 (by simp)).trans kb1.out); have y20 : w2.cell? ⟨w.heap.size + 2, 0, none⟩ = some (.slice none 0 0) := cell_at kb2 rfl; have y21 : w2.cell? ⟨w.heap.size + 2, 1, none⟩ = some (.slice none 0 0) := cell_at kb2 rfl; have x20 : w2.frozen? ⟨w.heap.size + 2, 0, none⟩ = false := frz_at kb2; have x21 : w2.frozen? ⟨w.heap.size + 2, 1, none⟩ = false := frz_at kb2; replace kb2 := Lib.hid kb2)); (try (have kc2 : w2.heap[w1.heap.size]? = some (.cells #[.slice none 0 0, .slice none 0 0] 25 (0, 0)) := (hgrow2.block _ (by simp) (by simp)).trans (heap_alloc_new w1 _); have yy20 : w2.cell? ⟨w1.heap.size, 0, none⟩ = some (.slice none 0 0) := cell_at kc2 rfl; have yy21 : w2.cell? ⟨w1.heap.size, 1, none⟩ = some (.slice none 0 0) := cell_at kc2 rfl; have xx20 : w2.frozen? ⟨w1.heap.size, 0, none⟩ = false := frz_at kc2; have xx21 : w2.frozen? ⟨w1.heap.size, 1, none⟩ = false := frz_at kc2; replace kc2 := Lib.hid kc2)); have z2 := grown_lt hgrow2; have hc2 := grown_cell hgrow2; have hf2 := grown_frozen hgrow2; (try (have hown1b := own_kt hown1 (Kt.of_below (by first | exact grown_below hgrow2 | exact on1K (b_alloc (Below.refl _ _) _) (grown_below hgrow2) (Nat.le_refl _)))))))
   all_goals
    go_wp2
    go_meet
    first
      | exact cpA_alloc hs0 (by first | exact hown1 | exact hown1b) (by first | exact hown2 | exact hown2b) (by first | exact hb1.out | exact hb2.out)
      | exact cpA_set hs0 (by first | exact Nat.le_refl _ | (have := hb1.out.size; omega) | (have := hb2.out.size; omega)) (by first | exact kc2.out | exact kc1.out | exact kb2.out | exact kb1.out) (by first | exact hown1 | exact hown1b) (by first | exact hown2 | exact hown2b) (by first | exact hb1.out | exact hb2.out)
  case rest =>
  obtain ⟨p, a1, p1, a2, p2, rfl, hp, hX, hO1, hO2, hB⟩ := hcut
  have HI : Hid (IsN w (.slice an N.length cn) N ∧ Below w.heap.size w W0) := ⟨HH.out.2.2.2.2.1, HH.out.1⟩
  have HR : Hid (W0.heap[w.heap.size + 1]? = some (.cells #[.slice none 0 0, .slice none 0 0] 25 (0, 0))) := HH.out.2.2.2.1
  have x0 : wc.cell? ⟨p, 0, none⟩ = some (.slice a1 N.length p1) := cell_at hX rfl
  have HB0 : Hid (CpB w W0 p (.slice a1 N.length p1) (.slice a2 T.length p2) N T 0 wc) := ⟨N, rfl, rfl, hX, hO1, fun k n _ hk => by omega, fun k _ => rfl, hO2, hB⟩
  clear HC q0 q1 c0 c1 hX hO1 hO2 hB HH
  go_wp2
  go_loopw [15] (fun i wr => ∃ k : Nat, k ≤ N.length ∧ i = .int .i64 k ∧ CpB w W0 p (.slice a1 N.length p1) (.slice a2 T.length p2) N T k wr) (fun i _ => N.length - (intOf i).toNat)
  case atStart => exact ⟨0, Nat.zero_le _, rfl, HB0.out⟩
  case round =>
    obtain ⟨k, hk, rfl, hC⟩ := hrel
    have HC : Hid (CpB w W0 p (.slice a1 N.length p1) (.slice a2 T.length p2) N T k wr) := hC
    by_cases hlt : k < N.length
    · obtain ⟨n, hn⟩ : ∃ n, N[k]? = some n := ⟨N[k], by simp [hlt]⟩
      obtain ⟨M, m1, m2, m3, m4, m5, m6, m7, m8⟩ := hC
      have hM : M[k]? = some n := (m6 k (Nat.le_refl _)).trans hn
      obtain ⟨g, rfl⟩ : ∃ g, a1 = some ⟨g, 0, none⟩ := by
        rcases m4.2 with ⟨e, h0⟩ | ⟨g', cap', cur, e, _⟩
        · omega
        · injection e with e1; exact ⟨g', e1⟩
      have ce : ∀ i u, i < 3 → n.cells[i]? = some u → wr.cell? ⟨g, k * 3 + i, none⟩ = some u := fun i u hi hu => by
        have := World.ownsRow.cells m4 rfl (k * 3 + i) u ((flatK nd_len M k n i hM hi).trans hu)
        rwa [Addr.add_lit, Nat.zero_add] at this
      have d0 : wr.cell? ⟨g, k * 3, none⟩ = some (.int .i64 n.id) := ce 0 _ (by omega) rfl
      have d1 : wr.cell? ⟨g, k * 3 + 1, none⟩ = some (.string n.kd) := ce 1 _ (by omega) rfl
      have d2 : wr.cell? ⟨g, k * 3 + 2, none⟩ = some n.rv := ce 2 _ (by omega) rfl
      have ff : ∀ i, wr.frozen? ⟨g, i, none⟩ = false := fun i => World.ownsRow.frozenAt m4 i
      have hgw : g < wr.heap.size := (World.ownsRow.lt m4 g rfl).2
      have hpw : p < wr.heap.size := (Array.getElem?_eq_some_iff.1 m3).1
      have hgp : ¬ g = p := by
        intro e; subst e
        rcases m4.2 with ⟨e, h0⟩ | ⟨g', cap', cur, e, _, hg, _⟩
        · cases e
        · injection e with e1; injection e1 with e2; injection e2 with e3; subst e3
          rw [hg] at m3
          injection m3 with e1; injection e1 with _ e2; exact absurd e2 (by decide)
      have x0 : wr.cell? ⟨p, 0, none⟩ = some (.slice (some ⟨g, 0, none⟩) N.length p1) := cell_at m3 rfl
      have hR : IsR wr n.rv n.rc := by
        obtain ⟨_, _, _, _, h0 | ⟨b, off, _, hb, hL⟩⟩ := HI.out.1
        · rw [h0] at hlt; simp at hlt
        · exact (hL k n hn).2.2.2.on (on1K HI.out.2 m8 (Nat.le_refl _))
      have cc := copiedNode_any n wr.drew hR (h8 n (List.mem_of_getElem? hn))
      have HP : Hid (∀ W2, Below wr.heap.size wr W2 → W2.cell? ⟨p, 0, none⟩ = some (.slice (some ⟨g, 0, none⟩) N.length p1) ∧ W2.cell? ⟨g, k * 3, none⟩ = some (.int .i64 n.id) ∧ W2.cell? ⟨g, k * 3 + 1, none⟩ = some (.string n.kd) ∧ W2.cell? ⟨g, k * 3 + 2, none⟩ = some n.rv ∧ W2.frozen? ⟨g, k * 3, none⟩ = false ∧ W2.frozen? ⟨g, k * 3 + 1, none⟩ = false ∧ W2.frozen? ⟨g, k * 3 + 2, none⟩ = false) := fun W2 h2 =>
        ⟨(h2.cell hpw).trans x0, (h2.cell hgw).trans d0, (h2.cell hgw).trans d1, (h2.cell hgw).trans d2, (h2.frozen hgw).trans (ff _), (h2.frozen hgw).trans (ff _), (h2.frozen hgw).trans (ff _)⟩
      have HN : Hid (N[k]? = some n) := hn
      have HS : Hid (∀ W2 v', OwnRc W2 wr.heap.size v' n.rc → Below wr.heap.size wr W2 → CpB w W0 p (.slice (some ⟨g, 0, none⟩) N.length p1) (.slice a2 T.length p2) N T (k + 1) (((W2.setCell ⟨g, k * 3, none⟩ (.int .i64 n.id)).setCell ⟨g, k * 3 + 1, none⟩ (.string n.kd)).setCell ⟨g, k * 3 + 2, none⟩ v')) := fun W2 v' h1 h2 => cpB_step HC.out hn h1 h2
      obtain ⟨av, lv, cv, hv⟩ := hR.sl
      obtain ⟨id, kd, rv, rc⟩ := n
      simp only at hv d0 d1 d2 HP HS cc
      subst hv
      clear m1 m2 m3 m4 m5 m6 m7 m8 hM ce ff hR hn hk
      go_wp2
      first | (go_region_law (first | (go_simp; go_at_call 60; refine cc.mono ?_; rintro e W2 ⟨v2, rfl, hR2, hB2'⟩; have hB2 := b_undrew hB2'; clear hB2'; obtain ⟨y0, z0, z1, z2, f0, f1, f2⟩ := HP.out W2 hB2; obtain ⟨u2, l2, q2, rfl⟩ := hR2.sl; have HW2 : Hid (OwnRc W2 wr.heap.size (.slice u2 l2 q2) rc ∧ Below wr.heap.size wr W2) := ⟨hR2, hB2⟩; clear hR2 hB2))) | fail
      all_goals
        go_wp2
        refine ⟨⟨k + 1, hlt, ?_, ?_⟩, ?_⟩
        · go_num
        · exact HS.out _ _ HW2.out.1 HW2.out.2
        · simp [intOf]
          omega
    · obtain rfl : k = N.length := by omega
      obtain ⟨M, m1, m2, m3, m4, m5, m6, m7, m8⟩ := hC
      have hr1 := (m8.block _ (by omega)).trans HR.out
      have hOw : OwnNs wr W0.heap.size (.slice a1 N.length p1) M := ⟨by rw [m1]; exact m4, fun n hn => by
        obtain ⟨j, hj⟩ := List.getElem?_of_mem hn
        exact m5 j n hj (by rw [← m1]; exact (List.getElem?_eq_some_iff.1 hj).1)⟩
      have HF : Hid (cN M = cN N ∧ OwnNs wr W0.heap.size (.slice a1 N.length p1) M ∧ OwnTs wr W0.heap.size (.slice a2 T.length p2) T ∧ Below w.heap.size w wr ∧ Ty wr (w.heap.size + 1) 25) := ⟨m2, hOw, m7, on1K HI.out.2 m8 (Nat.le_refl _), _, hr1⟩
      have e0 : wr.cell? ⟨p, 0, none⟩ = some (.slice a1 N.length p1) := cell_at m3 rfl
      have e1 : wr.cell? ⟨p, 1, none⟩ = some (.slice a2 T.length p2) := cell_at m3 rfl
      have r0 : wr.cell? ⟨w.heap.size + 1, 0, none⟩ = some (.slice none 0 0) := cell_at hr1 rfl
      have r1 : wr.cell? ⟨w.heap.size + 1, 1, none⟩ = some (.slice none 0 0) := cell_at hr1 rfl
      have s0 : wr.frozen? ⟨w.heap.size + 1, 0, none⟩ = false := frz_at hr1
      have s1 : wr.frozen? ⟨w.heap.size + 1, 1, none⟩ = false := frz_at hr1
      have t1 : ((wr.setCell ⟨w.heap.size + 1, 0, none⟩ (.slice a1 N.length p1)).setCell ⟨w.heap.size + 1, 1, none⟩ (.slice a2 T.length p2)).heap[w.heap.size + 1]? = some (.cells #[.slice a1 N.length p1, .slice a2 T.length p2] 25 (0, 0)) := heap_setCell_same _ _ 1 _ 25 _ (heap_setCell_same wr _ 0 _ 25 _ hr1)
      have HT : Hid (((wr.setCell ⟨w.heap.size + 1, 0, none⟩ (.slice a1 N.length p1)).setCell ⟨w.heap.size + 1, 1, none⟩ (.slice a2 T.length p2)).cell? ⟨w.heap.size + 1, 0, none⟩ = some (.slice a1 N.length p1) ∧ ((wr.setCell ⟨w.heap.size + 1, 0, none⟩ (.slice a1 N.length p1)).setCell ⟨w.heap.size + 1, 1, none⟩ (.slice a2 T.length p2)).cell? ⟨w.heap.size + 1, 1, none⟩ = some (.slice a2 T.length p2)) := ⟨cell_at t1 rfl, cell_at t1 rfl⟩
      clear m1 m2 m3 m4 m5 m6 m7 m8 hr1 hOw t1 hk x0
      go_wp2
      obtain ⟨f1, f2, f3, f4, f5⟩ := HF.out
      obtain ⟨t0, t1⟩ := HT.out
      have hs0' : w.heap.size ≤ W0.heap.size := by omega
      refine bodyPost_ret (v := .agg #[.slice a1 N.length p1, .slice a2 T.length p2]) ?_ rfl ⟨_, _, M, rfl, f1, ?_, ?_, ?_⟩
      · simp [results, Try.results35, go_sem, t0, t1]
      · exact ⟨own_base (own_kt f2.1 (((Kt.refl _ _).ty f5 (by decide) _ _).ty (f5.set _ _ _) (by decide) _ _)) hs0', fun n hn => own_base ((f2.2 n hn).kt (((Kt.refl _ _).ty f5 (by decide) _ _).ty (f5.set _ _ _) (by decide) _ _)) hs0'⟩
      · exact own_base (f3.kt (((Kt.refl _ _).ty f5 (by decide) _ _).ty (f5.set _ _ _) (by decide) _ _)) hs0'
      · exact (f4.setCell (by show _ ≤ w.heap.size + 1; omega) _).setCell (by show _ ≤ w.heap.size + 1; omega) _
end Go.Proofs.Ytelbmianojomgaa
