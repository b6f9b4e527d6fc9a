import Derived.Test.YtahamkajkkkjdaaGreatDoorM35
import Derived.Test.YtahamkajkkkjdaaGreatDoorM32
import Derived.Test.YtahamkajkkkjdaaGreatDoorM49
import Derived.Test.YtahamkajkkkjdaaGreatDoorM37
import Derived.Deep.MidRow
import Derived.Test.YtahamkajkkkjdaaGreatDoorM38
import Derived.Test.YtahamkajkkkjdaaGreatDoorM39
import Derived.Test.YtahamkajkkkjdaaGreatDoorM40
namespace Go.Proofs.YtahamkajkkkjdaaGreatDoor
open Go.RowKit
set_option linter.unusedVariables false
set_option linter.unusedSimpArgs false
theorem gr_yes {L : List Kd} {B : List Bd} {c : Ch} {N : List Nd} {T : List Te} (h : grE L B c N T = 0) : doE L B c = 0 ∧ (sErr (cK L c) (cB B c)).2 = 0 ∧ gErr (N.map (ndT c (kdsA L c))) (T.filter (keepB (drp c))) = 0 := by
  unfold grE at h
  by_cases h0 : nwE L B c N T = 0
  · rw [if_pos h0] at h
    unfold aoE at h
    by_cases h1 : allX c (kdsA L c) N = 0
    · rw [if_pos h1] at h
      by_cases h2 : confB (cK L c) (cB B c) (N.map (ndT c (kdsA L c))) (T.filter (keepB (drp c))) = true
      · have := conf_parts h2
        exact ⟨(nwE_parts h0).1, this.2.1, this.2.2⟩
      · rw [if_neg h2] at h; exact absurd h (by decide)
    · rw [if_neg h1] at h; exact absurd h h1
  · rw [if_neg h0] at h; exact absurd h h0
theorem al_facts {w w3 W1 W2 : World} {base : Nat} {vk vb : Value} {cs : Array Value} {a1 a2 b1 b2 : Option Addr} {n1 c1 n2 c2 l1 d1 l2 d2 : Nat} {N : List Nd} {T : List Te} {L : List Kd} {B : List Bd}
    (HF : ∀ W, Below w3.heap.size w3 W → W.cell? ⟨w.heap.size, 0, none⟩ = some vk ∧ W.cell? ⟨w.heap.size, 1, none⟩ = some vb ∧ W.heap[w.heap.size + 1]? = some (.cells cs 58 (0, 0)) ∧ W.heap[w.heap.size + 2]? = some (.cells #[.slice none 0 0, .slice none 0 0, .slice none 0 0, .slice none 0 0] 69 (0, 0)) ∧ Below w.heap.size w W)
    (h1 : GrAt (W1.alloc (.cells #[.slice a1 n1 c1, .slice a2 n2 c2] 67)) base (.slice a1 n1 c1) (.slice a2 n2 c2) N T ∧ Below w3.heap.size w3 (W1.alloc (.cells #[.slice a1 n1 c1, .slice a2 n2 c2] 67)) ∧ (W1.alloc (.cells #[.slice a1 n1 c1, .slice a2 n2 c2] 67)).heap[W1.heap.size]? = some (.cells #[.slice a1 n1 c1, .slice a2 n2 c2] 67 (0, 0)))
    (hsc : ScAt W2 base (.slice b1 l1 d1) (.slice b2 l2 d2) L B) (hb2 : Below (W1.alloc (.cells #[.slice a1 n1 c1, .slice a2 n2 c2] 67)).heap.size (W1.alloc (.cells #[.slice a1 n1 c1, .slice a2 n2 c2] 67)) W2) :
    Hid (((W2.alloc (.cells #[.slice b1 l1 d1, .slice b2 l2 d2] 34)).cell? ⟨W1.heap.size, 0, none⟩ = some (.slice a1 n1 c1) ∧ (W2.alloc (.cells #[.slice b1 l1 d1, .slice b2 l2 d2] 34)).cell? ⟨W1.heap.size, 1, none⟩ = some (.slice a2 n2 c2) ∧ (W2.alloc (.cells #[.slice b1 l1 d1, .slice b2 l2 d2] 34)).heap[w.heap.size + 2]? = some (.cells #[.slice none 0 0, .slice none 0 0, .slice none 0 0, .slice none 0 0] 69 (0, 0)) ∧ True) ∧
      (Below w.heap.size w (W2.alloc (.cells #[.slice b1 l1 d1, .slice b2 l2 d2] 34)) ∧ QsL base L B N T (W2.alloc (.cells #[.slice b1 l1 d1, .slice b2 l2 d2] 34)) (.slice b1 l1 d1) (.slice b2 l2 d2) (.slice a1 n1 c1) (.slice a2 n2 c2))) := by
  have hba := bA (Below.refl W2.heap.size W2) (Nat.le_refl _) (.cells #[.slice b1 l1 d1, .slice b2 l2 d2] 34)
  have hb := hb2.trans (hba.mono hb2.size)
  obtain ⟨q1, q2, q3⟩ := h1
  obtain ⟨_, _, _, f4, f5⟩ := HF _ (q2.trans (hb.mono q2.size))
  have hn := (hb.block _ (Array.getElem?_eq_some_iff.1 q3).1).trans q3
  exact ⟨⟨cell_at hn rfl, cell_at hn rfl, f4, trivial⟩, f5, hsc.kt (fun t _ _ _ => .of_below hba), q1.kt (fun t _ _ _ => .of_below hb)⟩
set_option maxHeartbeats 8000000 in
set_option maxRecDepth 100000 in
theorem altered_any {w : World} {base : Nat} {vk vb vn vt : Value} {L : List Kd} {B : List Bd} {N : List Nd} {T : List Te} (c : Ch) {cs : Array Value} (hcs : c.one = .agg cs) (hs : IsSc w (.agg #[vk, vb]) L B) (hg : IsG w (.agg #[vn, vt]) N T) (hc : ChIs w c) (hcz : ChSz c) (hbs : base ≤ w.heap.size) :
    Calls Tryz.prog 29 #[.agg #[vk, vb, vn, vt], .agg cs] w (LwiP (grE L B c N T) (QsL base (cK L c) (cB B c) (cN (N.map (ndT c (kdsA L c)))) (T.filter (keepB (drp c)))) w) := by
  have h18 : cs.size = 18 := by injection hcs with hcs; rw [← hcs]; rfl
  obtain ⟨vk', vb', e1, hK, hP, hz, hB, hzb⟩ := hs
  injection e1 with e1
  simp only [Array.mk.injEq, List.cons.injEq, and_true] at e1
  obtain ⟨rfl, rfl⟩ := e1
  obtain ⟨vn', vt', e2, hN, hT, zN, zT, lN, lT⟩ := hg
  injection e2 with e2
  simp only [Array.mk.injEq, List.cons.injEq, and_true] at e2
  obtain ⟨rfl, rfl⟩ := e2
  obtain ⟨w3, hw3⟩ : ∃ w3, w3 = ((w.alloc (.cells #[vk, vb, vn, vt] 69)).alloc (.cells cs 58)).alloc (.cells #[.slice none 0 0, .slice none 0 0, .slice none 0 0, .slice none 0 0] 69) := ⟨_, rfl⟩
  have hB3 : Below w.heap.size w w3 := by rw [hw3]; exact bA (bA (bA (Below.refl _ _) (Nat.le_refl _) _) (Nat.le_refl _) _) (Nat.le_refl _) _
  have hz3 : w3.heap.size = w.heap.size + 3 := by rw [hw3]; simp
  have k0 : w3.heap[w.heap.size]? = some (.cells #[vk, vb, vn, vt] 69 (0, 0)) := by
    rw [hw3, Below.heap_alloc _ _ _ (by simp; omega), Below.heap_alloc _ _ _ (by simp)]; exact heap_alloc_new w _
  have k1 : w3.heap[w.heap.size + 1]? = some (.cells cs 58 (0, 0)) := by
    rw [hw3, Below.heap_alloc _ _ _ (by simp)]
    have := heap_alloc_new (w.alloc (.cells #[vk, vb, vn, vt] 69)) (.cells cs 58)
    rwa [World.size_alloc] at this
  have k2 : w3.heap[w.heap.size + 2]? = some (.cells #[.slice none 0 0, .slice none 0 0, .slice none 0 0, .slice none 0 0] 69 (0, 0)) := by
    rw [hw3]
    have := heap_alloc_new ((w.alloc (.cells #[vk, vb, vn, vt] 69)).alloc (.cells cs 58)) (.cells #[.slice none 0 0, .slice none 0 0, .slice none 0 0, .slice none 0 0] 69)
    rwa [World.size_alloc, World.size_alloc] at this
  have cG := graph_any c (hK.on hB3) (hP.on hB3) hz (hB.on hB3) hzb (hc.on hB3) hcz (hN.on hB3) (hT.on hB3) zN zT lN lT
  rw [hcs] at cG
  have HF : Hid (∀ W, Below w3.heap.size w3 W → W.cell? ⟨w.heap.size, 0, none⟩ = some vk ∧ W.cell? ⟨w.heap.size, 1, none⟩ = some vb ∧ W.heap[w.heap.size + 1]? = some (.cells cs 58 (0, 0)) ∧ W.heap[w.heap.size + 2]? = some (.cells #[.slice none 0 0, .slice none 0 0, .slice none 0 0, .slice none 0 0] 69 (0, 0)) ∧ Below w.heap.size w W) := fun W h => by
    have q0 := (h.block _ (by omega)).trans k0
    exact ⟨cell_at q0 rfl, cell_at q0 rfl, (h.block _ (by omega)).trans k1, (h.block _ (by omega)).trans k2, hB3.trans (h.mono (by omega))⟩
  have d0 : w3.cell? ⟨w.heap.size, 0, none⟩ = some vk := cell_at k0 rfl
  have d1 : w3.cell? ⟨w.heap.size, 1, none⟩ = some vb := cell_at k0 rfl
  have d2 : w3.cell? ⟨w.heap.size, 2, none⟩ = some vn := cell_at k0 rfl
  have d3 : w3.cell? ⟨w.heap.size, 3, none⟩ = some vt := cell_at k0 rfl
  have HBS := Lib.hid hbs
  by_cases h0 : grE L B c N T = 0
  · obtain ⟨e0, e1, e2⟩ := gr_yes h0
    have cY : Calls Tryz.prog 50 #[.agg #[vk, vb], .agg cs, .agg #[vn, vt]] w3 fun e w' => ∃ a1 n1 c1 a2 n2 c2, e = .returned (.tuple #[.agg #[.slice a1 n1 c1, .slice a2 n2 c2], .nilIface]) ∧ GrAt w' base (.slice a1 n1 c1) (.slice a2 n2 c2) (cN (N.map (ndT c (kdsA L c)))) (T.filter (keepB (drp c))) ∧ Below w3.heap.size w3 w' := by
      refine cG.mono ?_
      rintro e w' ⟨a1, n1, c1, a2, n2, c2, X, rfl, hX, hB⟩
      obtain ⟨q1, q2, q3⟩ := hX h0
      rw [h0, errV_0]
      have hl : base ≤ w3.heap.size := by omega
      exact ⟨a1, n1, c1, a2, n2, c2, rfl, ⟨X, by rw [q1, cN_ndT], ⟨own_base q2.1 hl, fun n hn => own_base (q2.2 n hn) hl⟩, own_base q3 hl, by rw [← gErr_c, q1]; exact e2⟩, hB⟩
    have cD : Hid (∀ W, Below w3.heap.size w3 W → Calls Tryz.prog 51 #[.agg #[vk, vb], .agg cs] W fun e w' => ∃ a1 l1 c1 a2 l2 c2, e = .returned (.tuple #[.agg #[.slice a1 l1 c1, .slice a2 l2 c2], .nilIface]) ∧ ScAt w' base (.slice a1 l1 c1) (.slice a2 l2 c2) (cK L c) (cB B c) ∧ Below W.heap.size W w') := fun W hW => by
      have hWw := hB3.trans (hW.mono hB3.size)
      have := do_yes c (hK.on hWw) (hP.on hWw) hz (hB.on hWw) hzb (hc.on hWw) hcz e0
      rw [hcs] at this
      refine this.mono ?_
      rintro e w' ⟨a1, l1, c1, a2, l2, c2, M, rfl, q1, q2, q3, q4⟩
      have hl : base ≤ W.heap.size := by have := hW.size; omega
      exact ⟨a1, l1, c1, a2, l2, c2, rfl, ⟨M, q1, ⟨own_base q2.1 hl, fun k hk => ⟨own_base (q2.2 k hk).1 hl, own_base (q2.2 k hk).2 hl⟩⟩, own_base q3 hl⟩, q4⟩
    unfold LwiP
    rw [h0]
    clear hK hP hz hB hzb hN hT zN zT lN lT hc hcz cG hcs k0 k2 hB3 hz3 hbs h0 e0 e1 e2
    subst hw3
    go_enter Tryz.func29, Tryz.ntmps29
    go_wp2_with (first
      | (refine wpList_load_row rfl 58 (.tmp 3) rfl (w.heap.size + 1) (by simp [Act.eval, Act.put]) 58 cs (0, 0) _ (by first | exact r1 | exact k1) Tryz.underlying58 rfl (by rw [h18]; exact info37) ?_)
      | (go_at_call 50; refine cY.mono ?_; rintro e W1 ⟨a1, n1, c1, a2, n2, c2, rfl, hgr, hb1⟩; have hba := bA (Below.refl W1.heap.size W1) (Nat.le_refl _) (.cells #[.slice a1 n1 c1, .slice a2 n2 c2] 67); have hb1a := hb1.trans (hba.mono hb1.size); obtain ⟨u0, u1, r1, r2, r3⟩ := HF.out _ hb1a; have cD1 := cD.out _ hb1a; have hgn := heap_alloc_new W1 (.cells #[.slice a1 n1 c1, .slice a2 n2 c2] 67); have hgr' := hgr.kt (fun t _ _ _ => .of_below hba); have HW1 := Lib.hid (And.intro hgr' (And.intro hb1a hgn)); clear hgr hgr' hb1 hba hb1a r2 r3 hgn)
      | (go_at_call 51; refine cD1.mono ?_; rintro e W2 ⟨b1, l1, d1, b2, l2, d2, rfl, hsc, hb2⟩; have HW2 := al_facts HF.out HW1.out hsc hb2; obtain ⟨p1, p2, p3, p4⟩ := HW2.out.1; have x0 : (W2.alloc (.cells #[.slice b1 l1 d1, .slice b2 l2 d2] 34)).cell? ⟨w.heap.size + 2, 0, none⟩ = some (.slice none 0 0) := cell_at p3 rfl; have f0 : (W2.alloc (.cells #[.slice b1 l1 d1, .slice b2 l2 d2] 34)).frozen? ⟨w.heap.size + 2, 0, none⟩ = false := frz_at p3; have x1 : (W2.alloc (.cells #[.slice b1 l1 d1, .slice b2 l2 d2] 34)).cell? ⟨w.heap.size + 2, 1, none⟩ = some (.slice none 0 0) := cell_at p3 rfl; have f1 : (W2.alloc (.cells #[.slice b1 l1 d1, .slice b2 l2 d2] 34)).frozen? ⟨w.heap.size + 2, 1, none⟩ = false := frz_at p3; have x2 : (W2.alloc (.cells #[.slice b1 l1 d1, .slice b2 l2 d2] 34)).cell? ⟨w.heap.size + 2, 2, none⟩ = some (.slice none 0 0) := cell_at p3 rfl; have f2 : (W2.alloc (.cells #[.slice b1 l1 d1, .slice b2 l2 d2] 34)).frozen? ⟨w.heap.size + 2, 2, none⟩ = false := frz_at p3; have x3 : (W2.alloc (.cells #[.slice b1 l1 d1, .slice b2 l2 d2] 34)).cell? ⟨w.heap.size + 2, 3, none⟩ = some (.slice none 0 0) := cell_at p3 rfl; have f3 : (W2.alloc (.cells #[.slice b1 l1 d1, .slice b2 l2 d2] 34)).frozen? ⟨w.heap.size + 2, 3, none⟩ = false := frz_at p3; have HW3 := Lib.hid p3; have HW4 := Lib.hid HW2.out.2; clear p3 hsc hb2 HW2)
      | fail)
    refine bodyPost_ret (v := .tuple #[.agg #[.slice b1 l1 d1, .slice b2 l2 d2, .slice a1 n1 c1, .slice a2 n2 c2], .nilIface]) (results_cell2 (p := 4) (u := 5) (ty := 69) rfl _ _ (w.heap.size + 2) 69 _ (0, 0) _ rfl (lset4_heap HW3.out) Tryz.underlying69 rfl info69) rfl ?_
    obtain ⟨q1, q2⟩ := HW4.out
    have kk : ∀ t, t ≠ 69 → t ≠ 72 → t ≠ 5 → Kt t _ (lset4 (W2.alloc (.cells #[.slice b1 l1 d1, .slice b2 l2 d2] 34)) (w.heap.size + 2) (.slice b1 l1 d1) (.slice b2 l2 d2) (.slice a1 n1 c1) (.slice a2 n2 c2)) := fun t ht _ _ => lset4_kt HW3.out (Ne.symm ht)
    exact ⟨(lset4_bx (l := []) (Bx.of_below q1 (Nat.le_refl _)) (.inr (by omega)) _ _ _ _).below (Nat.le_refl _) (fun _ h => by cases h), _, _, _, _, ⟨_, _, _, _, _, _, _, _, _, _, _, _, rfl, rfl, rfl, rfl⟩, rfl, q2.1.kt kk, q2.2.kt kk⟩
  · obtain ⟨ev, hev⟩ : ∃ ev, ev = grE L B c N T := ⟨_, rfl⟩
    have cE : Calls Tryz.prog 50 #[.agg #[vk, vb], .agg cs, .agg #[vn, vt]] w3 fun e w' => ∃ a1 n1 c1 a2 n2 c2, e = .returned (.tuple #[.agg #[.slice a1 n1 c1, .slice a2 n2 c2], .iface 76 (.int .i64 ev)]) ∧ Below w3.heap.size w3 w' := by
      refine cG.mono ?_
      rintro e w' ⟨a1, n1, c1, a2, n2, c2, X, rfl, _, hB⟩
      exact ⟨a1, n1, c1, a2, n2, c2, by rw [hev, errV_ne h0], hB⟩
    unfold LwiP
    rw [if_neg h0, ← hev]
    have h0' : ¬ ev = 0 := by rw [hev]; exact h0
    clear hK hP hz hB hzb hN hT zN zT lN lT hc hcz cG hcs k0 k2 hB3 hz3 hbs h0 hev
    have H0 := Lib.hid h0'
    clear h0'
    subst hw3
    go_enter Tryz.func29, Tryz.ntmps29
    go_wp2_with (first
      | (refine wpList_load_row rfl 58 (.tmp 3) rfl (w.heap.size + 1) (by simp [Act.eval, Act.put]) 58 cs (0, 0) _ k1 Tryz.underlying58 rfl (by rw [h18]; exact info37) ?_)
      | (go_at_call 50; refine cE.mono ?_; rintro e W1 ⟨a1, n1, c1, a2, n2, c2, rfl, hb1⟩; have hba := bA (Below.refl W1.heap.size W1) (Nat.le_refl _) (.cells #[.slice a1 n1 c1, .slice a2 n2 c2] 67); have hb1a := hb1.trans (hba.mono hb1.size); obtain ⟨u0, u1, r1, r2, r3⟩ := HF.out _ hb1a; have x0 : (W1.alloc (.cells #[.slice a1 n1 c1, .slice a2 n2 c2] 67)).cell? ⟨w.heap.size + 2, 0, none⟩ = some (.slice none 0 0) := cell_at r2 rfl; have f0 : (W1.alloc (.cells #[.slice a1 n1 c1, .slice a2 n2 c2] 67)).frozen? ⟨w.heap.size + 2, 0, none⟩ = false := frz_at r2; have x1 : (W1.alloc (.cells #[.slice a1 n1 c1, .slice a2 n2 c2] 67)).cell? ⟨w.heap.size + 2, 1, none⟩ = some (.slice none 0 0) := cell_at r2 rfl; have f1 : (W1.alloc (.cells #[.slice a1 n1 c1, .slice a2 n2 c2] 67)).frozen? ⟨w.heap.size + 2, 1, none⟩ = false := frz_at r2; have x2 : (W1.alloc (.cells #[.slice a1 n1 c1, .slice a2 n2 c2] 67)).cell? ⟨w.heap.size + 2, 2, none⟩ = some (.slice none 0 0) := cell_at r2 rfl; have f2 : (W1.alloc (.cells #[.slice a1 n1 c1, .slice a2 n2 c2] 67)).frozen? ⟨w.heap.size + 2, 2, none⟩ = false := frz_at r2; have x3 : (W1.alloc (.cells #[.slice a1 n1 c1, .slice a2 n2 c2] 67)).cell? ⟨w.heap.size + 2, 3, none⟩ = some (.slice none 0 0) := cell_at r2 rfl; have f3 : (W1.alloc (.cells #[.slice a1 n1 c1, .slice a2 n2 c2] 67)).frozen? ⟨w.heap.size + 2, 3, none⟩ = false := frz_at r2; have HW1 := Lib.hid (And.intro r2 r3); clear hb1 hba hb1a r1 r2 r3)
      | fail)
    obtain ⟨r2, r3⟩ := HW1.out
    refine bodyPost_ret (v := .tuple #[zS, .iface 76 (.int .i64 ev)]) (results_cell2 (p := 4) (u := 5) (ty := 69) rfl _ _ (w.heap.size + 2) 69 _ (0, 0) _ rfl (lset4_heap r2) Tryz.underlying69 rfl info69) rfl ?_
    exact ⟨(lset4_bx (l := []) (Bx.of_below r3 (Nat.le_refl _)) (.inr (by omega)) _ _ _ _).below (Nat.le_refl _) (fun _ h => by cases h), _, _, _, _, ⟨_, _, _, _, _, _, _, _, _, _, _, _, rfl, rfl, rfl, rfl⟩, rfl, fun h => absurd h H0.out⟩
structure En1 (cs : Array Value) (c : Ch) : Prop where
  c0 : cs[0]? = some (.bool true)
  c2 : ∀ (j : Nat) v, c.cells[j]? = some v → cs[2 + j]? = some v
  sz : cs.size = 20
theorem info58l (c : Ch) : (Tryz.prog.info? 58).map (fun i => i.size) = some c.cells.length := info37
set_option maxHeartbeats 8000000 in
set_option maxRecDepth 100000 in
theorem with_any1 {w : World} {base : Nat} {vk vb vn vt : Value} {cs : Array Value} {L : List Kd} {B : List Bd} {N : List Nd} {T : List Te} {c : Ch} (hen : En1 cs c) (hs : IsSc w (.agg #[vk, vb]) L B) (hg : IsG w (.agg #[vn, vt]) N T) (hc : ChIs w c) (hcz : ChSz c) (hbs : base ≤ w.heap.size) :
    Calls Tryz.prog 20 #[.agg #[vk, vb, vn, vt], .agg cs] w (LwiP (grE L B c N T) (QsL base (cK L c) (cB B c) (cN (N.map (ndT c (kdsA L c)))) (T.filter (keepB (drp c)))) w) := by
  obtain ⟨w3, hw3⟩ : ∃ w3, w3 = ((w.alloc (.cells #[vk, vb, vn, vt] 69)).alloc (.cells cs 75)).alloc (.cells #[.slice none 0 0, .slice none 0 0, .slice none 0 0, .slice none 0 0] 69) := ⟨_, rfl⟩
  have hB3 : Below w.heap.size w w3 := by rw [hw3]; exact bA (bA (bA (Below.refl _ _) (Nat.le_refl _) _) (Nat.le_refl _) _) (Nat.le_refl _) _
  have hz3 : w3.heap.size = w.heap.size + 3 := by rw [hw3]; simp
  have k0 : w3.heap[w.heap.size]? = some (.cells #[vk, vb, vn, vt] 69 (0, 0)) := by
    rw [hw3, Below.heap_alloc _ _ _ (by simp; omega), Below.heap_alloc _ _ _ (by simp)]; exact heap_alloc_new w _
  have k1 : w3.heap[w.heap.size + 1]? = some (.cells cs 75 (0, 0)) := by
    rw [hw3, Below.heap_alloc _ _ _ (by simp)]
    have := heap_alloc_new (w.alloc (.cells #[vk, vb, vn, vt] 69)) (.cells cs 75)
    rwa [World.size_alloc] at this
  have k2 : w3.heap[w.heap.size + 2]? = some (.cells #[.slice none 0 0, .slice none 0 0, .slice none 0 0, .slice none 0 0] 69 (0, 0)) := by
    rw [hw3]
    have := heap_alloc_new ((w.alloc (.cells #[vk, vb, vn, vt] 69)).alloc (.cells cs 75)) (.cells #[.slice none 0 0, .slice none 0 0, .slice none 0 0, .slice none 0 0] 69)
    rwa [World.size_alloc, World.size_alloc] at this
  have cP := altered_any (base := base) c (cs := c.cells.toArray) rfl (hs.on hB3) (hg.on hB3) (hc.on hB3) hcz (by omega)
  have hr : w3.rangeAt (w.heap.size + 1) 2 c.cells := fun j v h => cell_at k1 (hen.c2 j v h)
  have c0 : w3.cell? ⟨w.heap.size + 1, 0, none⟩ = some (.bool true) := cell_at k1 hen.c0
  have d0 : w3.cell? ⟨w.heap.size, 0, none⟩ = some vk := cell_at k0 rfl
  have d1 : w3.cell? ⟨w.heap.size, 1, none⟩ = some vb := cell_at k0 rfl
  have d2 : w3.cell? ⟨w.heap.size, 2, none⟩ = some vn := cell_at k0 rfl
  have d3 : w3.cell? ⟨w.heap.size, 3, none⟩ = some vt := cell_at k0 rfl
  have HF : Hid (∀ W1, Below w3.heap.size w3 W1 → W1.heap[w.heap.size + 2]? = some (.cells #[.slice none 0 0, .slice none 0 0, .slice none 0 0, .slice none 0 0] 69 (0, 0)) ∧ Below w.heap.size w W1) := fun W1 h => ⟨(h.block _ (by omega)).trans k2, hB3.trans (h.mono (by omega))⟩
  obtain ⟨ev, hev⟩ : ∃ ev, ev = (if grE L B c N T = 0 then Value.nilIface else .iface 76 (.int .i64 (grE L B c N T))) := ⟨_, rfl⟩
  unfold LwiP at cP ⊢
  rw [← hev] at cP ⊢
  have hcl := Lib.hid (info58l c)
  generalize hcc : c.cells = cc at *
  generalize grE L B c N T = ge at *
  generalize cK L c = cKL at *
  generalize cB B c = cBB at *
  generalize cN (N.map (ndT c (kdsA L c))) = NN at *
  generalize T.filter (keepB (drp c)) = TT at *
  clear hs hg hc hcz k0 k1 k2 hB3 hz3 hen hev hcc
  subst hw3
  go_enter Tryz.func20, Tryz.ntmps20
  go_wp2_with (first
    | (refine MidRow.wpList_load_mid rfl 58 (.tmp 9) rfl (w.heap.size + 1) 2 (by simp [Act.eval, Act.put]) cc _ hr Tryz.underlying58 rfl hcl.out ?_)
    | (refine wpList_load_mid rfl 58 (.tmp 9) rfl (w.heap.size + 1) 2 (by simp [Act.eval, Act.put]) cc _ hr Tryz.underlying58 rfl hcl.out ?_)
    | (go_at_call 29; refine cP.mono ?_; rintro e W1 ⟨hb1, _, _, _, _, ⟨p1, n1, c1, p2, n2, c2, p3, n3, c3, p4, n4, c4, rfl, rfl, rfl, rfl⟩, rfl, hq⟩; obtain ⟨y2, y3⟩ := HF.out W1 hb1; have x0 : W1.cell? ⟨w.heap.size + 2, 0, none⟩ = some (.slice none 0 0) := cell_at y2 rfl; have x1 : W1.cell? ⟨w.heap.size + 2, 1, none⟩ = some (.slice none 0 0) := cell_at y2 rfl; have x2 : W1.cell? ⟨w.heap.size + 2, 2, none⟩ = some (.slice none 0 0) := cell_at y2 rfl; have x3 : W1.cell? ⟨w.heap.size + 2, 3, none⟩ = some (.slice none 0 0) := cell_at y2 rfl; have f0 : W1.frozen? ⟨w.heap.size + 2, 0, none⟩ = false := frz_at y2; have f1 : W1.frozen? ⟨w.heap.size + 2, 1, none⟩ = false := frz_at y2; have f2 : W1.frozen? ⟨w.heap.size + 2, 2, none⟩ = false := frz_at y2; have f3 : W1.frozen? ⟨w.heap.size + 2, 3, none⟩ = false := frz_at y2; have HW1 := Lib.hid (And.intro hq (And.intro y2 y3)); clear hq hb1 y2 y3)
    | fail)
  obtain ⟨hq, y2, y3⟩ := HW1.out
  refine bodyPost_ret (v := .tuple #[.agg #[.slice p1 n1 c1, .slice p2 n2 c2, .slice p3 n3 c3, .slice p4 n4 c4], ev]) (results_cell2 (p := 4) (u := 5) (ty := 69) rfl _ _ (w.heap.size + 2) 69 _ (0, 0) _ rfl (lset4_heap y2) Tryz.underlying69 rfl info69) rfl ?_
  have kk : ∀ t, t ≠ 69 → t ≠ 72 → t ≠ 5 → Kt t W1 (lset4 W1 (w.heap.size + 2) (.slice p1 n1 c1) (.slice p2 n2 c2) (.slice p3 n3 c3) (.slice p4 n4 c4)) := fun t ht _ _ => lset4_kt y2 (Ne.symm ht)
  exact ⟨(lset4_bx (l := []) (Bx.of_below y3 (Nat.le_refl _)) (.inr (by omega)) _ _ _ _).below (Nat.le_refl _) (fun _ h => by cases h), _, _, _, _, ⟨_, _, _, _, _, _, _, _, _, _, _, _, rfl, rfl, rfl, rfl⟩, rfl, fun h => ⟨(hq h).1.kt kk, (hq h).2.kt kk⟩⟩
theorem unds_c (L : List Kd) (a : Nm) : ∀ l : List Nat, unds (L.map Kd.cz) a l = unds L a l
  | [] => rfl
  | i :: r => by
    unfold unds
    rw [List.getElem?_map]
    cases h : L[i]? with
    | none => simp only [Option.map_none]; exact unds_c L a r
    | some k =>
      simp only [Option.map_some]
      rw [← List.map_take, kinOf_c, idxK_c, unds_c L a r]
      rfl
theorem under_kq {K L : List Kd} (h : K.map kq3 = L.map kq3) (a : Nm) : under K a = under L a := by
  have hl : K.length = L.length := by have := congrArg List.length h; simpa using this
  unfold under
  rw [hl, ← unds_c K, ← unds_c L, cz_kq h]
theorem kdsA_kq {K L : List Kd} (h : K.map kq3 = L.map kq3) (c : Ch) : kdsA K c = kdsA L c := by unfold kdsA; rw [under_kq h]
theorem doE_kq {K L : List Kd} (h : K.map kq3 = L.map kq3) (B : List Bd) (c : Ch) : doE K B c = doE L B c := by unfold doE; rw [sErr_kq h, apE_kq h]
theorem grE_kq {K L : List Kd} (h : K.map kq3 = L.map kq3) (B : List Bd) (c : Ch) {M N : List Nd} (h2 : cN M = cN N) (T : List Te) : grE K B c M T = grE L B c N T := by
  unfold grE nwE
  rw [doE_kq h, kdsA_kq h, aoE_of h2 (cK_kq h c), inE_kq h, confB_kq h, ← inE_c, h2, inE_c, confB_cc h2]
def csA (c : Ch) : Array Value := (.bool true :: .slice none 0 0 :: c.cells).toArray
theorem csA_sz (c : Ch) : (csA c).size = 20 := rfl
theorem en1_csA (c : Ch) : En1 (csA c) c := ⟨rfl, fun j v hj => by unfold csA; rw [List.getElem?_toArray, Nat.add_comm]; exact hj, rfl⟩
theorem csA_fold (c : Ch) {c18 : Array Value} (h : c18 = c.cells.toArray) : Array.foldl (fun (cs : Array Value) x => cs.setIfInBounds (2 + x.snd) x.fst) #[.bool true, .slice none 0 0, .int .i64 0, .string ⟨#[]⟩, .string ⟨#[]⟩, .slice none 0 0, .slice none 0 0, .string ⟨#[]⟩, .string ⟨#[]⟩, .string ⟨#[]⟩, .int .i64 0, .int .i64 0, .string ⟨#[]⟩, .int .i64 0, .bool false, .bool false, .int .i64 0, .int .i64 0, .string ⟨#[]⟩, .string ⟨#[]⟩] c18.zipIdx 0 c18.size = csA c := by
  subst h
  kernel_rfl
def altS (s : Lg) (c : Ch) (r : List UInt8) : Int × Lg := stepS s (grE s.L s.B c s.N s.T) r (cK s.L c) (cB s.B c) (s.N.map (ndT c (kdsA s.L c))) (s.T.filter (keepB (drp c)))
theorem ScAt.kq {w : World} {base : Nat} {vk vb : Value} {L L' : List Kd} {B : List Bd} (h : ScAt w base vk vb L B) (e : L.map kq3 = L'.map kq3) : ScAt w base vk vb L' B := by
  obtain ⟨K, h1, h2, h3⟩ := h
  exact ⟨K, h1.trans e, h2, h3⟩
set_option maxHeartbeats 8000000 in
set_option maxRecDepth 100000 in
theorem alter_at {w : World} {base p : Nat} {s : Lg} {c : Ch} {r : List UInt8} (h : LgAt w base p s) (hok : LgOk s) (hc : ChIs w c) (hcz : ChSz c) (hr2 : 2 ≤ r.length) (hz : s.bs.length + r.length ≤ 1000000000)
    (hr : grE s.L s.B c s.N s.T = 0 → ∀ W, Below w.heap.size w W → Calls Tryz.prog 21 #[.agg (csA c)] W fun e w' => ∃ v, e = .returned v ∧ w'.ownsRow W.heap.size 5 1 v r.length (Lib.byteCells r) ∧ Below W.heap.size W w') :
    Calls Tryz.prog 9 #[.pointer (some ⟨p, 0, none⟩), c.one] w fun e w' => e = .returned (errV (altS s c r).1) ∧ LgAt w' base p (altS s c r).2 ∧ FrL base w w' := by
  obtain ⟨w1, hw1⟩ : ∃ w1, w1 = w.alloc (.cells c.cells.toArray 58) := ⟨_, rfl⟩
  have hB1 : Below w.heap.size w w1 := by rw [hw1]; exact bA (Below.refl _ _) (Nat.le_refl _) _
  have hL1 : LgAt w1 base p s := by
    have hF : FrL base w w1 := by
      obtain ⟨_, _, _, _, _, _, _, hp, hbp, _⟩ := id h
      exact ⟨hB1.mono (by have := (Array.getElem?_eq_some_iff.1 hp).1; omega), fun t _ _ => .of_below hB1⟩
    exact h.of hF (.of_below hB1) ⟨rfl, rfl, rfl, rfl, rfl, rfl, rfl⟩ (fun a b c d e f g hq => (hB1.block _ (Array.getElem?_eq_some_iff.1 hq).1).trans hq)
  obtain ⟨vk0, vb0, vk, vb, vn, vt, vy, hp, hbp, h0, h1, h2, hy⟩ := hL1
  have hlt : p < w.heap.size := by
    obtain ⟨_, _, _, _, _, _, _, hp, hbp, _⟩ := id h
    exact (Array.getElem?_eq_some_iff.1 hp).1
  obtain ⟨K, e1, hK, hB⟩ := id h1
  obtain ⟨M, e2, hM, hT, hg⟩ := id h2
  have isc := sc_isSc e1 hK hB hok.k1 hok.b1
  have isg := isG_own hM hT hg
  have e2' : cN M = cN s.N := by rw [← e2, cN_c]
  have eE := grE_kq e1 s.B c e2' s.T
  have eN : cN (M.map (ndT c (kdsA K c))) = s.N.map (ndT c (kdsA s.L c)) := by rw [cN_ndT, map_ndT_cc e2', kdsA_kq e1]
  have hen : En1 (csA c) c := en1_csA c
  have cD := lstep_any (ee := grE s.L s.B c s.N s.T) (r := r) (L := cK s.L c) (B := cB s.B c) (N := s.N.map (ndT c (kdsA s.L c))) (T := s.T.filter (keepB (drp c))) (cs := csA c) hp hbp h0 h1 h2 hy hok (csA_sz c)
    (fun W hW => (with_any1 (base := base) hen (isc.on hW) (isg.on hW) (hc.on (hB1.trans (hW.mono hB1.size))) hcz (by have := hW.size; have := hB1.size; omega)).mono (by
      rintro e w' ⟨q0, a, b, c', d, q1, q2, q3⟩
      rw [eE] at q2 q3
      refine ⟨q0, a, b, c', d, q1, q2, fun h0 => ?_⟩
      obtain ⟨q4, q5⟩ := q3 h0
      rw [eN] at q5
      exact ⟨q4.kq (cK_kq e1 c), q5⟩))
    (fun he W hW => hr he W (hB1.trans (hW.mono hB1.size))) hr2 hz
  obtain ⟨c18, h18⟩ : ∃ c18, c18 = c.cells.toArray := ⟨_, rfl⟩
  have h18s : Hid (c18.size = 18) := Lib.hid (by rw [h18]; rfl)
  have hn : w1.heap[w.heap.size]? = some (.cells c18 58 (0, 0)) := by rw [hw1, h18]; exact heap_alloc_new w _
  have ew : w1 = w.alloc (.cells c18 58) := by rw [h18]; exact hw1
  have e1c : c.one = .agg c18 := by rw [h18]; rfl
  rw [← csA_fold c h18] at cD
  rw [e1c]
  have hP := Lib.hid cD
  have HB1 := Lib.hid (And.intro hB1 hlt)
  obtain ⟨_, _, _, _, _, _, _, _, hbp', _⟩ := id h
  have HX := Lib.hid hbp'
  clear cD isc isg hen eE hK hB hM hT hg e1 e2 e2' eN h0 h1 h2 hy hp hok hz h hc hcz hr hr2 hw1 hB1 hlt hbp hbp' e1c
  unfold altS
  generalize stepS s (grE s.L s.B c s.N s.T) r (cK s.L c) (cB s.B c) (s.N.map (ndT c (kdsA s.L c))) (s.T.filter (keepB (drp c))) = R at *
  clear h18
  subst ew
  go_enter Tryz.func9, Tryz.ntmps9
  go_wp2_with (first
    | (refine wpList_load_row rfl 58 (.tmp 3) rfl w.heap.size rfl 58 c18 (0, 0) _ hn Tryz.underlying58 rfl (by rw [h18s.out]; exact info37) ?_)
    | (go_at_call 14; refine hP.out.mono ?_; rintro e w2 ⟨rfl, h1, h2⟩)
    | fail)
  all_goals first
    | (have e18 := h18s.out; simp [e18] at h; done)
    | (go_ret; have hB := HB1.out; exact ⟨rfl, h1, (hB.1.mono (by have := HX.out; omega)).trans h2.1, fun t ht h5 => (Kt.of_below hB.1).trans (h2.2 t ht h5)⟩)
def chB : Ch := ⟨1, [], ⟨[98], [], [], zsV, zsV⟩, ⟨[], [], [], 0, 0⟩, ⟨[], 0, false, false⟩, 0, 0, [], []⟩
theorem gr_chB : ∀ k, k < 22 → grE [kA .nilIface .nilIface] [] chB (ndsA k) [] = 0 := by decide +kernel
theorem cK_chB : (cK [kA .nilIface .nilIface] chB).length = 2 ∧ (sErr (cK [kA .nilIface .nilIface] chB) (cB [] chB)).2 = 0 := by decide +kernel
theorem chB_is (w : World) : ChIs w chB := ⟨own_isS (World.ownsRow_nil w 0 9 1), own_isF (World.ownsRow_nil w 0 56 4)⟩
abbrev LA : List Kd := [kA .nilIface .nilIface]
def drO : Opx := ⟨2, ⟨999, ⟨#[]⟩, .slice none 0 0, []⟩, ⟨⟨#[]⟩, 0, 0, ⟨#[]⟩⟩, ⟨⟨#[]⟩, 0, 0⟩⟩
structure Inv (f i : Nat) (s : Lg) : Prop where
  a : s.L0 = LA ∧ s.B0 = [] ∧ s.L = LA ∧ s.B = [] ∧ s.T = []
  z : 0 ≤ s.sf ∧ s.sf ≤ s.bs.length
  go : (s.st = false ∧ i ≤ f ∧ s.lf = (f : Int) - i) ∨ (s.st = true ∧ f < i ∧ s.lf = 0)
  bs : ∃ j h, j ≤ i ∧ j ≤ 20 ∧ s.N = ndsA j ∧ s.bs = rcs (opsA j) ++ h ∧ PartR h ∧ (s.st = false → h = [])
theorem Inv.ok {f i : Nat} {s : Lg} (h : Inv f i s) (hf : f ≤ 20) : LgOk s := by
  obtain ⟨e1, e2, e3, e4, e5⟩ := h.a
  have hl : s.lf ≤ 20 ∧ 0 ≤ s.lf := by rcases h.go with ⟨_, _, h⟩ | ⟨_, _, h⟩ <;> omega
  have k : SzK LA := fun k hk => by
    simp only [List.mem_singleton] at hk
    subst hk
    exact ⟨by decide, fun f hf => by cases hf⟩
  have b : SzB [] := fun x hx => by cases hx
  have e : (sErr LA []).2 = 0 := by decide +kernel
  exact ⟨by rw [e1]; exact k, by rw [e2]; exact b, by rw [e1, e2]; exact e, by rw [e3]; exact k, by rw [e4]; exact b, by rw [e3, e4]; exact e, by omega, by omega⟩
theorem inv_new (f : Nat) : Inv f 0 { newS LA [] with lf := f } := ⟨⟨rfl, rfl, rfl, rfl, rfl⟩, ⟨by show (0 : Int) ≤ 0; decide, by show (0 : Int) ≤ 0; decide⟩, .inl ⟨rfl, Nat.zero_le _, by simp⟩, ⟨0, [], Nat.le_refl _, by decide, rfl, rfl, partR_nil, fun _ => rfl⟩⟩
theorem put_drop {f i : Nat} {s : Lg} (h : Inv f i s) : putS s [drO] = (if i ≤ f then 5 else 6, s) := by
  unfold putS stepS
  rcases h.go with ⟨h1, h2, h3⟩ | ⟨h1, h2, h3⟩
  · obtain ⟨j, t, hj, hj2, hN, _⟩ := h.bs
    obtain ⟨e1, e2, e3, e4, e5⟩ := h.a
    have hd : opS.err [drO] s.N s.T = 5 := by rw [hN, e5]; exact drop_err0 j (by omega)
    have hp : putE s.L s.B [drO] s.N s.T = 5 := by unfold putE; rw [hd, if_neg (by decide)]
    rw [hp, h1, if_neg (by decide), if_pos (by decide), if_pos h2]
  · rw [h1, if_pos rfl, if_neg (by omega)]
theorem put_add {f i : Nat} {s : Lg} (h : Inv f i s) (hi : i < 20) (hj : s.st = false → s.N = ndsA i) : (putS s [addO zsV i]).1 = (if i < f then 0 else 6) ∧ Inv f (i + 1) (putS s [addO zsV i]).2 ∧ ((putS s [addO zsV i]).2.st = false → (putS s [addO zsV i]).2.N = ndsA (i + 1)) := by
  obtain ⟨j, t, hj1, hj2, hN, hb, ht, ht0⟩ := h.bs
  obtain ⟨e1, e2, e3, e4, e5⟩ := h.a
  obtain ⟨z1, z2⟩ := h.z
  rcases h.go with ⟨h1, h2, h3⟩ | ⟨h1, h2, h3⟩
  · have hn := hj h1
    have hd : opS.err [addO zsV i] s.N s.T = 0 := by rw [hn, e5]; exact add_err (by omega)
    have hr : opS.res [addO zsV i] s.N s.T = (ndsA (i + 1), []) := by rw [hn, e5]; exact add_res (by omega)
    have hp : putE s.L s.B [addO zsV i] s.N s.T = 0 := by
      unfold putE
      rw [if_pos hd, hr, e3, e4, if_pos (conf_nds (i + 1) (by omega))]
    have hji : j = i := by
      have := congrArg List.length (hN.symm.trans hn)
      simpa [ndsA] using this
    subst hji
    rw [ht0 h1, List.append_nil] at hb
    unfold putS stepS
    rw [hp, hr, h1, if_neg (by decide), if_neg (by decide)]
    have hrl := rec_len j (by omega)
    have hr2 := recL_two [addO zsV j]
    by_cases c : s.lf = 0
    · rw [if_pos c, if_neg (by omega)]
      refine ⟨rfl, ⟨⟨e1, e2, e3, e4, e5⟩, ⟨z1, by show s.sf ≤ ((s.bs ++ _ : List UInt8).length : Int); rw [List.length_append]; omega⟩, .inr ⟨rfl, by omega, rfl⟩, ⟨j, _, by omega, by omega, hn, by rw [hb], partR_op (by omega) (by omega), fun h => by cases h⟩⟩, fun h => by cases h⟩
    · rw [if_neg c, if_pos (by omega)]
      have hlf : lfN s.lf = (f : Int) - ((j + 1 : Nat) : Int) := by unfold lfN; rw [if_pos (by omega)]; omega
      exact ⟨rfl, ⟨⟨e1, e2, e3, e4, rfl⟩, ⟨z1, by show s.sf ≤ ((s.bs ++ _ : List UInt8).length : Int); rw [List.length_append]; omega⟩, .inl ⟨rfl, by omega, hlf⟩, ⟨j + 1, [], by omega, by omega, rfl, by show s.bs ++ _ = _; rw [hb, opsA_succ, rcs_snoc, List.append_nil], partR_nil, fun _ => rfl⟩⟩, fun _ => rfl⟩
  · have hp : putS s [addO zsV i] = (6, s) := by unfold putS stepS; rw [h1, if_pos rfl]
    rw [hp, if_neg (by omega)]
    exact ⟨rfl, ⟨⟨e1, e2, e3, e4, e5⟩, ⟨z1, z2⟩, .inr ⟨h1, by omega, h3⟩, ⟨j, t, by omega, hj2, hN, hb, ht, ht0⟩⟩, fun h => by rw [h1] at h; cases h⟩
theorem sync_inv {f i : Nat} {s : Lg} (h : Inv f i s) : (syncS s).1 = (if i < f then 0 else 6) ∧ Inv f (i + 1) (syncS s).2 := by
  obtain ⟨j, t, hj1, hj2, hN, hb, ht, ht0⟩ := h.bs
  obtain ⟨z1, z2⟩ := h.z
  unfold syncS
  rcases h.go with ⟨h1, h2, h3⟩ | ⟨h1, h2, h3⟩
  · rw [h1, if_neg (by decide)]
    by_cases c : s.lf = 0
    · rw [if_pos c, if_neg (by omega)]
      exact ⟨rfl, ⟨h.a, ⟨z1, z2⟩, .inr ⟨rfl, by omega, rfl⟩, ⟨j, t, by omega, hj2, hN, hb, ht, fun h => by cases h⟩⟩⟩
    · rw [if_neg c, if_pos (by omega)]
      have hlf : lfN s.lf = (f : Int) - ((i + 1 : Nat) : Int) := by unfold lfN; rw [if_pos (by omega)]; omega
      exact ⟨rfl, ⟨h.a, ⟨by show (0 : Int) ≤ (s.bs.length : Int); omega, Int.le_refl _⟩, .inl ⟨rfl, by omega, hlf⟩, ⟨j, t, by omega, hj2, hN, hb, ht, fun _ => ht0 h1⟩⟩⟩
  · rw [h1, if_pos rfl, if_neg (by omega)]
    exact ⟨rfl, ⟨h.a, ⟨z1, z2⟩, .inr ⟨h1, by omega, h3⟩, ⟨j, t, by omega, hj2, hN, hb, ht, ht0⟩⟩⟩
end Go.Proofs.YtahamkajkkkjdaaGreatDoor
