/-
  All of what is wrong, or too much; what it gives, in two cases.
-/
import Derived.Test.YtffiddpnkiejkaaGreatM35
import Derived.Test.YtffiddpnkiejkaaGreatM26
namespace Go.Proofs.YtffiddpnkiejkaaGreat
open Go.RowKit
set_option linter.unusedVariables false
set_option linter.unusedSimpArgs false

/-- All of these goes through. -/
def AllOk (N : List Nd) (T : List Te) (L : List Opx) : Prop := L.length ≤ 40 ∧ gErr N T = 0 ∧ opS.err L (cN N) T = 0
abbrev noG (k z : Int) : Ending := .returned (.tuple #[.agg #[.slice none 0 0, .slice none 0 0], .int .i64 k, .iface 74 (.int .i64 z)])

set_option maxHeartbeats 4000000 in
set_option maxRecDepth 100000 in
theorem all_full {vn vt vl : Value} {N : List Nd} {T : List Te} {L : List Opx} {w : World} (hN : IsN w vn N) (hT : IsT w vt T) (hL : IsO w vl L) (hl : 40 < L.length) (hm : L.length ≤ maxLen) :
    Calls Tryz.prog 6 #[.agg #[vn, vt], vl] w fun e w' => e = noG 0 4 ∧ Below w.heap.size w w' := by
  obtain ⟨an, cn, hvn, _⟩ := hN
  obtain ⟨am, cm, hvt, _⟩ := hT
  obtain ⟨ao, co, hvl, _⟩ := hL
  subst hvn hvt hvl
  unfold maxLen at hm
  have hlen : ((L.length : Int) > 40) := by omega
  go_enter Tryz.func6, Tryz.ntmps6
  go_wp2
  refine bodyPost_ret (v := .tuple #[.agg #[.slice none 0 0, .slice none 0 0], .int .i64 0, .iface 74 (.int .i64 4)]) ?_ rfl ⟨rfl, ?_⟩
  · simp [results, Tryz.results6, go_sem]
  · first
      | exact (((Below.refl _ _).alloc (Nat.le_refl _) _).alloc (by simp) _)
      | exact ((((Below.refl _ _).alloc (Nat.le_refl _) _).alloc (by simp) _).setCell (by simp) _).setCell (by simp) _

set_option maxHeartbeats 4000000 in
set_option maxRecDepth 100000 in
theorem all_wrong {vn vt vl : Value} {N : List Nd} {T : List Te} {L : List Opx} {w : World} (hN : IsN w vn N) (hT : IsT w vt T) (zN : SzN N) (zT : SzT T) (lN : N.length ≤ maxLen) (lT : T.length ≤ maxLen) (hL : IsO w vl L) (hl : L.length ≤ 40) (h0 : gErr N T ≠ 0) :
    Calls Tryz.prog 6 #[.agg #[vn, vt], vl] w fun e w' => e = noG 0 (gErr N T) ∧ Below w.heap.size w w' := by
  obtain ⟨W0, hW0⟩ : ∃ W0, W0 = (w.alloc (.cells #[vn, vt] 29)).alloc (.cells #[.slice none 0 0, .slice none 0 0] 29) := ⟨_, rfl⟩
  have hB0 : Below w.heap.size w W0 := by rw [hW0]; exact b_alloc (b_alloc (Below.refl _ _) _) _
  have hs0 : W0.heap.size = w.heap.size + 2 := by rw [hW0]; simp
  have n1 : W0.heap[w.heap.size + 1]? = some (.cells #[.slice none 0 0, .slice none 0 0] 29 (0, 0)) := by
    have := heap_alloc_new (w.alloc (.cells #[vn, vt] 29)) (.cells #[.slice none 0 0, .slice none 0 0] 29)
    rw [World.size_alloc] at this; rw [hW0]; exact this
  have cG := gcheck_any (hN.on hB0) (hT.on hB0) zN zT lN lT
  rw [errV_ne h0] at cG
  obtain ⟨an, cn, hvn, _⟩ := hN
  obtain ⟨am, cm, hvt, _⟩ := hT
  obtain ⟨ao, co, hvl, _⟩ := hL
  subst hvn hvt hvl
  have HI : Hid (Below w.heap.size w W0 ∧ W0.heap[w.heap.size + 1]? = some (.cells #[.slice none 0 0, .slice none 0 0] 29 (0, 0))) := ⟨hB0, n1⟩
  generalize gErr N T = z at *
  clear hB0 n1 h0
  have hlen : ¬ ((L.length : Int) > 40) := by omega
  go_enter Tryz.func6, Tryz.ntmps6
  subst hW0
  go_wp2_with (first | (go_at_call 20; refine cG.mono ?_; rintro e W1 ⟨rfl, hB1⟩; refine Hid.out ?_))
  refine Lib.hid ?_
  have hbw := on1K HI.out.1 hB1 (Nat.le_refl _)
  have m1 := (hB1.block (w.heap.size + 1) (by rw [hs0]; omega)).trans HI.out.2
  have y0 : W1.cell? ⟨w.heap.size + 1, 0, none⟩ = some (.slice none 0 0) := cell_at m1 rfl
  have y1 : W1.cell? ⟨w.heap.size + 1, 1, none⟩ = some (.slice none 0 0) := cell_at m1 rfl
  have f0 : W1.frozen? ⟨w.heap.size + 1, 0, none⟩ = false := frz_at m1
  have f1 : W1.frozen? ⟨w.heap.size + 1, 1, none⟩ = false := frz_at m1
  have HU := Lib.hid (heap_setCell_same _ _ 1 _ 29 (.slice none 0 0) (heap_setCell_same _ _ 0 _ 29 (.slice none 0 0) m1))
  have HF := Lib.hid hbw
  clear hbw m1 hB1 HI cG
  go_wp2
  have v0 := cell_at (i := 0) HU.out rfl
  have v1 := cell_at (i := 1) HU.out rfl
  have z1 := HF.out
  refine bodyPost_ret (v := .tuple #[.agg #[.slice none 0 0, .slice none 0 0], .int .i64 0, .iface 74 (.int .i64 z)]) ?_ rfl ⟨rfl, (z1.setCell (by show _ ≤ w.heap.size + 1; omega) _).setCell (by show _ ≤ w.heap.size + 1; omega) _⟩
  simp [results, Tryz.results6, go_sem, v0, v1]

theorem all_no {vn vt vl : Value} {N : List Nd} {T : List Te} {L : List Opx} {w : World} (hN : IsN w vn N) (hT : IsT w vt T) (zN : SzN N) (zT : SzT T) (lN : N.length ≤ maxLen) (lT : T.length ≤ maxLen) (hL : IsO w vl L) (zL : ∀ o ∈ L, OpSz o) (lL : L.length ≤ maxLen) (h0 : ¬ AllOk N T L) :
    Calls Tryz.prog 6 #[.agg #[vn, vt], vl] w fun e w' => ∃ k z, z ≠ 0 ∧ e = noG k z ∧ Below w.heap.size w w' := by
  by_cases h1 : L.length ≤ 40
  · by_cases h2 : gErr N T = 0
    · have h3 : opS.err L (cN N) T ≠ 0 := fun h => h0 ⟨h1, h2, h⟩
      refine (all_in opS hN hT zN zT h2 hL h1 zL (fun o _ => apply_all o) (fun o _ => keeps_all o)).mono ?_
      rintro e w' ⟨hB, ⟨h, _⟩ | ⟨_, rfl⟩⟩
      · exact absurd h h3
      · exact ⟨_, _, h3, by rw [errV_ne h3], hB⟩
    · refine (all_wrong hN hT zN zT lN lT hL h1 h2).mono ?_
      rintro e w' ⟨rfl, hB⟩
      exact ⟨_, _, h2, rfl, hB⟩
  · refine (all_full hN hT hL (by omega) lL).mono ?_
    rintro e w' ⟨rfl, hB⟩
    exact ⟨_, _, by decide, rfl, hB⟩
theorem all_yes {vn vt vl : Value} {N : List Nd} {T : List Te} {L : List Opx} {w : World} (hN : IsN w vn N) (hT : IsT w vt T) (zN : SzN N) (zT : SzT T) (hL : IsO w vl L) (zL : ∀ o ∈ L, OpSz o) (h0 : AllOk N T L) :
    Calls Tryz.prog 6 #[.agg #[vn, vt], vl] w fun e w' => ∃ a l c b m d M, e = .returned (.tuple #[.agg #[.slice a l c, .slice b m d], .int .i64 0, .nilIface]) ∧ cN M = (opS.res L (cN N) T).1 ∧ OwnNs w' w.heap.size (.slice a l c) M ∧ OwnTs w' w.heap.size (.slice b m d) (opS.res L (cN N) T).2 ∧ gErr M (opS.res L (cN N) T).2 = 0 ∧ Below w.heap.size w w' := by
  refine (all_in opS hN hT zN zT h0.2.1 hL h0.1 zL (fun o _ => apply_all o) (fun o _ => keeps_all o)).mono ?_
  rintro e w' ⟨hB, ⟨_, un, ut, M, rfl, q1, q2, q3, q4⟩ | ⟨h, _⟩⟩
  · obtain ⟨a, c, e1⟩ := own_slice q2.1
    obtain ⟨b, d, e2⟩ := own_slice q3
    subst e1 e2
    exact ⟨_, _, _, _, _, _, M, rfl, q1, q2, q3, q4, hB⟩
  · exact absurd h0.2.2 h
end Go.Proofs.YtffiddpnkiejkaaGreat

/-
  What package guard tells, in plain words; the walks of guard.Check and guard.May.
-/
namespace Go.Proofs.YtffiddpnkiejkaaGreat
open Go.RowKit
set_option linter.unusedVariables false
set_option linter.unusedSimpArgs false

theorem nErr_sz {b : ByteArray} (h : nErr b.data.toList = 0) : b.size ≤ maxLen := by
  have := nErr_short h
  rw [size_len]
  unfold maxLen
  omega
theorem gErr_sz {M : List Nd} {T : List Te} (h : gErr M T = 0) : SzN M ∧ SzT T := by
  obtain ⟨⟨_, _, h1⟩, ⟨_, _, h2⟩⟩ := (gErr_iff M T).1 h
  refine ⟨fun n hn => ?_, fun t ht => ?_⟩
  case refine_2 =>
    have ho := h2 t ht
    unfold teE at ho
    split at ho
    · rename_i h3; exact nErr_sz h3
    · rename_i h3; exact absurd ho h3
  obtain ⟨_, e2, e3⟩ := (ndE_iff n).1 (h1 n hn)
  have := rErr_le e3
  exact ⟨nErr_sz e2, sz_of e3, by unfold maxLen; omega⟩
/-- Faults ask no place of a record. -/
theorem allF_c (L : List Kd) (B : List Bd) (N : List Nd) (T : List Te) : allF L B (cN N) T = allF L B N T := by
  unfold allF nodeF endO cN
  rw [List.foldl_map, List.foldl_map]
  rfl
theorem allF_eq {L : List Kd} {B : List Bd} {N M : List Nd} {T : List Te} (h : cN N = cN M) : allF L B N T = allF L B M T := by
  rw [← allF_c L B N, ← allF_c L B M, h]
/-- Check answers. -/
def CkOk (L : List Kd) (B : List Bd) (N : List Nd) (T : List Te) (O : List Opx) : Prop := inE L B N T = 0 ∧ confB L B N T = true ∧ AllOk N T O
/-- What ops make. -/
def resN (N : List Nd) (T : List Te) (O : List Opx) : List Nd := (opS.res O (cN N) T).1
def resT (N : List Nd) (T : List Te) (O : List Opx) : List Te := (opS.res O (cN N) T).2
theorem resN_c {N M : List Nd} {T : List Te} {O : List Opx} (h : cN M = resN N T O) : cN (resN N T O) = resN N T O := by rw [← h, cN_c]

set_option maxHeartbeats 8000000 in
set_option maxRecDepth 100000 in
theorem gdcheck_yes {vs vg vl : Value} {L : List Kd} {B : List Bd} {N : List Nd} {T : List Te} {O : List Opx} {w : World} (hs : IsSc w vs L B) (hg : IsG w vg N T) (hl : IsO w vl O) (zl : ∀ o ∈ O, OpSz o) (h : CkOk L B N T O) :
    Calls Tryz.prog 12 #[vs, vg, vl] w fun e w' => ∃ u, e = .returned (.tuple #[u, .nilIface]) ∧ OwnX w' w.heap.size u (allF L B (resN N T O) (resT N T O)) ∧ Below w.heap.size w w' := by
  obtain ⟨vk, vb, rfl, hK, hP, hz, hb, hzb⟩ := hs
  obtain ⟨vn, vt, rfl, hN, hT, zN, zT, lN, lT⟩ := hg
  obtain ⟨ak, ck, rfl, hl1⟩ := hK.sln
  obtain ⟨ab, cb, rfl, hl2⟩ := hb.sln
  have HN : Hid (IsN w vn N ∧ IsT w vt T ∧ IsO w vl O) := ⟨hN, hT, hl⟩
  obtain ⟨an, cn, rfl, _⟩ := hN
  obtain ⟨at', ct, rfl, _⟩ := hT
  obtain ⟨ao, co, rfl, _⟩ := hl
  obtain ⟨W0, hW0⟩ : ∃ W0, W0 = box2 w #[.slice ak L.length ck, .slice ab B.length cb] 25 #[.slice an N.length cn, .slice at' T.length ct] 29 := ⟨_, rfl⟩
  have HB0 : Hid (Below w.heap.size w W0) := by rw [hW0]; exact box2_below _ _ _ _ _
  have x0 : W0.cell? ⟨w.heap.size, 0, none⟩ = some (.slice ak L.length ck) := by rw [hW0]; exact box2_a _ _ _ _ _ rfl
  have x1 : W0.cell? ⟨w.heap.size, 1, none⟩ = some (.slice ab B.length cb) := by rw [hW0]; exact box2_a _ _ _ _ _ rfl
  have x2 : W0.cell? ⟨w.heap.size + 1, 0, none⟩ = some (.slice an N.length cn) := by rw [hW0]; exact box2_b _ _ _ _ _ rfl
  have x3 : W0.cell? ⟨w.heap.size + 1, 1, none⟩ = some (.slice at' T.length ct) := by rw [hW0]; exact box2_b _ _ _ _ _ rfl
  have hs0 : W0.heap.size = w.heap.size + 2 := by rw [hW0]; exact box2_size _ _ _ _ _
  have cC := conforms_any (L := L) (B := B) (N := N) (T := T) (w := W0) ⟨_, _, rfl, hK.on HB0.out, hP.on HB0.out, hz, hb.on HB0.out, hzb⟩ ⟨_, _, rfl, HN.out.1.on HB0.out, HN.out.2.1.on HB0.out, zN, zT, lN, lT⟩
  rw [h.1, h.2.1, errV_0] at cC
  have HC : Hid (∀ W, Below W0.heap.size W0 W → Below w.heap.size w W ∧ W.cell? ⟨w.heap.size, 0, none⟩ = some (.slice ak L.length ck) ∧ W.cell? ⟨w.heap.size, 1, none⟩ = some (.slice ab B.length cb) ∧ W.cell? ⟨w.heap.size + 1, 0, none⟩ = some (.slice an N.length cn) ∧ W.cell? ⟨w.heap.size + 1, 1, none⟩ = some (.slice at' T.length ct)) := fun W hB =>
    ⟨on1K HB0.out hB (Nat.le_refl _), (hB.cell (p := ⟨w.heap.size, 0, none⟩) (by show w.heap.size < _; omega)).trans x0, (hB.cell (p := ⟨w.heap.size, 1, none⟩) (by show w.heap.size < _; omega)).trans x1, (hB.cell (p := ⟨w.heap.size + 1, 0, none⟩) (by show w.heap.size + 1 < _; omega)).trans x2, (hB.cell (p := ⟨w.heap.size + 1, 1, none⟩) (by show w.heap.size + 1 < _; omega)).trans x3⟩
  have HA : Hid (∀ W, Below w.heap.size w W → Calls Tryz.prog 6 #[.agg #[.slice an N.length cn, .slice at' T.length ct], .slice ao O.length co] W fun e w' => ∃ a l c b m d M, e = .returned (.tuple #[.agg #[.slice a l c, .slice b m d], .int .i64 0, .nilIface]) ∧ cN M = resN N T O ∧ OwnNs w' W.heap.size (.slice a l c) M ∧ OwnTs w' W.heap.size (.slice b m d) (resT N T O) ∧ gErr M (resT N T O) = 0 ∧ Below W.heap.size W w') := fun W hB => all_yes (HN.out.1.on hB) (HN.out.2.1.on hB) zN zT (HN.out.2.2.on hB) zl h.2.2
  have HF : Hid (∀ W vn' vt' M, Below w.heap.size w W → IsN W vn' M → IsT W vt' (resT N T O) → cN M = resN N T O → gErr M (resT N T O) = 0 → Calls Tryz.prog 26 #[.agg #[.slice ak L.length ck, .slice ab B.length cb], .agg #[vn', vt']] W fun e w' => ∃ a n c, e = .returned (.tuple #[.slice a n c, .nilIface]) ∧ OwnX w' W.heap.size (.slice a n c) (allF L B (resN N T O) (resT N T O)) ∧ Below W.heap.size W w') := fun W vn' vt' M hB h1 h2 h3 h4 => by
    obtain ⟨z1, z2⟩ := gErr_sz h4
    obtain ⟨l1, l2, _⟩ := gErr_lens h4
    have c := faults_any (L := L) (B := B) (N := M) (T := resT N T O) (w := W) ⟨_, _, rfl, hK.on hB, hP.on hB, hz, hb.on hB, hzb⟩ ⟨_, _, rfl, h1, h2, z1, z2, by unfold maxLen; omega, by unfold maxLen; omega⟩
    refine c.mono ?_
    rintro e w' ⟨u, rfl, _, q2, q3⟩
    have he : inE L B M (resT N T O) = 0 := by
      have h0 := h.1
      unfold inE at h0 ⊢
      by_cases hq : (sErr L B).2 = 0
      · rw [if_pos hq]; exact h4
      · rw [if_neg hq] at h0; exact absurd h0 hq
    have ho := q2 he
    have e1 : allF L B M (resT N T O) = allF L B (resN N T O) (resT N T O) := allF_eq (h3.trans (resN_c h3).symm)
    rw [e1] at ho
    obtain ⟨ao, cp, rfl⟩ := own_sliceC ho
    exact ⟨_, _, _, by rw [he, errV_0], ho, q3⟩
  clear hK hP hz hb hzb zN zT lN lT hl1 hl2 zl h
  go_enter Tryz.func12, Tryz.ntmps12
  go_upto_region 1 with fail
  unfold box2 at hW0
  rw [← hW0]
  clear hW0
  go_wp2_with (first | (go_at_call 16; refine cC.mono ?_; rintro e W1 ⟨rfl, hB1⟩; refine Hid.out ?_))
  refine Lib.hid ?_
  obtain ⟨hbw, y0, y1, y2, y3⟩ := HC.out W1 hB1
  have cA := HA.out W1 hbw
  have H1 := Lib.hid (And.intro hbw hB1)
  have hz1 : w.heap.size + 2 ≤ W1.heap.size := by have := hB1.size; omega
  clear hbw hB1 cC x0 x1 x2 x3
  go_wp2_with (first | (go_at_call 6; refine cA.mono ?_; rintro e W2 ⟨a, l, c, b, m, d, M, rfl, hM, o1, o2, g4, hB2⟩; refine Hid.out ?_))
  refine Lib.hid ?_
  obtain ⟨W3, hW3⟩ : ∃ W3, W3 = W2.alloc (.cells #[.slice a l c, .slice b m d] 29) := ⟨_, rfl⟩
  have hB3 : Below W2.heap.size W2 W3 := by rw [hW3]; exact b_alloc (Below.refl _ _) _
  have n3 : W3.heap[W2.heap.size]? = some (.cells #[.slice a l c, .slice b m d] 29 (0, 0)) := by rw [hW3]; exact heap_alloc_new W2 _
  have hB23 := on1K hB2 hB3 (Nat.le_refl _)
  have hB03 := on1K H1.out.2 hB23 (Nat.le_refl _)
  obtain ⟨hbw3, z0, z1, _, _⟩ := HC.out W3 hB03
  have m0 : W3.cell? ⟨W2.heap.size, 0, none⟩ = some (.slice a l c) := cell_at n3 rfl
  have m1 : W3.cell? ⟨W2.heap.size, 1, none⟩ = some (.slice b m d) := cell_at n3 rfl
  have cF := HF.out W3 _ _ M hbw3 ((o1.kt (.of_below hB3) (.of_below hB3)).isN) ((o2.kt (.of_below hB3)).isT) hM g4
  have H3 := Lib.hid hbw3
  have hne : ¬ w.heap.size = W2.heap.size := by have := hB2.size; omega
  clear cA y0 y1 y2 y3 o1 o2 hM g4 hB2 hB3 n3 hB23 hB03 hbw3
  have hW3' := hW3
  go_upto_region 9 with fail
  rw [← hW3']
  clear hW3 hW3'
  go_wp2_with (first | (go_at_call 26; refine cF.mono ?_; rintro e W4 ⟨a5, n5, c5, rfl, ho, hB4⟩))
  go_ret2
  exact ⟨_, rfl, own_base ho H3.out.size, on1K H3.out hB4 (Nat.le_refl _)⟩
end Go.Proofs.YtffiddpnkiejkaaGreat

/-
  What ops do not touch stands behind them as it stood: nodes, ties with an end that is not touched, the kinds of nodes that do not go.
-/
namespace Go.Proofs.YtffiddpnkiejkaaGreat
set_option linter.unusedVariables false
set_option linter.unusedSimpArgs false

section
variable {α : Type}
theorem srt_ext {r : α → α → Prop} (ha : ∀ a b, r a b → ¬ r b a) : ∀ {l m : List α}, l.Pairwise r → m.Pairwise r → (∀ x, x ∈ l ↔ x ∈ m) → l = m
  | [], [], _, _, _ => rfl
  | [], b :: m, _, _, h => by have := (h b).2 (List.mem_cons_self ..); cases this
  | a :: l, [], _, _, h => by have := (h a).1 (List.mem_cons_self ..); cases this
  | a :: l, b :: m, hl, hm, h => by
    obtain ⟨l1, l2⟩ := List.pairwise_cons.1 hl
    obtain ⟨m1, m2⟩ := List.pairwise_cons.1 hm
    have hab : a = b := by
      rcases List.mem_cons.1 ((h a).1 (List.mem_cons_self ..)) with e | e
      · exact e
      · rcases List.mem_cons.1 ((h b).2 (List.mem_cons_self ..)) with e' | e'
        · exact e'.symm
        · exact absurd (m1 a e) (ha _ _ (l1 b e'))
    subst hab
    have hx : ∀ x, r a x → x ≠ a := fun x hr e => by subst e; exact ha _ _ hr hr
    rw [srt_ext ha l2 m2 (fun x => ⟨fun hh => ?_, fun hh => ?_⟩)]
    · rcases List.mem_cons.1 ((h x).1 (List.mem_cons_of_mem _ hh)) with e | e
      · exact absurd e (hx x (l1 x hh))
      · exact e
    · rcases List.mem_cons.1 ((h x).2 (List.mem_cons_of_mem _ hh)) with e | e
      · exact absurd e (hx x (m1 x hh))
      · exact e
theorem mem_erase_at {l : List α} {k : Nat} {y : α} (hk : l[k]? = some y) (hn : l.Nodup) (x : α) : x ∈ l.eraseIdx k ↔ x ∈ l ∧ x ≠ y := by
  rw [List.mem_eraseIdx_iff_getElem?]
  constructor
  · rintro ⟨i, hi, hx⟩
    refine ⟨List.mem_of_getElem? hx, fun e => hi ?_⟩
    subst e
    obtain ⟨a1, a2⟩ := List.getElem?_eq_some_iff.1 hx
    exact (List.getElem?_inj a1 hn).1 (hx.trans hk.symm)
  · rintro ⟨hx, hne⟩
    obtain ⟨i, hi⟩ := List.getElem?_of_mem hx
    refine ⟨i, fun e => hne ?_, hi⟩
    subst e
    exact Option.some.inj (hi.symm.trans hk)
theorem mem_set_at {l : List α} {k : Nat} {z y : α} (hk : l[k]? = some z) (hn : l.Nodup) (x : α) : x ∈ l.set k y ↔ (x ∈ l ∧ x ≠ z) ∨ x = y := by
  have hl := (List.getElem?_eq_some_iff.1 hk).1
  constructor
  · intro hx
    obtain ⟨i, hi⟩ := List.getElem?_of_mem hx
    rw [List.getElem?_set] at hi
    by_cases e : k = i
    · rw [if_pos e, if_pos (e ▸ hl)] at hi
      exact .inr (Option.some.inj hi).symm
    · rw [if_neg e] at hi
      refine .inl ⟨List.mem_of_getElem? hi, fun e' => e ?_⟩
      subst e'
      exact (List.getElem?_inj hl hn).1 (hk.trans hi.symm)
  · rintro (⟨hx, hne⟩ | rfl)
    · obtain ⟨i, hi⟩ := List.getElem?_of_mem hx
      refine List.mem_of_getElem? (i := i) ?_
      rw [List.getElem?_set, if_neg, hi]
      intro e
      subst e
      exact hne (Option.some.inj (hi.symm.trans hk))
    · refine List.mem_of_getElem? (i := k) ?_
      rw [List.getElem?_set, if_pos rfl, if_pos hl]
end

theorem SrtN.nodup {N : List Nd} (h : SrtN N) : N.Nodup := List.Pairwise.imp (fun {a b} hab e => by subst e; omega) h
theorem SrtT.nodup {T : List Te} (h : SrtT T) : T.Nodup := List.Pairwise.imp (fun {a b} hab e => by subst e; have := (tCmp_zero a a).2 rfl; omega) h
theorem srtN_uniq {N : List Nd} (h : SrtN N) {a b : Nd} (ha : a ∈ N) (hb : b ∈ N) (e : a.id = b.id) : a = b := by
  obtain ⟨i, hi⟩ := List.getElem?_of_mem ha
  obtain ⟨j, hj⟩ := List.getElem?_of_mem hb
  obtain ⟨i1, rfl⟩ := List.getElem?_eq_some_iff.1 hi
  obtain ⟨j1, rfl⟩ := List.getElem?_eq_some_iff.1 hj
  rcases Nat.lt_trichotomy i j with h' | h' | h'
  · have := List.pairwise_iff_getElem.1 h i j i1 j1 h'; omega
  · subst h'; rfl
  · have := List.pairwise_iff_getElem.1 h j i j1 i1 h'; omega
theorem srtN_ext {A B : List Nd} (h1 : SrtN A) (h2 : SrtN B) (h : ∀ x, x ∈ A ↔ x ∈ B) : A = B := srt_ext (fun a b hab hba => by omega) h1 h2 h
theorem srtT_ext {A B : List Te} (h1 : SrtT A) (h2 : SrtT B) (h : ∀ x, x ∈ A ↔ x ∈ B) : A = B := srt_ext (fun a b hab hba => by have := tCmp_anti a b; omega) h1 h2 h

/-- The other end of a tie at a node. -/
def oth (id : Int) (t : Te) : Option Int := if t.fr = id then some t.tt else if t.tt = id then some t.fr else none
def endsOf (T : List Te) (id : Int) : List Int := T.filterMap (oth id)
/-- The ids that an op touches. -/
def touB (T : List Te) (o : Opx) : List Int := if o.wh = 5 ∨ o.wh = 6 then [o.te.fr, o.te.tt] else if o.wh = 2 then endsOf T o.nd.id ++ [o.nd.id] else [o.nd.id]
def touA (T : List Te) (O : List Opx) : List Int := O.flatMap (touB T)
/-- The ids of nodes that go. -/
def gonB (o : Opx) : List Int := if o.wh = 2 then [o.nd.id] else []
def gonA (O : List Opx) : List Int := O.flatMap gonB
theorem end_iff (t : Te) (id : Int) : t.end id = true ↔ t.fr = id ∨ t.tt = id := by unfold Te.end; simp
theorem oth_end {T : List Te} {t : Te} (ht : t ∈ T) {id : Int} (h : t.end id = true) : t.fr ∈ endsOf T id ++ [id] ∧ t.tt ∈ endsOf T id ++ [id] := by
  have key : ∀ j, oth id t = some j → j ∈ endsOf T id := fun j hj => List.mem_filterMap.2 ⟨t, ht, hj⟩
  by_cases a : t.fr = id
  · have k := key t.tt (by unfold oth; rw [if_pos a])
    exact ⟨by simp [a], by simp [k]⟩
  · have b : t.tt = id := ((end_iff t id).1 h).resolve_left a
    have k := key t.fr (by unfold oth; rw [if_neg a, if_pos b])
    exact ⟨by simp [k], by simp [b]⟩

theorem fnd_at {id : Int} {M : List Nd} (h : fndN id M = true) : ∃ g, M[loN id M]? = some g ∧ g.id = id := by
  unfold fndN at h
  cases e : M[loN id M]? with
  | none => rw [e] at h; cases h
  | some g => rw [e] at h; exact ⟨g, rfl, by simpa using h⟩
theorem fndT_at {t : Te} {T : List Te} (h : fndT t T = true) : T[loT t T]? = some t := by
  unfold fndT at h
  cases e : T[loT t T]? with
  | none => rw [e] at h; cases h
  | some g =>
    rw [e] at h
    have h' : tCmp g t = 0 := by simpa using h
    rw [(tCmp_zero g t).1 h']
theorem mem_mid {α : Type} {M : List α} {k : Nat} {x y : α} : y ∈ M.take k ++ x :: M.drop k ↔ y ∈ M ∨ y = x := by
  constructor
  · exact mem_ins3
  · rintro (h | rfl)
    · rw [← List.take_append_drop k M] at h
      rcases List.mem_append.1 h with h | h
      · exact List.mem_append.2 (.inl h)
      · exact List.mem_append.2 (.inr (List.mem_cons_of_mem _ h))
    · simp
theorem put_at {id : Int} {M : List Nd} {r : List Pr} (hs : SrtN M) (h : fndN id M = true) (x : Nd) (hx : x.id ≠ id) : x ∈ putR id M r ↔ x ∈ M := by
  obtain ⟨g, e, hg⟩ := fnd_at h
  unfold putR
  rw [e]
  show x ∈ M.set (loN id M) _ ↔ _
  rw [mem_set_at e hs.nodup]
  constructor
  · rintro (⟨h, _⟩ | rfl)
    · exact h
    · exact absurd hg hx
  · exact fun h => .inl ⟨h, fun e' => hx (by rw [e', hg])⟩
theorem put_kd {id : Int} {M : List Nd} {r : List Pr} (hs : SrtN M) (h : fndN id M = true) {x : Nd} (hx : x ∈ M) : ∃ y ∈ putR id M r, y.id = x.id ∧ y.kd = x.kd := by
  by_cases e : x.id = id
  · obtain ⟨g, e1, hg⟩ := fnd_at h
    obtain rfl : x = g := srtN_uniq hs hx (List.mem_of_getElem? e1) (e.trans hg.symm)
    refine ⟨⟨x.id, x.kd, .nilIface, r⟩, ?_, rfl, rfl⟩
    unfold putR
    rw [e1]
    show _ ∈ M.set (loN id M) _
    exact (mem_set_at e1 hs.nodup _).2 (.inr rfl)
  · exact ⟨x, (put_at hs h x e).2 hx, rfl, rfl⟩

/-- The sort of an op that has no error, and what it needs. -/
theorem opE_cases {o : Opx} {M : List Nd} {T : List Te} (e : opE o M T = 0) :
    (o.wh = 1 ∧ opM o M T = newM o.nd M ∧ opT o M T = T) ∨ (o.wh = 2 ∧ fndN o.nd.id M = true ∧ opM o M T = M.eraseIdx (loN o.nd.id M) ∧ opT o M T = T.filter (keepT o.nd.id)) ∨
    ((o.wh = 3 ∨ o.wh = 4) ∧ fndN o.nd.id M = true ∧ (∃ r, opM o M T = putR o.nd.id M r) ∧ opT o M T = T) ∨ (o.wh = 5 ∧ opM o M T = M ∧ opT o M T = bindT o.te T) ∨ (o.wh = 6 ∧ fndT o.te T = true ∧ opM o M T = M ∧ opT o M T = T.eraseIdx (loT o.te T)) := by
  unfold opE at e
  unfold opM opT
  by_cases h1 : o.wh = 1
  · rw [if_pos h1, if_neg (by omega), if_neg (by omega), if_neg (by omega)]
    exact .inl ⟨h1, rfl, rfl⟩
  by_cases h2 : o.wh = 2
  · rw [if_neg h1, if_pos h2] at e
    rw [if_neg h1, if_pos h2, if_pos h2]
    refine .inr (.inl ⟨h2, ?_, rfl, rfl⟩)
    unfold goneE at e
    by_cases hf : fndN o.nd.id M = true
    · exact hf
    · rw [if_neg hf] at e; cases e
  by_cases h3 : o.wh = 3
  · rw [if_neg h1, if_neg h2, if_pos h3] at e
    rw [if_neg h1, if_neg h2, if_pos h3, if_neg h2, if_neg (by omega), if_neg (by omega)]
    refine .inr (.inr (.inl ⟨.inl h3, ?_, ⟨_, rfl⟩, rfl⟩))
    by_cases hf : fndN o.nd.id M = true
    · exact hf
    · rw [if_neg hf] at e; cases e
  by_cases h4 : o.wh = 4
  · rw [if_neg h1, if_neg h2, if_neg h3, if_pos h4] at e
    rw [if_neg h1, if_neg h2, if_neg h3, if_pos h4, if_neg h2, if_neg (by omega), if_neg (by omega)]
    refine .inr (.inr (.inl ⟨.inr h4, ?_, ⟨_, rfl⟩, rfl⟩))
    by_cases hf : fndN o.nd.id M = true
    · exact hf
    · rw [if_neg hf] at e; cases e
  by_cases h5 : o.wh = 5
  · rw [if_neg h1, if_neg h2, if_neg h3, if_neg h4, if_neg h2, if_pos h5]
    exact .inr (.inr (.inr (.inl ⟨h5, rfl, rfl⟩)))
  by_cases h6 : o.wh = 6
  · rw [if_neg h1, if_neg h2, if_neg h3, if_neg h4, if_neg h5, if_pos h6] at e
    rw [if_neg h1, if_neg h2, if_neg h3, if_neg h4, if_neg h2, if_neg h5, if_pos h6]
    refine .inr (.inr (.inr (.inr ⟨h6, ?_, rfl, rfl⟩)))
    by_cases hf : fndT o.te T = true
    · exact hf
    · rw [if_neg hf] at e; cases e
  rw [if_neg h1, if_neg h2, if_neg h3, if_neg h4, if_neg h5, if_neg h6] at e
  cases e

theorem opM_un {o : Opx} {M : List Nd} {T : List Te} (hs : SrtN M) (e : opE o M T = 0) (x : Nd) (hx : ¬ (o.wh = 5 ∨ o.wh = 6) → x.id ≠ o.nd.id) : x ∈ opM o M T ↔ x ∈ M := by
  rcases opE_cases e with ⟨h, e1, _⟩ | ⟨h, hf, e1, _⟩ | ⟨h, hf, ⟨r, e1⟩, _⟩ | ⟨h, e1, _⟩ | ⟨h, _, e1, _⟩
  · have hi := hx (by omega)
    rw [e1]
    unfold newM
    rw [mem_mid]
    exact ⟨fun q => q.resolve_right fun q => hi (by rw [q]; rfl), .inl⟩
  · have hi := hx (by omega)
    obtain ⟨g, e2, hg⟩ := fnd_at hf
    rw [e1, mem_erase_at e2 hs.nodup]
    exact ⟨fun q => q.1, fun q => ⟨q, fun q2 => hi (by rw [q2, hg])⟩⟩
  · rw [e1]; exact put_at hs hf x (hx (by omega))
  · rw [e1]
  · rw [e1]
theorem opM_kd {o : Opx} {M : List Nd} {T : List Te} (hs : SrtN M) (e : opE o M T = 0) {x : Nd} (hx : x ∈ M) (hg : x.id ∉ gonB o) : ∃ y ∈ opM o M T, y.id = x.id ∧ y.kd = x.kd := by
  rcases opE_cases e with ⟨h, e1, _⟩ | ⟨h, hf, e1, _⟩ | ⟨h, hf, ⟨r, e1⟩, _⟩ | ⟨h, e1, _⟩ | ⟨h, _, e1, _⟩
  · rw [e1]; exact ⟨x, mem_mid.2 (.inl hx), rfl, rfl⟩
  · obtain ⟨g, e2, hg2⟩ := fnd_at hf
    rw [e1]
    refine ⟨x, (mem_erase_at e2 hs.nodup x).2 ⟨hx, fun q => hg ?_⟩, rfl, rfl⟩
    unfold gonB
    rw [if_pos h, q, hg2]
    simp
  · rw [e1]; exact put_kd hs hf hx
  · rw [e1]; exact ⟨x, hx, rfl, rfl⟩
  · rw [e1]; exact ⟨x, hx, rfl, rfl⟩
theorem opT_un {o : Opx} {M : List Nd} {T : List Te} (hs : SrtT T) (e : opE o M T = 0) (t : Te) (h2 : o.wh = 2 → t ∈ T → t.end o.nd.id = false) (h5 : (o.wh = 5 ∨ o.wh = 6) → t ≠ o.te) : t ∈ opT o M T ↔ t ∈ T := by
  rcases opE_cases e with ⟨h, _, e1⟩ | ⟨h, hf, _, e1⟩ | ⟨h, hf, ⟨r, _⟩, e1⟩ | ⟨h, _, e1⟩ | ⟨h, hf, _, e1⟩
  · rw [e1]
  · rw [e1, List.mem_filter]
    exact ⟨fun q => q.1, fun q => ⟨q, by unfold keepT; rw [h2 h q]; rfl⟩⟩
  · rw [e1]
  · rw [e1]
    unfold bindT
    rw [mem_mid]
    exact ⟨fun q => q.resolve_right (h5 (.inl h)), .inl⟩
  · rw [e1, mem_erase_at (fndT_at hf) hs.nodup]
    exact ⟨fun q => q.1, fun q => ⟨q, h5 (.inr h)⟩⟩

/-- What stands behind ops that touched X, of which the nodes G went. -/
structure Un (T0 : List Te) (X G : List Int) (M0 M : List Nd) (U : List Te) : Prop where
  nd : ∀ x : Nd, x.id ∉ X → (x ∈ M ↔ x ∈ M0)
  te : ∀ t : Te, (t.fr ∉ X ∨ t.tt ∉ X) → (t ∈ U ↔ t ∈ T0)
  kd : ∀ x ∈ M0, x.id ∉ G → ∃ y ∈ M, y.id = x.id ∧ y.kd = x.kd
theorem un_step {T0 : List Te} {X G : List Int} {M0 M : List Nd} {U : List Te} {o : Opx} (h : Un T0 X G M0 M U) (hg : gErr M U = 0) (e : opE o M U = 0) : Un T0 (X ++ touB T0 o) (G ++ gonB o) M0 (opM o M U) (opT o M U) := by
  obtain ⟨⟨_, hs, _⟩, ⟨_, ht, _⟩⟩ := (gErr_iff M U).1 hg
  refine ⟨fun x hx => ?_, fun t hx => ?_, fun x hx hn => ?_⟩
  · obtain ⟨x1, x2⟩ := not_or.1 (fun q => hx (List.mem_append.2 q))
    refine (opM_un hs e x fun hw q => x2 ?_).trans (h.nd x x1)
    unfold touB
    rw [if_neg hw, q]
    split <;> simp
  · have hx1 : t.fr ∉ X ∨ t.tt ∉ X := hx.imp (fun q q2 => q (List.mem_append.2 (.inl q2))) (fun q q2 => q (List.mem_append.2 (.inl q2)))
    have hx2 : t.fr ∉ touB T0 o ∨ t.tt ∉ touB T0 o := hx.imp (fun q q2 => q (List.mem_append.2 (.inr q2))) (fun q q2 => q (List.mem_append.2 (.inr q2)))
    refine (opT_un ht e t (fun hw hm => ?_) (fun hw q => ?_)).trans (h.te t hx1)
    · cases he : t.end o.nd.id with
      | false => rfl
      | true =>
        obtain ⟨a, b⟩ := oth_end ((h.te t hx1).1 hm) he
        unfold touB at hx2
        rw [if_neg (by omega), if_pos hw] at hx2
        exact absurd hx2 (by simp only [a, b, not_true_eq_false, or_self, not_false_eq_true])
    · unfold touB at hx2
      rw [if_pos hw, q] at hx2
      simp at hx2
  · obtain ⟨n1, n2⟩ := not_or.1 (fun q => hn (List.mem_append.2 q))
    obtain ⟨y, y1, y2, y3⟩ := h.kd x hx n1
    obtain ⟨z, z1, z2, z3⟩ := opM_kd hs e y1 (by rw [y2]; exact n2)
    exact ⟨z, z1, z2.trans y2, z3.trans y3⟩
theorem un_all {T0 : List Te} {M0 : List Nd} : ∀ (O : List Opx) (X G : List Int) (M : List Nd) (U : List Te), gErr M U = 0 → opS.err O M U = 0 → Un T0 X G M0 M U → Un T0 (X ++ touA T0 O) (G ++ gonA O) M0 (opS.res O M U).1 (opS.res O M U).2 ∧ gErr (opS.res O M U).1 (opS.res O M U).2 = 0
  | [], X, G, M, U, hg, _, h => by simpa [touA, gonA, OpS.res] using ⟨h, hg⟩
  | o :: O, X, G, M, U, hg, he, h => by
    by_cases e : opE o M U = 0
    · have e' : opS.e o M U = 0 := e
      have he' : opS.err O (opM o M U) (opT o M U) = 0 := by unfold OpS.err at he; rw [if_pos e'] at he; exact he
      have hr : opS.res (o :: O) M U = opS.res O (opM o M U) (opT o M U) := by rw [OpS.res, if_pos e']; rfl
      have := un_all O (X ++ touB T0 o) (G ++ gonB o) (opM o M U) (opT o M U) (keeps_all o M U hg e') he' (un_step h hg e)
      rw [hr]
      simpa [touA, gonA, List.append_assoc] using this
    · have e' : ¬ opS.e o M U = 0 := e
      unfold OpS.err at he
      rw [if_neg e'] at he
      exact absurd he e'
/-- A tie of the first graph leads to a node that goes: its beginning is touched. -/
theorem gon_tou {T0 : List Te} {O : List Opx} {t : Te} (ht : t ∈ T0) (h : t.tt ∈ gonA O) : t.fr ∈ touA T0 O := by
  obtain ⟨o, ho, hg⟩ := List.mem_flatMap.1 h
  refine List.mem_flatMap.2 ⟨o, ho, ?_⟩
  unfold gonB at hg
  by_cases hw : o.wh = 2
  · rw [if_pos hw] at hg
    unfold touB
    rw [if_neg (by omega), if_pos hw]
    exact (oth_end ht ((end_iff _ _).2 (.inr (by simpa using hg)))).1
  · rw [if_neg hw] at hg; cases hg
end Go.Proofs.YtffiddpnkiejkaaGreat
