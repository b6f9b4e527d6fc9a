/-
  All of what is wrong, or too much; what it gives, in two cases.
-/
import Derived.Test.YtjnjbajnmclmjaaGreatM35
import Derived.Test.YtjnjbajnmclmjaaGreatM26
import Derived.Test.YtjnjbajnmclmjaaGreatM04
namespace Go.Proofs.YtjnjbajnmclmjaaGreat
open Go.RowKit
set_option linter.unusedVariables false
set_option linter.unusedSimpArgs false

/-- All of these goes through. -/
def AllOk (N : List Nd) (T : List Te) (L : List Opx) : Prop := L.length ≤ 40 ∧ gErr N T = 0 ∧ opS.err L (cN N) T = 0
abbrev noG (k z : Int) : Ending := .returned (.tuple #[.agg #[.slice none 0 0, .slice none 0 0], .int .i64 k, .iface 74 (.int .i64 z)])

set_option maxHeartbeats 4000000 in
set_option maxRecDepth 100000 in
theorem all_full {vn vt vl : Value} {N : List Nd} {T : List Te} {L : List Opx} {w : World} (hN : IsN w vn N) (hT : IsT w vt T) (hL : IsO w vl L) (hl : 40 < L.length) (hm : L.length ≤ maxLen) :
    Calls Tryz.prog 6 #[.agg #[vn, vt], vl] w fun e w' => e = noG 0 4 ∧ Below w.heap.size w w' := by
  obtain ⟨an, cn, hvn, _⟩ := hN
  obtain ⟨am, cm, hvt, _⟩ := hT
  obtain ⟨ao, co, hvl, _⟩ := hL
  subst hvn hvt hvl
  unfold maxLen at hm
  have hlen : ((L.length : Int) > 40) := by omega
  go_enter Tryz.func6, Tryz.ntmps6
  go_wp2
  refine bodyPost_ret (v := .tuple #[.agg #[.slice none 0 0, .slice none 0 0], .int .i64 0, .iface 74 (.int .i64 4)]) ?_ rfl ⟨rfl, ?_⟩
  · simp [results, Tryz.results6, go_sem]
  · first
      | exact (((Below.refl _ _).alloc (Nat.le_refl _) _).alloc (by simp) _)
      | exact ((((Below.refl _ _).alloc (Nat.le_refl _) _).alloc (by simp) _).setCell (by simp) _).setCell (by simp) _

set_option maxHeartbeats 4000000 in
set_option maxRecDepth 100000 in
theorem all_wrong {vn vt vl : Value} {N : List Nd} {T : List Te} {L : List Opx} {w : World} (hN : IsN w vn N) (hT : IsT w vt T) (zN : SzN N) (zT : SzT T) (lN : N.length ≤ maxLen) (lT : T.length ≤ maxLen) (hL : IsO w vl L) (hl : L.length ≤ 40) (h0 : gErr N T ≠ 0) :
    Calls Tryz.prog 6 #[.agg #[vn, vt], vl] w fun e w' => e = noG 0 (gErr N T) ∧ Below w.heap.size w w' := by
  obtain ⟨W0, hW0⟩ : ∃ W0, W0 = (w.alloc (.cells #[vn, vt] 29)).alloc (.cells #[.slice none 0 0, .slice none 0 0] 29) := ⟨_, rfl⟩
  have hB0 : Below w.heap.size w W0 := by rw [hW0]; exact b_alloc (b_alloc (Below.refl _ _) _) _
  have hs0 : W0.heap.size = w.heap.size + 2 := by rw [hW0]; simp
  have n1 : W0.heap[w.heap.size + 1]? = some (.cells #[.slice none 0 0, .slice none 0 0] 29 (0, 0)) := by
    have := heap_alloc_new (w.alloc (.cells #[vn, vt] 29)) (.cells #[.slice none 0 0, .slice none 0 0] 29)
    rw [World.size_alloc] at this; rw [hW0]; exact this
  have cG := gcheck_any (hN.on hB0) (hT.on hB0) zN zT lN lT
  rw [errV_ne h0] at cG
  obtain ⟨an, cn, hvn, _⟩ := hN
  obtain ⟨am, cm, hvt, _⟩ := hT
  obtain ⟨ao, co, hvl, _⟩ := hL
  subst hvn hvt hvl
  have HI : Hid (Below w.heap.size w W0 ∧ W0.heap[w.heap.size + 1]? = some (.cells #[.slice none 0 0, .slice none 0 0] 29 (0, 0))) := ⟨hB0, n1⟩
  generalize gErr N T = z at *
  clear hB0 n1 h0
  have hlen : ¬ ((L.length : Int) > 40) := by omega
  go_enter Tryz.func6, Tryz.ntmps6
  subst hW0
  go_wp2_with (first | (go_at_call 20; refine cG.mono ?_; rintro e W1 ⟨rfl, hB1⟩; refine Hid.out ?_))
  refine Lib.hid ?_
  have hbw := on1K HI.out.1 hB1 (Nat.le_refl _)
  have m1 := (hB1.block (w.heap.size + 1) (by rw [hs0]; omega)).trans HI.out.2
  have y0 : W1.cell? ⟨w.heap.size + 1, 0, none⟩ = some (.slice none 0 0) := cell_at m1 rfl
  have y1 : W1.cell? ⟨w.heap.size + 1, 1, none⟩ = some (.slice none 0 0) := cell_at m1 rfl
  have f0 : W1.frozen? ⟨w.heap.size + 1, 0, none⟩ = false := frz_at m1
  have f1 : W1.frozen? ⟨w.heap.size + 1, 1, none⟩ = false := frz_at m1
  have HU := Lib.hid (heap_setCell_same _ _ 1 _ 29 (.slice none 0 0) (heap_setCell_same _ _ 0 _ 29 (.slice none 0 0) m1))
  have HF := Lib.hid hbw
  clear hbw m1 hB1 HI cG
  go_wp2
  have v0 := cell_at (i := 0) HU.out rfl
  have v1 := cell_at (i := 1) HU.out rfl
  have z1 := HF.out
  refine bodyPost_ret (v := .tuple #[.agg #[.slice none 0 0, .slice none 0 0], .int .i64 0, .iface 74 (.int .i64 z)]) ?_ rfl ⟨rfl, (z1.setCell (by show _ ≤ w.heap.size + 1; omega) _).setCell (by show _ ≤ w.heap.size + 1; omega) _⟩
  simp [results, Tryz.results6, go_sem, v0, v1]

theorem all_no {vn vt vl : Value} {N : List Nd} {T : List Te} {L : List Opx} {w : World} (hN : IsN w vn N) (hT : IsT w vt T) (zN : SzN N) (zT : SzT T) (lN : N.length ≤ maxLen) (lT : T.length ≤ maxLen) (hL : IsO w vl L) (zL : ∀ o ∈ L, OpSz o) (lL : L.length ≤ maxLen) (h0 : ¬ AllOk N T L) :
    Calls Tryz.prog 6 #[.agg #[vn, vt], vl] w fun e w' => ∃ k z, z ≠ 0 ∧ e = noG k z ∧ Below w.heap.size w w' := by
  by_cases h1 : L.length ≤ 40
  · by_cases h2 : gErr N T = 0
    · have h3 : opS.err L (cN N) T ≠ 0 := fun h => h0 ⟨h1, h2, h⟩
      refine (all_in opS hN hT zN zT h2 hL h1 zL (fun o _ => apply_all o) (fun o _ => keeps_all o)).mono ?_
      rintro e w' ⟨hB, ⟨h, _⟩ | ⟨_, rfl⟩⟩
      · exact absurd h h3
      · exact ⟨_, _, h3, by rw [errV_ne h3], hB⟩
    · refine (all_wrong hN hT zN zT lN lT hL h1 h2).mono ?_
      rintro e w' ⟨rfl, hB⟩
      exact ⟨_, _, h2, rfl, hB⟩
  · refine (all_full hN hT hL (by omega) lL).mono ?_
    rintro e w' ⟨rfl, hB⟩
    exact ⟨_, _, by decide, rfl, hB⟩
theorem all_yes {vn vt vl : Value} {N : List Nd} {T : List Te} {L : List Opx} {w : World} (hN : IsN w vn N) (hT : IsT w vt T) (zN : SzN N) (zT : SzT T) (hL : IsO w vl L) (zL : ∀ o ∈ L, OpSz o) (h0 : AllOk N T L) :
    Calls Tryz.prog 6 #[.agg #[vn, vt], vl] w fun e w' => ∃ a l c b m d M, e = .returned (.tuple #[.agg #[.slice a l c, .slice b m d], .int .i64 0, .nilIface]) ∧ cN M = (opS.res L (cN N) T).1 ∧ OwnNs w' w.heap.size (.slice a l c) M ∧ OwnTs w' w.heap.size (.slice b m d) (opS.res L (cN N) T).2 ∧ gErr M (opS.res L (cN N) T).2 = 0 ∧ Below w.heap.size w w' := by
  refine (all_in opS hN hT zN zT h0.2.1 hL h0.1 zL (fun o _ => apply_all o) (fun o _ => keeps_all o)).mono ?_
  rintro e w' ⟨hB, ⟨_, un, ut, M, rfl, q1, q2, q3, q4⟩ | ⟨h, _⟩⟩
  · obtain ⟨a, c, e1⟩ := own_slice q2.1
    obtain ⟨b, d, e2⟩ := own_slice q3
    subst e1 e2
    exact ⟨_, _, _, _, _, _, M, rfl, q1, q2, q3, q4, hB⟩
  · exact absurd h0.2.2 h
end Go.Proofs.YtjnjbajnmclmjaaGreat

/-
  What package guard tells, in plain words; the walks of guard.Check and guard.May.
-/
namespace Go.Proofs.YtjnjbajnmclmjaaGreat
open Go.RowKit
set_option linter.unusedVariables false
set_option linter.unusedSimpArgs false

theorem nErr_sz {b : ByteArray} (h : nErr b.data.toList = 0) : b.size ≤ maxLen := by
  have := nErr_short h
  rw [size_len]
  unfold maxLen
  omega
theorem gErr_sz {M : List Nd} {T : List Te} (h : gErr M T = 0) : SzN M ∧ SzT T := by
  obtain ⟨⟨_, _, h1⟩, ⟨_, _, h2⟩⟩ := (gErr_iff M T).1 h
  refine ⟨fun n hn => ?_, fun t ht => ?_⟩
  case refine_2 =>
    have ho := h2 t ht
    unfold teE at ho
    split at ho
    · rename_i h3; exact nErr_sz h3
    · rename_i h3; exact absurd ho h3
  obtain ⟨_, e2, e3⟩ := (ndE_iff n).1 (h1 n hn)
  have := rErr_le e3
  exact ⟨nErr_sz e2, sz_of e3, by unfold maxLen; omega⟩
/-- Faults ask no place of a record. -/
theorem allF_c (L : List Kd) (B : List Bd) (N : List Nd) (T : List Te) : allF L B (cN N) T = allF L B N T := by
  unfold allF nodeF endO cN
  rw [List.foldl_map, List.foldl_map]
  rfl
theorem allF_eq {L : List Kd} {B : List Bd} {N M : List Nd} {T : List Te} (h : cN N = cN M) : allF L B N T = allF L B M T := by
  rw [← allF_c L B N, ← allF_c L B M, h]
/-- Check answers. -/
def CkOk (L : List Kd) (B : List Bd) (N : List Nd) (T : List Te) (O : List Opx) : Prop := inE L B N T = 0 ∧ confB L B N T = true ∧ AllOk N T O
/-- What ops make. -/
def resN (N : List Nd) (T : List Te) (O : List Opx) : List Nd := (opS.res O (cN N) T).1
def resT (N : List Nd) (T : List Te) (O : List Opx) : List Te := (opS.res O (cN N) T).2
theorem resN_c {N M : List Nd} {T : List Te} {O : List Opx} (h : cN M = resN N T O) : cN (resN N T O) = resN N T O := by rw [← h, cN_c]

set_option maxHeartbeats 8000000 in
set_option maxRecDepth 100000 in
theorem gdcheck_yes {vs vg vl : Value} {L : List Kd} {B : List Bd} {N : List Nd} {T : List Te} {O : List Opx} {w : World} (hs : IsSc w vs L B) (hg : IsG w vg N T) (hl : IsO w vl O) (zl : ∀ o ∈ O, OpSz o) (h : CkOk L B N T O) :
    Calls Tryz.prog 12 #[vs, vg, vl] w fun e w' => ∃ u, e = .returned (.tuple #[u, .nilIface]) ∧ OwnX w' w.heap.size u (allF L B (resN N T O) (resT N T O)) ∧ Below w.heap.size w w' := by
  obtain ⟨vk, vb, rfl, hK, hP, hz, hb, hzb⟩ := hs
  obtain ⟨vn, vt, rfl, hN, hT, zN, zT, lN, lT⟩ := hg
  obtain ⟨ak, ck, rfl, hl1⟩ := hK.sln
  obtain ⟨ab, cb, rfl, hl2⟩ := hb.sln
  have HN : Hid (IsN w vn N ∧ IsT w vt T ∧ IsO w vl O) := ⟨hN, hT, hl⟩
  obtain ⟨an, cn, rfl, _⟩ := hN
  obtain ⟨at', ct, rfl, _⟩ := hT
  obtain ⟨ao, co, rfl, _⟩ := hl
  obtain ⟨W0, hW0⟩ : ∃ W0, W0 = box2 w #[.slice ak L.length ck, .slice ab B.length cb] 25 #[.slice an N.length cn, .slice at' T.length ct] 29 := ⟨_, rfl⟩
  have HB0 : Hid (Below w.heap.size w W0) := by rw [hW0]; exact box2_below _ _ _ _ _
  have x0 : W0.cell? ⟨w.heap.size, 0, none⟩ = some (.slice ak L.length ck) := by rw [hW0]; exact box2_a _ _ _ _ _ rfl
  have x1 : W0.cell? ⟨w.heap.size, 1, none⟩ = some (.slice ab B.length cb) := by rw [hW0]; exact box2_a _ _ _ _ _ rfl
  have x2 : W0.cell? ⟨w.heap.size + 1, 0, none⟩ = some (.slice an N.length cn) := by rw [hW0]; exact box2_b _ _ _ _ _ rfl
  have x3 : W0.cell? ⟨w.heap.size + 1, 1, none⟩ = some (.slice at' T.length ct) := by rw [hW0]; exact box2_b _ _ _ _ _ rfl
  have hs0 : W0.heap.size = w.heap.size + 2 := by rw [hW0]; exact box2_size _ _ _ _ _
  have cC := conforms_any (L := L) (B := B) (N := N) (T := T) (w := W0) ⟨_, _, rfl, hK.on HB0.out, hP.on HB0.out, hz, hb.on HB0.out, hzb⟩ ⟨_, _, rfl, HN.out.1.on HB0.out, HN.out.2.1.on HB0.out, zN, zT, lN, lT⟩
  rw [h.1, h.2.1, errV_0] at cC
  have HC : Hid (∀ W, Below W0.heap.size W0 W → Below w.heap.size w W ∧ W.cell? ⟨w.heap.size, 0, none⟩ = some (.slice ak L.length ck) ∧ W.cell? ⟨w.heap.size, 1, none⟩ = some (.slice ab B.length cb) ∧ W.cell? ⟨w.heap.size + 1, 0, none⟩ = some (.slice an N.length cn) ∧ W.cell? ⟨w.heap.size + 1, 1, none⟩ = some (.slice at' T.length ct)) := fun W hB =>
    ⟨on1K HB0.out hB (Nat.le_refl _), (hB.cell (p := ⟨w.heap.size, 0, none⟩) (by show w.heap.size < _; omega)).trans x0, (hB.cell (p := ⟨w.heap.size, 1, none⟩) (by show w.heap.size < _; omega)).trans x1, (hB.cell (p := ⟨w.heap.size + 1, 0, none⟩) (by show w.heap.size + 1 < _; omega)).trans x2, (hB.cell (p := ⟨w.heap.size + 1, 1, none⟩) (by show w.heap.size + 1 < _; omega)).trans x3⟩
  have HA : Hid (∀ W, Below w.heap.size w W → Calls Tryz.prog 6 #[.agg #[.slice an N.length cn, .slice at' T.length ct], .slice ao O.length co] W fun e w' => ∃ a l c b m d M, e = .returned (.tuple #[.agg #[.slice a l c, .slice b m d], .int .i64 0, .nilIface]) ∧ cN M = resN N T O ∧ OwnNs w' W.heap.size (.slice a l c) M ∧ OwnTs w' W.heap.size (.slice b m d) (resT N T O) ∧ gErr M (resT N T O) = 0 ∧ Below W.heap.size W w') := fun W hB => all_yes (HN.out.1.on hB) (HN.out.2.1.on hB) zN zT (HN.out.2.2.on hB) zl h.2.2
  have HF : Hid (∀ W vn' vt' M, Below w.heap.size w W → IsN W vn' M → IsT W vt' (resT N T O) → cN M = resN N T O → gErr M (resT N T O) = 0 → Calls Tryz.prog 26 #[.agg #[.slice ak L.length ck, .slice ab B.length cb], .agg #[vn', vt']] W fun e w' => ∃ a n c, e = .returned (.tuple #[.slice a n c, .nilIface]) ∧ OwnX w' W.heap.size (.slice a n c) (allF L B (resN N T O) (resT N T O)) ∧ Below W.heap.size W w') := fun W vn' vt' M hB h1 h2 h3 h4 => by
    obtain ⟨z1, z2⟩ := gErr_sz h4
    obtain ⟨l1, l2, _⟩ := gErr_lens h4
    have c := faults_any (L := L) (B := B) (N := M) (T := resT N T O) (w := W) ⟨_, _, rfl, hK.on hB, hP.on hB, hz, hb.on hB, hzb⟩ ⟨_, _, rfl, h1, h2, z1, z2, by unfold maxLen; omega, by unfold maxLen; omega⟩
    refine c.mono ?_
    rintro e w' ⟨u, rfl, _, q2, q3⟩
    have he : inE L B M (resT N T O) = 0 := by
      have h0 := h.1
      unfold inE at h0 ⊢
      by_cases hq : (sErr L B).2 = 0
      · rw [if_pos hq]; exact h4
      · rw [if_neg hq] at h0; exact absurd h0 hq
    have ho := q2 he
    have e1 : allF L B M (resT N T O) = allF L B (resN N T O) (resT N T O) := allF_eq (h3.trans (resN_c h3).symm)
    rw [e1] at ho
    obtain ⟨ao, cp, rfl⟩ := own_sliceC ho
    exact ⟨_, _, _, by rw [he, errV_0], ho, q3⟩
  clear hK hP hz hb hzb zN zT lN lT hl1 hl2 zl h
  go_enter Tryz.func12, Tryz.ntmps12
  go_upto_region 1 with fail
  unfold box2 at hW0
  rw [← hW0]
  clear hW0
  go_wp2_with (first | (go_at_call 16; refine cC.mono ?_; rintro e W1 ⟨rfl, hB1⟩; refine Hid.out ?_))
  refine Lib.hid ?_
  obtain ⟨hbw, y0, y1, y2, y3⟩ := HC.out W1 hB1
  have cA := HA.out W1 hbw
  have H1 := Lib.hid (And.intro hbw hB1)
  have hz1 : w.heap.size + 2 ≤ W1.heap.size := by have := hB1.size; omega
  clear hbw hB1 cC x0 x1 x2 x3
  go_wp2_with (first | (go_at_call 6; refine cA.mono ?_; rintro e W2 ⟨a, l, c, b, m, d, M, rfl, hM, o1, o2, g4, hB2⟩; refine Hid.out ?_))
  refine Lib.hid ?_
  obtain ⟨W3, hW3⟩ : ∃ W3, W3 = W2.alloc (.cells #[.slice a l c, .slice b m d] 29) := ⟨_, rfl⟩
  have hB3 : Below W2.heap.size W2 W3 := by rw [hW3]; exact b_alloc (Below.refl _ _) _
  have n3 : W3.heap[W2.heap.size]? = some (.cells #[.slice a l c, .slice b m d] 29 (0, 0)) := by rw [hW3]; exact heap_alloc_new W2 _
  have hB23 := on1K hB2 hB3 (Nat.le_refl _)
  have hB03 := on1K H1.out.2 hB23 (Nat.le_refl _)
  obtain ⟨hbw3, z0, z1, _, _⟩ := HC.out W3 hB03
  have m0 : W3.cell? ⟨W2.heap.size, 0, none⟩ = some (.slice a l c) := cell_at n3 rfl
  have m1 : W3.cell? ⟨W2.heap.size, 1, none⟩ = some (.slice b m d) := cell_at n3 rfl
  have cF := HF.out W3 _ _ M hbw3 ((o1.kt (.of_below hB3) (.of_below hB3)).isN) ((o2.kt (.of_below hB3)).isT) hM g4
  have H3 := Lib.hid hbw3
  have hne : ¬ w.heap.size = W2.heap.size := by have := hB2.size; omega
  clear cA y0 y1 y2 y3 o1 o2 hM g4 hB2 hB3 n3 hB23 hB03 hbw3
  have hW3' := hW3
  go_upto_region 9 with fail
  rw [← hW3']
  clear hW3 hW3'
  go_wp2_with (first | (go_at_call 26; refine cF.mono ?_; rintro e W4 ⟨a5, n5, c5, rfl, ho, hB4⟩))
  go_ret2
  exact ⟨_, rfl, own_base ho H3.out.size, on1K H3.out hB4 (Nat.le_refl _)⟩
end Go.Proofs.YtjnjbajnmclmjaaGreat

/-
  The walk of guard.Check where it tells an error; the walk of guard.May.
-/
namespace Go.Proofs.YtjnjbajnmclmjaaGreat
open Go.RowKit
set_option linter.unusedVariables false
set_option linter.unusedSimpArgs false

set_option maxHeartbeats 8000000 in
set_option maxRecDepth 100000 in
theorem gdcheck_no {vs vg vl : Value} {L : List Kd} {B : List Bd} {N : List Nd} {T : List Te} {O : List Opx} {w : World} (hs : IsSc w vs L B) (hg : IsG w vg N T) (hl : IsO w vl O) (zl : ∀ o ∈ O, OpSz o) (lO : O.length ≤ maxLen) (h : ¬ CkOk L B N T O) :
    Calls Tryz.prog 12 #[vs, vg, vl] w fun e w' => ∃ z, z ≠ 0 ∧ e = .returned (.tuple #[.slice none 0 0, .iface 74 (.int .i64 z)]) ∧ Below w.heap.size w w' := by
  obtain ⟨vk, vb, rfl, hK, hP, hz, hb, hzb⟩ := hs
  obtain ⟨vn, vt, rfl, hN, hT, zN, zT, lN, lT⟩ := hg
  obtain ⟨ak, ck, rfl, hl1⟩ := hK.sln
  obtain ⟨ab, cb, rfl, hl2⟩ := hb.sln
  have HN : Hid (IsN w vn N ∧ IsT w vt T ∧ IsO w vl O) := ⟨hN, hT, hl⟩
  obtain ⟨an, cn, rfl, _⟩ := hN
  obtain ⟨at', ct, rfl, _⟩ := hT
  obtain ⟨ao, co, rfl, _⟩ := hl
  obtain ⟨W0, hW0⟩ : ∃ W0, W0 = box2 w #[.slice ak L.length ck, .slice ab B.length cb] 25 #[.slice an N.length cn, .slice at' T.length ct] 29 := ⟨_, rfl⟩
  have HB0 : Hid (Below w.heap.size w W0) := by rw [hW0]; exact box2_below _ _ _ _ _
  have x0 : W0.cell? ⟨w.heap.size, 0, none⟩ = some (.slice ak L.length ck) := by rw [hW0]; exact box2_a _ _ _ _ _ rfl
  have x1 : W0.cell? ⟨w.heap.size, 1, none⟩ = some (.slice ab B.length cb) := by rw [hW0]; exact box2_a _ _ _ _ _ rfl
  have x2 : W0.cell? ⟨w.heap.size + 1, 0, none⟩ = some (.slice an N.length cn) := by rw [hW0]; exact box2_b _ _ _ _ _ rfl
  have x3 : W0.cell? ⟨w.heap.size + 1, 1, none⟩ = some (.slice at' T.length ct) := by rw [hW0]; exact box2_b _ _ _ _ _ rfl
  have hs0 : W0.heap.size = w.heap.size + 2 := by rw [hW0]; exact box2_size _ _ _ _ _
  have cC := conforms_any (L := L) (B := B) (N := N) (T := T) (w := W0) ⟨_, _, rfl, hK.on HB0.out, hP.on HB0.out, hz, hb.on HB0.out, hzb⟩ ⟨_, _, rfl, HN.out.1.on HB0.out, HN.out.2.1.on HB0.out, zN, zT, lN, lT⟩
  have HC : Hid (∀ W, Below W0.heap.size W0 W → Below w.heap.size w W ∧ W.cell? ⟨w.heap.size + 1, 0, none⟩ = some (.slice an N.length cn) ∧ W.cell? ⟨w.heap.size + 1, 1, none⟩ = some (.slice at' T.length ct)) := fun W hB =>
    ⟨on1K HB0.out hB (Nat.le_refl _), (hB.cell (p := ⟨w.heap.size + 1, 0, none⟩) (by show w.heap.size + 1 < _; omega)).trans x2, (hB.cell (p := ⟨w.heap.size + 1, 1, none⟩) (by show w.heap.size + 1 < _; omega)).trans x3⟩
  by_cases h1 : inE L B N T = 0
  · rw [h1, errV_0] at cC
    by_cases h2 : confB L B N T = true
    · have h3 : ¬ AllOk N T O := fun h3 => h ⟨h1, h2, h3⟩
      rw [h2] at cC
      have HA : Hid (∀ W, Below w.heap.size w W → Calls Tryz.prog 6 #[.agg #[.slice an N.length cn, .slice at' T.length ct], .slice ao O.length co] W fun e w' => ∃ k z, z ≠ 0 ∧ e = noG k z ∧ Below W.heap.size W w') := fun W hB => all_no (HN.out.1.on hB) (HN.out.2.1.on hB) zN zT lN lT (HN.out.2.2.on hB) zl lO h3
      clear hK hP hz hb hzb zN zT lN lT hl1 hl2 zl h h1 h2 h3 lO
      go_enter Tryz.func12, Tryz.ntmps12
      go_upto_region 1 with fail
      unfold box2 at hW0
      rw [← hW0]
      clear hW0
      go_wp2_with (first | (go_at_call 16; refine cC.mono ?_; rintro e W1 ⟨rfl, hB1⟩; refine Hid.out ?_))
      refine Lib.hid ?_
      obtain ⟨hbw, y2, y3⟩ := HC.out W1 hB1
      have cA := HA.out W1 hbw
      have H1 := Lib.hid hbw
      clear hbw hB1 cC x0 x1 x2 x3
      unfold noG at cA
      go_wp2_with (first | (go_at_call 6; refine cA.mono ?_; rintro e W2 ⟨k, z, hz, rfl, hB2⟩; have HZ := Lib.hid hz; clear hz))
      go_ret2
      exact ⟨z, HZ.out, rfl, b_alloc (on1K H1.out hB2 (Nat.le_refl _)) _⟩
    · have h2' : confB L B N T = false := by simpa using h2
      rw [h2'] at cC
      clear hK hP hz hb hzb zN zT lN lT hl1 hl2 zl h h1 h2 h2' lO
      go_enter Tryz.func12, Tryz.ntmps12
      go_upto_region 1 with fail
      unfold box2 at hW0
      rw [← hW0]
      clear hW0
      go_wp2_with (first | (go_at_call 16; refine cC.mono ?_; rintro e W1 ⟨rfl, hB1⟩))
      go_ret2
      exact ⟨6, by decide, rfl, (HC.out W1 hB1).1⟩
  · rw [errV_ne h1] at cC
    obtain ⟨z, hz0⟩ : ∃ z, z = inE L B N T := ⟨_, rfl⟩
    rw [← hz0] at cC h1
    have HZ := Lib.hid h1
    generalize confB L B N T = cf at cC
    clear hK hP hz hb hzb zN zT lN lT hl1 hl2 zl h lO hz0 h1
    go_enter Tryz.func12, Tryz.ntmps12
    go_upto_region 1 with fail
    unfold box2 at hW0
    rw [← hW0]
    clear hW0
    go_wp2_with (first | (go_at_call 16; refine cC.mono ?_; rintro e W1 ⟨rfl, hB1⟩))
    go_ret2
    exact ⟨z, HZ.out, rfl, (HC.out W1 hB1).1⟩

/-- May they be done? -/
def mayB (L : List Kd) (B : List Bd) (N : List Nd) (T : List Te) (O : List Opx) : Bool := decide ((allF L B (resN N T O) (resT N T O)).length = 0)
theorem isSc_sl {w : World} {v : Value} {L : List Kd} {B : List Bd} (h : IsSc w v L B) : ∃ a n c b m d, v = .agg #[.slice a n c, .slice b m d] := by
  obtain ⟨vk, vb, rfl, hK, _, _, hb, _⟩ := h
  obtain ⟨ak, ck, rfl, _⟩ := hK.sln
  obtain ⟨ab, cb, rfl, _⟩ := hb.sln
  exact ⟨_, _, _, _, _, _, rfl⟩
theorem isG_sl {w : World} {v : Value} {N : List Nd} {T : List Te} (h : IsG w v N T) : ∃ a n c b m d, v = .agg #[.slice a n c, .slice b m d] := by
  obtain ⟨vn, vt, rfl, ⟨an, cn, rfl, _⟩, ⟨am, cm, rfl, _⟩, _⟩ := h
  exact ⟨_, _, _, _, _, _, rfl⟩
theorem isO_sl {w : World} {v : Value} {O : List Opx} (h : IsO w v O) : ∃ a n c, v = .slice a n c := by
  obtain ⟨ao, co, rfl, _⟩ := h
  exact ⟨_, _, _, rfl⟩
set_option maxHeartbeats 8000000 in
set_option maxRecDepth 100000 in
theorem may_yes {vs vg vl : Value} {L : List Kd} {B : List Bd} {N : List Nd} {T : List Te} {O : List Opx} {w : World} (hs : IsSc w vs L B) (hg : IsG w vg N T) (hl : IsO w vl O) (zl : ∀ o ∈ O, OpSz o) (h : CkOk L B N T O) :
    Calls Tryz.prog 13 #[vs, vg, vl] w fun e w' => e = .returned (.tuple #[.bool (mayB L B N T O), .nilIface]) ∧ Below w.heap.size w w' := by
  obtain ⟨a1, n1, c1, b1, m1, d1, rfl⟩ := isSc_sl hs
  obtain ⟨a2, n2, c2, b2, m2, d2, rfl⟩ := isG_sl hg
  obtain ⟨a3, n3, c3, rfl⟩ := isO_sl hl
  have HB0 : Hid (Below w.heap.size w (box2 w #[.slice a1 n1 c1, .slice b1 m1 d1] 25 #[.slice a2 n2 c2, .slice b2 m2 d2] 29)) := box2_below _ _ _ _ _
  have c : Calls Tryz.prog 12 #[.agg #[.slice a1 n1 c1, .slice b1 m1 d1], .agg #[.slice a2 n2 c2, .slice b2 m2 d2], .slice a3 n3 c3] (box2 w #[.slice a1 n1 c1, .slice b1 m1 d1] 25 #[.slice a2 n2 c2, .slice b2 m2 d2] 29) fun e w' => ∃ ao cp, e = .returned (.tuple #[.slice ao (allF L B (resN N T O) (resT N T O)).length cp, .nilIface]) ∧ Below (box2 w #[.slice a1 n1 c1, .slice b1 m1 d1] 25 #[.slice a2 n2 c2, .slice b2 m2 d2] 29).heap.size (box2 w #[.slice a1 n1 c1, .slice b1 m1 d1] 25 #[.slice a2 n2 c2, .slice b2 m2 d2] 29) w' := by
    refine (gdcheck_yes (hs.on HB0.out) (hg.on HB0.out) (hl.on HB0.out) zl h).mono ?_
    rintro e w' ⟨u, rfl, ho, hB⟩
    obtain ⟨ao, cp, rfl⟩ := own_sliceC ho
    exact ⟨ao, cp, rfl, hB⟩
  have HE : Hid (mayB L B N T O = (((allF L B (resN N T O) (resT N T O)).length : Int) == 0)) := by
    show _ = _
    unfold mayB
    by_cases h : (allF L B (resN N T O) (resT N T O)).length = 0
    · rw [h]; rfl
    · have h' : ¬ ((allF L B (resN N T O) (resT N T O)).length : Int) = 0 := by omega
      simp [h, h']
  generalize (allF L B (resN N T O) (resT N T O)).length = m at c HE
  clear hs hg hl zl h
  go_enter Tryz.func13, Tryz.ntmps13
  go_wp2_with (go_at_call 12; refine c.mono ?_; rintro e W1 ⟨ao, cp, rfl, hB1⟩)
  go_ret2
  exact ⟨ret_v (by rw [HE.out]; rfl), on1K HB0.out hB1 (Nat.le_refl _)⟩
set_option maxHeartbeats 8000000 in
set_option maxRecDepth 100000 in
theorem may_no {vs vg vl : Value} {L : List Kd} {B : List Bd} {N : List Nd} {T : List Te} {O : List Opx} {w : World} (hs : IsSc w vs L B) (hg : IsG w vg N T) (hl : IsO w vl O) (zl : ∀ o ∈ O, OpSz o) (lO : O.length ≤ maxLen) (h : ¬ CkOk L B N T O) :
    Calls Tryz.prog 13 #[vs, vg, vl] w fun e w' => ∃ z, z ≠ 0 ∧ e = .returned (.tuple #[.bool false, .iface 74 (.int .i64 z)]) ∧ Below w.heap.size w w' := by
  obtain ⟨a1, n1, c1, b1, m1, d1, rfl⟩ := isSc_sl hs
  obtain ⟨a2, n2, c2, b2, m2, d2, rfl⟩ := isG_sl hg
  obtain ⟨a3, n3, c3, rfl⟩ := isO_sl hl
  have HB0 : Hid (Below w.heap.size w (box2 w #[.slice a1 n1 c1, .slice b1 m1 d1] 25 #[.slice a2 n2 c2, .slice b2 m2 d2] 29)) := box2_below _ _ _ _ _
  have c := gdcheck_no (hs.on HB0.out) (hg.on HB0.out) (hl.on HB0.out) zl lO h
  clear hs hg hl zl h
  go_enter Tryz.func13, Tryz.ntmps13
  go_wp2_with (go_at_call 12; refine c.mono ?_; rintro e W1 ⟨z, hz, rfl, hB1⟩; have HZ := Lib.hid hz; clear hz)
  go_ret2
  exact ⟨z, HZ.out, rfl, on1K HB0.out hB1 (Nat.le_refl _)⟩
end Go.Proofs.YtjnjbajnmclmjaaGreat

/-
  A row of nodes is right: the mathematics of CheckRow.
-/
namespace Go.Proofs.YtjnjbajnmclmjaaGreat
open Go.RowKit
set_option linter.unusedVariables false
set_option linter.unusedSimpArgs false

/-- The field and the bond of the simple schema. -/
def fdK : Fd := ⟨[107], 1, true, true⟩
def bdP (mx : Int) : Bd := ⟨[112], [97], [97], 0, mx⟩
/-- Its kind; the two values are where what it has lies. -/
def kdA (vo vf : Value) : Kd := ⟨[97], [], [fdK], vo, vf⟩
def shA (mx : Int) : Sh := ⟨[[97]], [fdK], [bdP mx]⟩
theorem shp_a (vo vf : Value) (mx : Int) : shp [kdA vo vf] [bdP mx] [97] = shA mx := by rfl
theorem shO_a (vo vf : Value) (mx : Int) : shO [kdA vo vf] [bdP mx] [kdA vo vf] ⟨#[97]⟩ = some (shA mx) := by rfl
theorem bdO_p (mx : Int) : bdO [bdP mx] ⟨#[112]⟩ = some (bdP mx) := by rfl
theorem sErr_a (vo vf : Value) {mx : Int} (h : mx = -1 ∨ (0 ≤ mx ∧ mx ≤ 20)) : (sErr [kdA vo vf] [bdP mx]).2 = 0 := by
  have h1 : (ksErr [kdA vo vf]).2 = 0 := by kernel_rfl
  unfold sErr
  rw [if_pos h1, if_neg (by simp)]
  unfold bsGo
  have h2 : bErr [kdA vo vf] [] (bdP mx) = 0 := by
    unfold bErr
    have e1 : nErr (bdP mx).nm = 0 := by show nErr [112] = 0; decide
    have e2 : idxB (bdP mx).nm [] 0 = -1 := rfl
    have e3 : hasK [kdA vo vf] (bdP mx).fr = true := by rfl
    have e4 : hasK [kdA vo vf] (bdP mx).tt = true := by rfl
    have e5 : inRB (bdP mx).mn (bdP mx).mx = true := by
      rw [inR_iff]
      show (0 : Int) ≤ 0 ∧ (0 : Int) ≤ 20 ∧ (mx = -1 ∨ ((0 : Int) ≤ mx ∧ mx ≤ 20))
      omega
    rw [if_pos e1, if_pos e2, if_pos e3, if_pos e4, if_pos e5]
  rw [if_pos h2]
  rfl

/-- The key of a number. -/
def keyN (i : Int) : KeyV := (⟨#[107]⟩, 1, i, ⟨#[]⟩)
/-- What is taken behind so many nodes. -/
def takeN : Nat → Tk
  | 0 => fun _ => none
  | k + 1 => upd (takeN k) (keyN ((k : Int) + 1)) ((k : Int) + 1)
theorem keyN_inj {i j : Int} (h : keyN i = keyN j) : i = j := by
  unfold keyN at h
  simp at h
  exact h
theorem takeN_new : ∀ (k : Nat) (i : Int), (k : Int) < i → takeN k (keyN i) = none
  | 0, _, _ => rfl
  | k + 1, i, h => by
    unfold takeN upd
    rw [if_neg (fun e => by have := keyN_inj e; omega)]
    exact takeN_new k i (by omega)
theorem takeN_old : ∀ (k : Nat) (i : Int), 1 ≤ i → i ≤ k → takeN k (keyN i) = some i
  | 0, i, h1, h2 => by omega
  | k + 1, i, h1, h2 => by
    unfold takeN upd
    split
    · rename_i e; rw [keyN_inj e]
    · rename_i e
      refine takeN_old k i h1 ?_
      have : i ≠ (k : Int) + 1 := fun h => e (by rw [h])
      omega
theorem nm_a (i : Int) : (prK i).nm.toList = [107] := by
  show (⟨#[107]⟩ : ByteArray).toList = [107]
  rw [Lib.toList_data]
theorem prop_a (mx : Int) (id i : Int) : propF (shA mx).fs id [prK i] = [] := by
  show propS [fdK] id [] (prK i) = []
  have h : fits [fdK] (prK i) = true := by
    unfold fits fit1
    simp only [List.any_cons, List.any_nil, nm_a]
    rfl
  unfold propS
  rw [if_pos h]
theorem getP_a (i : Int) : getP [107] [prK i] = some (prK i) := by
  have h : idxP [107] [prK i] 0 = 0 := by
    unfold idxP
    rw [nm_a, if_pos (by decide)]
    rfl
  unfold getP
  rw [h, if_neg (by decide)]
  rfl
theorem noF_a (i : Int) : noF [prK i] fdK = false := by
  unfold noF
  show (true && (getP [107] [prK i]).isNone) = false
  rw [getP_a]
  rfl
theorem keyP_a (i : Int) : keyP [prK i] fdK = keyN i := by
  unfold keyP
  show (bs [107], valP (getP [107] [prK i])) = _
  rw [getP_a]
  rfl
theorem nodeS_eq (H : ByteArray → Option Sh) (O : Ou) (S : List Ft × Tk) (n : Nd) : nodeS H O S n = (S.1 ++ (ownF (H n.kd) n S.2).1 ++ bondF ((H n.kd).getD sh0).bn n.id O, (ownF (H n.kd) n S.2).2) := rfl
theorem sameF_a (i : Int) (T : Tk) : sameF [prK i] T fdK = ((T (keyN i)).getD 0 != 0) := by
  unfold sameF
  rw [keyP_a]
  show ((true && (valP (getP [107] [prK i])).1 == 1) && _) = _
  rw [getP_a]
  rfl
theorem own_new (mx : Int) {n : Nd} {i : Int} (hr : n.rc = [prK i]) {T : Tk} (hT : T (keyN i) = none) : ownF (some (shA mx)) n T = ([], upd T (keyN i) n.id) := by
  have h1 : sameF [prK i] T fdK = false := by rw [sameF_a, hT]; rfl
  have h2 : fieldS n.id [prK i] ([], T) fdK = ([], upd T (keyP [prK i] fdK) n.id) := fieldS_put (noF_a i) h1 rfl
  rw [keyP_a] at h2
  unfold ownF
  simp only
  rw [hr, prop_a]
  have e : fieldF (shA mx).fs n.id [prK i] T = ([], upd T (keyN i) n.id) := h2
  rw [e]
  rfl
theorem own_old (mx : Int) {n : Nd} {i : Int} (hr : n.rc = [prK i]) {T : Tk} {j : Int} (hT : T (keyN i) = some j) (hj : j ≠ 0) : (ownF (some (shA mx)) n T).1 = [⟨4, n.id, ⟨#[107]⟩⟩] := by
  have h1 : sameF [prK i] T fdK = true := by rw [sameF_a, hT]; simpa using hj
  have h2 : fieldS n.id [prK i] ([], T) fdK = ([⟨4, n.id, bs fdK.nm⟩], T) := fieldS_same (noF_a i) h1
  unfold ownF
  simp only
  rw [hr, prop_a]
  have e : fieldF (shA mx).fs n.id [prK i] T = ([⟨4, n.id, bs fdK.nm⟩], T) := h2
  rw [e]
  rfl
theorem outO_s (m : Nat) : outO (rowT (m + 1)) = outS (outO (rowT m)) (tK m) := by
  unfold outO
  rw [rowT_s, List.foldl_append]
  rfl
theorem out_row : ∀ (m : Nat) (i : Int), (outO (rowT m) (⟨#[112]⟩, i)).getD 0 = if 1 ≤ i ∧ i ≤ m then 1 else 0
  | 0, i => by rw [if_neg (by omega)]; rfl
  | m + 1, i => by
    have ih := out_row m i
    have ih2 := out_row m ((m : Int) + 1)
    rw [if_neg (by omega)] at ih2
    rw [outO_s]
    show (upd (outO (rowT m)) (⟨#[112]⟩, (m : Int) + 1) ((outO (rowT m) (⟨#[112]⟩, (m : Int) + 1)).getD 0 + 1) (⟨#[112]⟩, i)).getD 0 = _
    rw [ih2]
    unfold upd
    by_cases h : i = (m : Int) + 1
    · subst h
      rw [if_pos rfl, if_pos (by omega)]
      rfl
    · rw [if_neg (by simpa using h), ih]
      by_cases h2 : 1 ≤ i ∧ i ≤ (m : Int)
      · rw [if_pos h2, if_pos (by omega)]
      · rw [if_neg h2, if_neg (by omega)]
theorem bond_row (m : Nat) (id mx : Int) : bondF [bdP mx] id (outO (rowT m)) = if mx = 0 ∧ 1 ≤ id ∧ id ≤ m then [⟨8, id, ⟨#[112]⟩⟩] else [] := by
  have hc : cnt (outO (rowT m)) id (bdP mx) = if 1 ≤ id ∧ id ≤ m then 1 else 0 := out_row m id
  show bondS id (outO (rowT m)) [] (bdP mx) = _
  have hmn : (bdP mx).mn = 0 := rfl
  have hmx : (bdP mx).mx = mx := rfl
  have h0 : ¬ cnt (outO (rowT m)) id (bdP mx) < (bdP mx).mn := by
    rw [hc, hmn]; split <;> omega
  by_cases h : mx = 0 ∧ 1 ≤ id ∧ id ≤ m
  · rw [if_pos h, bondS_many h0 (by rw [hmx]; omega) (by rw [hmx, hc, if_pos h.2]; omega)]
    rfl
  · rw [if_neg h, bondS_ok h0]
    rw [hmx, hc]
    by_cases h2 : 1 ≤ id ∧ id ≤ (m : Int)
    · rw [if_pos h2]; omega
    · rw [if_neg h2]; omega
/-- A row of nodes with these keys. -/
def RowP (N : List Nd) (κ : Nat → Int) : Prop := ∀ (j : Nat) (x : Nd), N[j]? = some x → x.id = (j : Int) + 1 ∧ x.kd = ⟨#[97]⟩ ∧ x.rc = [prK (κ j)]
theorem node_row {H : ByteArray → Option Sh} {mx : Int} (hH : H ⟨#[97]⟩ = some (shA mx)) {N : List Nd} {κ : Nat → Int} (hN : RowP N κ) (m : Nat) : ∀ k : Nat, k ≤ N.length → (∀ j, j < k → κ j = (j : Int) + 1) →
    ((N.take k).foldl (nodeS H (outO (rowT m))) ([], fun _ => none)).2 = takeN k ∧ ((N.take k).foldl (nodeS H (outO (rowT m))) ([], fun _ => none)).1.length = if mx = 0 then min k m else 0
  | 0, _, _ => by
    refine ⟨rfl, ?_⟩
    split <;> simp
  | k + 1, hk, hκ => by
    obtain ⟨x, hx⟩ : ∃ x, N[k]? = some x := ⟨N[k], by simp⟩
    obtain ⟨h1, h2, h3⟩ := hN k x hx
    obtain ⟨i1, i2⟩ := node_row hH hN m k (by omega) (fun j hj => hκ j (by omega))
    rw [foldl_take _ _ hx]
    rw [nodeS_eq, h2, hH, i1]
    rw [hκ k (by omega)] at h3
    rw [own_new mx h3 (takeN_new k _ (by omega)), h1]
    refine ⟨rfl, ?_⟩
    show (_ ++ _ ++ bondF [bdP mx] ((k : Int) + 1) (outO (rowT m))).length = _
    rw [bond_row, List.length_append, List.length_append, i2]
    by_cases hm0 : mx = 0
    · by_cases hkm : k < m
      · rw [if_pos hm0, if_pos ⟨hm0, by omega, by omega⟩, if_pos hm0]; simp; omega
      · rw [if_pos hm0, if_neg (by omega), if_pos hm0]; simp; omega
    · rw [if_neg hm0, if_neg (fun h => hm0 h.1), if_neg hm0]; rfl
theorem end_row {H : ByteArray → Option Sh} {mx : Int} (hH : H ⟨#[97]⟩ = some (shA mx)) {N : List Nd} {κ : Nat → Int} (hN : RowP N κ) : ∀ k : Nat, k ≤ N.length → ∀ i : Int, 1 ≤ i → i ≤ k → endO H (N.take k) i = some (shA mx)
  | 0, _, i, h1, h2 => by omega
  | k + 1, hk, i, h1, h2 => by
    obtain ⟨x, hx⟩ : ∃ x, N[k]? = some x := ⟨N[k], by simp⟩
    obtain ⟨g1, g2, _⟩ := hN k x hx
    rw [endO_take hx, g2, hH, g1]
    unfold upd
    split
    · rfl
    · rename_i hne
      exact end_row hH hN k (by omega) i h1 (by omega)
theorem tie_row {X : ByteArray → Option Bd} {E : En} {mx : Int} (hX : X ⟨#[112]⟩ = some (bdP mx)) : ∀ m : Nat, (∀ i : Int, 1 ≤ i → i ≤ (m : Int) + 1 → E i = some (shA mx)) → tieF X E (rowT m) = []
  | 0, _ => rfl
  | m + 1, hE => by
    have ih := tie_row hX m (fun i h1 h2 => hE i h1 (by omega))
    unfold tieF at ih ⊢
    rw [rowT_s, List.foldl_append, ih]
    have hb : badE E (tK m) (bdP mx) = false := by
      unfold badE
      have e1 : E (tK m).fr = some (shA mx) := hE _ (by show (1 : Int) ≤ (m : Int) + 1; omega) (by show (m : Int) + 1 ≤ ((m + 1 : Nat) : Int) + 1; omega)
      have e2 : E (tK m).tt = some (shA mx) := hE _ (by show (1 : Int) ≤ (m : Int) + 1 + 1; omega) (by show (m : Int) + 1 + 1 ≤ ((m + 1 : Nat) : Int) + 1; omega)
      rw [e1, e2]
      rfl
    exact tieS_ok (t := tK m) hX hb
/-- A row of its own keys. -/
theorem row_all {vo vf : Value} {mx : Int} {N : List Nd} (hN : RowP N (fun j => (j : Int) + 1)) {m : Nat} (hm : m + 1 ≤ N.length) : (allF [kdA vo vf] [bdP mx] N (rowT m)).length = if mx = 0 then m else 0 := by
  unfold allF
  have hH := shO_a vo vf mx
  have h1 := (node_row hH hN m N.length (Nat.le_refl _) (fun _ _ => rfl)).2
  rw [List.take_length] at h1
  have h2 := tie_row (E := endO (shO [kdA vo vf] [bdP mx] [kdA vo vf]) N) (bdO_p mx) m (fun i a b => by
    have := end_row hH hN N.length (Nat.le_refl _) i a (by omega)
    rwa [List.take_length] at this)
  rw [h2, List.append_nil]
  unfold nodeF
  rw [h1]
  split
  · omega
  · rfl
/-- The last one has another one's key. -/
theorem row_same {vo vf : Value} {N : List Nd} {κ : Nat → Int} (hN : RowP N κ) {n : Nat} (hn : N.length = n + 1) (hκ : ∀ j, j < n → κ j = (j : Int) + 1) (h1 : 1 ≤ κ n) (h2 : κ n ≤ n) : allF [kdA vo vf] [bdP (-1)] N (rowT n) = [⟨4, (n : Int) + 1, ⟨#[107]⟩⟩] := by
  unfold allF
  have hH := shO_a vo vf (-1)
  obtain ⟨i1, i2⟩ := node_row hH hN n n (by omega) hκ
  have h3 := tie_row (E := endO (shO [kdA vo vf] [bdP (-1)] [kdA vo vf]) N) (bdO_p (-1)) n (fun i a b => by
    have := end_row hH hN N.length (Nat.le_refl _) i a (by omega)
    rwa [List.take_length] at this)
  rw [h3, List.append_nil]
  obtain ⟨x, hx⟩ : ∃ x, N[n]? = some x := ⟨N[n], by simp⟩
  obtain ⟨g1, g2, g3⟩ := hN n x hx
  have hs := foldl_take (nodeS (shO [kdA vo vf] [bdP (-1)] [kdA vo vf]) (outO (rowT n))) ([], fun _ => none) hx
  rw [show n + 1 = N.length from hn.symm, List.take_length] at hs
  unfold nodeF
  rw [hs]
  have i3 := List.eq_nil_of_length_eq_zero (i2.trans (by simp))
  rw [nodeS_eq, g2, hH, i1, i3]
  have ho := own_old (-1) g3 (takeN_old n (κ n) h1 h2) (by omega)
  show [] ++ (ownF (some (shA (-1))) x (takeN n)).1 ++ bondF [bdP (-1)] x.id (outO (rowT n)) = _
  rw [ho, bond_row, if_neg (by omega), g1]
  rfl
end Go.Proofs.YtjnjbajnmclmjaaGreat
