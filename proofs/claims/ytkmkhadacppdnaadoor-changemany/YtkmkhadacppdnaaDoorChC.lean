/-
  The walks of change.dropBond and change.setRange.
-/
import Derived.Test.YtkmkhadacppdnaaDoorChA
import Derived.Test.YtkmkhadacppdnaaDoorChM
import Derived.Test.YtkmkhadacppdnaaDoorDlB
namespace Go.Proofs.YtkmkhadacppdnaaDoor
open Go.RowKit
set_option linter.unusedVariables false
set_option linter.unusedSimpArgs false

theorem idxB_has {n : Nm} {B : List Bd} (h : ¬ idxB n B 0 = -1) : ∃ (j : Nat) (q : Bd), idxB n B 0 = (j : Int) ∧ bAt B n = j ∧ B[j]? = some q ∧ q.nm = n := by
  rcases idxB_spec n B 0 with h1 | ⟨j, q, h1, h2, h3⟩
  · exact absurd h1 h
  · rw [Nat.zero_add] at h1
    exact ⟨j, q, h1, by unfold bAt; rw [h1]; rfl, h2, h3⟩
set_option maxHeartbeats 2000000 in
theorem dropBond_no {w : World} {base p : Nat} {L : List Kd} {B : List Bd} (h : OSc w base p L B) (hn : B.length ≤ 12) (n : Nm) (hx : idxB n B 0 = -1) :
    Calls Tryd.prog 28 #[.pointer (some ⟨p, 0, none⟩), .string (bs n)] w fun e w' => e = .returned (errV 5) ∧ Below w.heap.size w w' := by
  obtain ⟨vk, vb, hp, hX, hK, hA, hT⟩ := h
  have hc := findBond_any hT.isB hn n
  rw [hx] at hc
  obtain ⟨a, c, rfl⟩ := own_slice hT
  have c0 : w.cell? ⟨p, 1, none⟩ = some (.slice a B.length c) := cell_at hX rfl
  clear hT hK hA hX hx
  go_enter Tryd.func28, Tryd.ntmps28
  go_wp2_with (go_at_call 56; refine hc.mono ?_; rintro e w' ⟨rfl, hB⟩)
  go_ret
  exact ⟨rfl, hB⟩
set_option maxHeartbeats 4000000 in
set_option maxRecDepth 100000 in
theorem dropBond_yes {w : World} {base p : Nat} {L : List Kd} {B : List Bd} (h : OSc w base p L B) (hbase : base ≤ w.heap.size) (hn : B.length ≤ 12) (n : Nm) (hx : ¬ idxB n B 0 = -1) :
    Calls Tryd.prog 28 #[.pointer (some ⟨p, 0, none⟩), .string (bs n)] w fun e w' => e = .returned (errV 0) ∧ OSc w' base p L (B.eraseIdx (bAt B n)) ∧ Below base w w' := by
  obtain ⟨vk, vb, hp, hX, hK, hA, hT⟩ := h
  obtain ⟨j, q, hj, hat, hq, _⟩ := idxB_has hx
  have hc := findBond_any hT.isB hn n
  rw [hj] at hc
  rw [hat]
  have hjl := (List.getElem?_eq_some_iff.1 hq).1
  obtain ⟨a, c, rfl⟩ := own_slice hT
  have c0 : w.cell? ⟨p, 1, none⟩ = some (.slice a B.length c) := cell_at hX rfl
  have HH : Hid (base ≤ p ∧ w.heap[p]? = some (.cells #[vk, .slice a B.length c] 25 (0, 0)) ∧ OwnKs w base vk L ∧ Apt L ∧ OwnBs w base (.slice a B.length c) B) := ⟨hp, hX, hK, hA, hT⟩
  have hj12 : j < 12 := by omega
  have hjn : ¬ (j : Int) < 0 := by omega
  clear hT hK hA hX hx hj hat hq hp
  go_enter Tryd.func28, Tryd.ntmps28
  go_wp2_with (go_at_call 56; refine hc.mono ?_; rintro e w1 ⟨rfl, hB1⟩; refine Hid.out ?_)
  refine Lib.hid ?_
  obtain ⟨hp, hX, hK, hA, hT⟩ := HH.out
  have hX1 := (hB1.block p (Array.getElem?_eq_some_iff.1 hX).1).trans hX
  have hT1 : OwnBs w1 base (.slice a B.length c) B := own_kt hT (.of_below hB1)
  have hK1 := hK.kt (.of_below hB1) (.of_below hB1) (.of_below hB1)
  have d0 : w1.cell? ⟨p, 1, none⟩ = some (.slice a B.length c) := cell_at hX1 rfl
  have cd := deleteB_any hT1 (bd_oneI B) (by omega) j hjl
  have HS : Hid (∀ w2 v2, w1.grownBy w2 (Value.slice a B.length c).ownBlock → w2.ownsRow base 36 5 v2 (B.eraseIdx j).length (cellsBd (B.eraseIdx j)) → (w2.cell? ⟨p, 1, none⟩ = some (.slice a B.length c) ∧ w2.frozen? ⟨p, 1, none⟩ = false) ∧ OSc (w2.setCell ⟨p, 1, none⟩ v2) base p L (B.eraseIdx j) ∧ Below base w (w2.setCell ⟨p, 1, none⟩ v2)) := fun w2 v2 g1 g2 => by
    obtain ⟨r1, r2, r3⟩ := osc_setB hp hX1 hK1 hA hT1 (Nat.le_trans hbase hB1.size) g1 g2
    exact ⟨r1, r2, (hB1.mono hbase).trans r3⟩
  clear hX hK hA hT hX1 hT1 hK1 c0 HH hc
  go_wp2_with (go_at_call 57; refine cd.mono ?_; rintro e w2 ⟨v2, rfl, ho2, hg2, _⟩; obtain ⟨⟨z0, z1⟩, z2⟩ := HS.out w2 v2 hg2 ho2; obtain ⟨a2, c2, rfl⟩ := own_slice ho2; have HZ := Lib.hid z2; clear z2 ho2 hg2)
  go_ret
  exact ⟨rfl, HZ.out⟩

/-- A bond's range in a row of the call's own. -/
theorem cells_setR (B : List Bd) (j : Nat) (x : Bd) (hx : B[j]? = some x) (mn mx : Int) : cellsBd (B.set j { x with mn := mn, mx := mx }) = ((cellsBd B).set (j * 5 + 3) (.int .i64 mn)).set (j * 5 + 4) (.int .i64 mx) := by
  apply List.ext_getElem?
  intro i
  unfold cellsBd
  have hjl := (List.getElem?_eq_some_iff.1 hx).1
  have hl : (List.flatMap Bd.cells B).length = B.length * 5 := flatK_len bd_len B
  by_cases hi : i < B.length * 5
  · have hq : i / 5 < B.length := by omega
    have hr : i % 5 < 5 := Nat.mod_lt _ (by omega)
    have ei : i = i / 5 * 5 + i % 5 := by omega
    obtain ⟨y, hy⟩ : ∃ y, B[i / 5]? = some y := ⟨B[i / 5], by simp [hq]⟩
    by_cases e : i / 5 = j
    · rw [e] at hy ei
      obtain rfl : x = y := Option.some.inj (hx.symm.trans hy)
      have h2 : (B.set j ({ x with mn := mn, mx := mx } : Bd))[j]? = some { x with mn := mn, mx := mx } := by simp [hjl]
      rw [ei, flatK bd_len _ j _ (i % 5) h2 hr, List.getElem?_set, List.getElem?_set]
      have h3 := flatK bd_len B j x (i % 5) hy hr
      have hc : i % 5 = 0 ∨ i % 5 = 1 ∨ i % 5 = 2 ∨ i % 5 = 3 ∨ i % 5 = 4 := by omega
      rcases hc with c | c | c | c | c
      · rw [if_neg (by omega), if_neg (by omega), h3, c]; rfl
      · rw [if_neg (by omega), if_neg (by omega), h3, c]; rfl
      · rw [if_neg (by omega), if_neg (by omega), h3, c]; rfl
      · rw [if_neg (by omega), if_pos (by omega), if_pos (by rw [hl]; omega), c]; rfl
      · rw [if_pos (by omega), if_pos (by rw [List.length_set, hl]; omega), c]; rfl
    · have h2 : (B.set j ({ x with mn := mn, mx := mx } : Bd))[i / 5]? = some y := by rw [List.getElem?_set, if_neg (Ne.symm e)]; exact hy
      rw [List.getElem?_set, if_neg (by omega), List.getElem?_set, if_neg (by omega), ei, flatK bd_len _ (i / 5) y (i % 5) h2 hr, flatK bd_len B (i / 5) y (i % 5) hy hr]
  · rw [List.getElem?_eq_none (by rw [flatK_len bd_len, List.length_set]; omega), List.getElem?_eq_none (by rw [List.length_set, List.length_set, flatK_len bd_len]; omega)]
end Go.Proofs.YtkmkhadacppdnaaDoor
