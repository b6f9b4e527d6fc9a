/-
  The walk of the law RowsSum.
-/
import Derived.Test.YtodddcacngjadaaDoorRwP
import Derived.Test.YtodddcacngjadaaDoorFulC
namespace Go.Proofs.YtodddcacngjadaaDoor
open Go.RowKit
set_option linter.unusedVariables false
set_option linter.unusedSimpArgs false

theorem hndOn {w w' : World} (hg : Hnd w) (hb : Below w.heap.size w w') : Hnd w' := by
  have hlt : 0 < w.heap.size := by
    rcases Nat.eq_zero_or_pos w.heap.size with h0 | h
    · have hg' : w.cell? ⟨0, 0, none⟩ = _ := hg
      simp [World.cell?, h0] at hg'
    · exact h
  exact (hb.cell (p := ⟨0, 0, none⟩) hlt).trans hg
set_option maxHeartbeats 4000000 in
theorem error_gen (x y : Int) (w : World) (hg : Hnd w) : Calls Tryd.prog 6 #[errV x, .int .i64 y] w fun e w' => e = .returned (.bool (x == y)) ∧ Below w.heap.size w w' := by
  go_enter Tryd.func6, Tryd.ntmps6
  go_wp2_with (go_at_call 15; refine (told_any x _ hg).mono ?_; rintro e w' ⟨rfl, hb⟩)
  go_ret
  exact ⟨rfl, hb⟩
/-- The sum of a row. -/
theorem sum_row : ∀ (L : List Rv) (m : Nat) (c : Int), (∀ (j : Nat) x, L[j]? = some x → x.rc = [prK (((m + j : Nat) : Int) + 1)]) → ∃ s, sumG c (haveL [107] L) = (s, 0) ∧ 2 * (s - c) = (L.length : Int) * (2 * (m : Int) + (L.length : Int) + 1)
  | [], m, c, _ => ⟨c, rfl, by simp⟩
  | x :: r, m, c, h => by
    have h0 := h 0 x rfl
    rw [Nat.add_zero] at h0
    have hp : prOf [107] x.rc = some (prK ((m : Int) + 1)) := by
      rw [h0]; unfold prOf
      rw [List.find?_cons_of_pos (by show ((⟨#[107]⟩ : ByteArray).toList == [107]) = true; rw [Lib.toList_data]; rfl)]
    have hh : haveL [107] (x :: r) = ⟨x, 1, (m : Int) + 1, ⟨#[]⟩⟩ :: haveL [107] r := by
      unfold haveL
      rw [List.filterMap_cons_some (b := ⟨x, 1, (m : Int) + 1, ⟨#[]⟩⟩) (by unfold hvOf; rw [hp]; rfl)]
    obtain ⟨s, h1, h2⟩ := sum_row r (m + 1) (c + ((m : Int) + 1)) (fun j y hy => by
      have := h (j + 1) y (by simpa using hy)
      rwa [show m + (j + 1) = m + 1 + j by omega] at this)
    refine ⟨s, ?_, ?_⟩
    · rw [hh, sumG, if_pos rfl]; exact h1
    · rw [List.length_cons]
      simp only [Int.natCast_add, Int.natCast_one] at h2 ⊢
      generalize (r.length : Int) = z at h2 ⊢
      generalize (m : Int) = y at h2 ⊢
      have e1 : z * (2 * (y + 1) + z + 1) = 2 * (z * y) + z * z + 3 * z := by
        simp only [Int.mul_add, Int.mul_one]
        have : z * (2 * y) = 2 * (z * y) := by rw [← Int.mul_assoc, Int.mul_comm z 2, Int.mul_assoc]
        omega
      have e2 : (z + 1) * (2 * y + (z + 1) + 1) = 2 * (z * y) + z * z + 3 * z + 2 * y + 2 := by
        simp only [Int.mul_add, Int.add_mul, Int.mul_one, Int.one_mul]
        have : z * (2 * y) = 2 * (z * y) := by rw [← Int.mul_assoc, Int.mul_comm z 2, Int.mul_assoc]
        omega
      rw [e1] at h2
      rw [e2]
      omega
theorem rows_ok {L : List Rv} {n : Nat} (hl : L.length = n) (hn : n ≤ 50) (h : ∀ (j : Nat) x, L[j]? = some x → x.rc = [prK ((j : Int) + 1)]) : askRE L [107] = 0 ∧ SzRs L ∧ ∃ s, sumV L [107] = (s, 0) ∧ 2 * s = (n : Int) * ((n : Int) + 1) := by
  have h1 : ∀ (M : List Rv), (∀ x ∈ M, rErr x.rc = 0) → rsE M = 0 := by
    intro M
    induction M with
    | nil => intro _; rfl
    | cons a r ih => intro hM; rw [rsE, if_pos (hM a (by simp))]; exact ih (fun x hx => hM x (by simp [hx]))
  have h2 : rsE L = 0 := h1 L (fun x hx => by
    obtain ⟨j, hj⟩ := List.mem_iff_getElem?.1 hx
    have := (List.getElem?_eq_some_iff.1 hj).1
    rw [h j x hj]; exact rErr_k _ (by omega) (by omega))
  have h3 : askRE L [107] = 0 := by unfold askRE; rw [if_neg (by omega), if_pos h2]; decide
  refine ⟨h3, fun x hx => ?_, ?_⟩
  · obtain ⟨j, hj⟩ := List.mem_iff_getElem?.1 hx
    rw [h j x hj]
    refine ⟨fun p hp => ?_, by show (1 : Nat) ≤ maxLen; decide⟩
    obtain rfl : p = prK ((j : Int) + 1) := by simpa using hp
    exact ⟨by show (1 : Nat) ≤ maxLen; decide, by show (0 : Nat) ≤ maxLen; decide⟩
  · obtain ⟨s, e1, e2⟩ := sum_row L 0 0 (fun j x hx => by rw [Nat.zero_add]; exact h j x hx)
    refine ⟨s, by unfold sumV; rw [if_pos h3]; exact e1, ?_⟩
    rw [hl] at e2
    simpa using e2
/-- The rows as they stand. -/
def WrR (W : World) (k : Nat) (v : Value) (wr : World) : Prop := ∃ C : List Value, C.length = k ∧ wr.ownsRow W.heap.size 28 1 v k C ∧ (∀ (j : Nat) u, C[j]? = some u → ∃ g, u = .slice (some ⟨g, 0, none⟩) 2 2 ∧ wr.heap[g]? = some (.cells #[.int .i64 ((j : Int) + 1), .int .i64 ((j : Int) + 1)] 3 (0, 0))) ∧ Below W.heap.size W wr
theorem wrR_isW {W wr : World} {k : Nat} {v : Value} (h : WrR W k v wr) : IsW wr v k := by
  obtain ⟨C, hl, ho, hC, hB⟩ := h
  have hc : ∀ g, v.ownBlock = some g → ∀ j u, C[j]? = some u → wr.cell? ((⟨g, 0, none⟩ : Addr).add j) = some u := fun g hg => ho.cells hg
  rcases ho.2 with ⟨rfl, h0⟩ | ⟨g, cap, cur, rfl, hb, hg, hle, hcm, hcs, ht⟩
  · exact ⟨none, 0, by rw [h0], .inl h0⟩
  · refine ⟨_, cap, rfl, .inr ⟨g, 0, rfl, (Array.getElem?_eq_some_iff.1 hg).1, fun j hj => ?_⟩⟩
    obtain ⟨u, hu⟩ : ∃ u, C[j]? = some u := ⟨_, List.getElem?_eq_getElem (by omega)⟩
    obtain ⟨g', rfl, hg'⟩ := hC j u hu
    have d0 := hc g rfl j _ hu
    rw [Addr.add_lit] at d0
    exact ⟨g', d0, (Array.getElem?_eq_some_iff.1 hg').1, cell_at hg' rfl, cell_at hg' rfl⟩
def WrI (W : World) (n : Nat) (v i : Value) (wr : World) : Prop := ∃ k : Nat, k ≤ n ∧ i = .int .i64 ((k : Int) + 1) ∧ WrR W k v wr
theorem wrR_step {W wr w1 : World} {k : Nat} {v v1 : Value} {C : List Value} (hl : C.length = k) (ho : wr.ownsRow W.heap.size 28 1 v k C) (hC : ∀ (j : Nat) u, C[j]? = some u → ∃ g, u = .slice (some ⟨g, 0, none⟩) 2 2 ∧ wr.heap[g]? = some (.cells #[.int .i64 ((j : Int) + 1), .int .i64 ((j : Int) + 1)] 3 (0, 0))) (hB : Below W.heap.size W wr)
    (hown : w1.ownsRow W.heap.size 28 1 v1 (k + 1) (C ++ [.slice (some ⟨wr.heap.size, 0, none⟩) 2 2])) (hg : ((wr.alloc (.cells #[.int .i64 ((k : Int) + 1), .int .i64 ((k : Int) + 1)] 3)).alloc (.cells #[.slice (some ⟨wr.heap.size, 0, none⟩) 2 2] 28)).grownBy w1 v.ownBlock) : WrR W (k + 1) v1 w1 := by
  have hB2 : Below wr.heap.size wr ((wr.alloc (.cells #[.int .i64 ((k : Int) + 1), .int .i64 ((k : Int) + 1)] 3)).alloc (.cells #[.slice (some ⟨wr.heap.size, 0, none⟩) 2 2] 28)) := b_allocR (b_allocR (Below.refl _ _) _) _
  have hk28 := (ho.alloc (.cells #[.int .i64 ((k : Int) + 1), .int .i64 ((k : Int) + 1)] 3)).alloc (.cells #[.slice (some ⟨wr.heap.size, 0, none⟩) 2 2] 28)
  have hkt : Kt 3 ((wr.alloc (.cells #[.int .i64 ((k : Int) + 1), .int .i64 ((k : Int) + 1)] 3)).alloc (.cells #[.slice (some ⟨wr.heap.size, 0, none⟩) 2 2] 28)) w1 := Kt.of_own hk28 (by decide) hg
  refine ⟨C ++ [.slice (some ⟨wr.heap.size, 0, none⟩) 2 2], by simp [hl], hown, fun j u hu => ?_, ?_⟩
  · by_cases hj : j < k
    · rw [List.getElem?_append_left (by omega)] at hu
      obtain ⟨g, rfl, hgg⟩ := hC j u hu
      exact ⟨g, rfl, hkt.2 g _ ((hB2.block g (Array.getElem?_eq_some_iff.1 hgg).1).trans hgg)⟩
    · have hjl := (List.getElem?_eq_some_iff.1 hu).1
      simp at hjl
      obtain rfl : j = k := by omega
      rw [List.getElem?_append_right (by omega), hl, Nat.sub_self] at hu
      obtain rfl : Value.slice (some ⟨wr.heap.size, 0, none⟩) 2 2 = u := by simpa using hu
      refine ⟨_, rfl, hkt.2 _ _ ((heap_alloc_old _ _ (by simp)).trans (heap_alloc_new wr _))⟩
  · exact below_grown (on1R hB hB2) hg (on1R hB hB2).size (fun j hj => (hk28.lt j hj).1)
end Go.Proofs.YtodddcacngjadaaDoor
