/-
  The walk of the law ValueQuotes: what is printed of a Text is read as it again.
-/
import Derived.Test.YtbcfecjhgmljcaaDoorWalkG
namespace Go.Proofs.YtbcfecjhgmljcaaDoor
open Go.RowKit
set_option linter.unusedVariables false
set_option linter.unusedSimpArgs false

/-- May a Text have these bytes? -/
def okT (n : Nat) (l : List UInt8) : Bool := decide (n ≤ 20) && !hasP badB l
theorem okT_snoc (n : Nat) (s : ByteArray) (k : Nat) (h : k < s.size) : okT n (s.data.toList.take (k + 1)) = (okT n (s.data.toList.take k) && (decide (32 ≤ (s[k].toNat : Int)) && decide ((s[k].toNat : Int) ≤ 126))) := by
  unfold okT hasP; rw [take_snoc s k h, List.any_append]
  have : badB s[k] = !(decide (32 ≤ (s[k].toNat : Int)) && decide ((s[k].toNat : Int) ≤ 126)) := by
    unfold badB; rw [Bool.eq_iff_iff]; simp
  simp [this, Bool.and_assoc]
theorem okT_tErr (l : List UInt8) : okT l.length l = true ↔ tErr l = 0 := by
  unfold okT tErr
  by_cases h : 20 < l.length
  · simp [h]; omega
  · by_cases hb : hasP badB l = true
    · simp [h, hb]
    · simp [h, hb]; omega
theorem unqL_quo (l : List UInt8) : unqL (quo l) = some l := by
  simp [quo, unqL, und_dbl]

theorem quo_size (l : List UInt8) : (⟨(quo l).toArray⟩ : ByteArray).size = (dbl l).length + 2 := by
  show (quo l).toArray.size = _
  rw [List.size_toArray]; simp [quo]
theorem lt_two {w W1 W2 : World} {o : Obj} (h1 : Below (w.alloc o).heap.size (w.alloc o) W1) (h2 : Below W1.heap.size W1 W2) : w.heap.size < W2.heap.size := by
  have a := h1.size
  have b := h2.size
  simp at a
  omega

set_option maxHeartbeats 4000000 in
set_option maxRecDepth 100000 in
theorem quotes_walk (s : ByteArray) (w : World) (hs : s.size ≤ maxLen) :
    Calls Tryd.prog 5 #[.string s] w fun e w' => e = .returned (.bool true) ∧ Below w.heap.size w w' := by
  have hs' := hs
  unfold maxLen at hs'
  go_enter Tryd.func5, Tryd.ntmps5
  go_wp2
  go_loop [4, 5] (fun o i => ∃ k : Nat, k ≤ s.size ∧ i = .int .i64 k ∧ o = .bool (okT s.size (s.data.toList.take k))) (fun o i => s.size - (intOf i).toNat)
  case atStart => exact ⟨0, Nat.zero_le _, rfl, by simp [okT, hasP]; omega⟩
  case round =>
    obtain ⟨k, hk, rfl, rfl⟩ := hrel
    by_cases hlt : k < s.size
    · have HS : Hid (okT s.size (s.data.toList.take (k + 1)) = (okT s.size (s.data.toList.take k) && (decide (32 ≤ (s[k].toNat : Int)) && decide ((s[k].toNat : Int) ≤ 126)))) := okT_snoc s.size s k hlt
      go_wp2
      all_goals
        go_round
        case rel => exact ⟨k + 1, by omega, by go_num, by rw [HS.out]; simp [*]⟩
        case measure => simp [intOf]; omega
    · have hend : s.data.toList.take k = s.data.toList := List.take_of_length_le (by rw [← size_len]; omega)
      rw [hend]
      have hv3 := vErr_3 s.data.toList
      have hok3 := okT_tErr s.data.toList
      rw [← size_len] at hok3
      by_cases hok : okT s.size s.data.toList = true
      · have h0 : vErr 3 0 s.data.toList = 0 := hv3.trans (hok3.1 hok)
        clear hv3 hok3 hend
        have h20 : s.size ≤ 20 := by
          rw [size_len]
          rcases vErr_ok h0 with h | h | h
          · omega
          · omega
          · exact h.2.2.1
        have hpr := fun w => print_text s w h0
        have hq0 : (⟨(quo s.data.toList).toArray⟩ : ByteArray).size ≤ 140737488355328 := by
          rw [quo_size]
          have := dbl_len s.data.toList
          have := h20
          rw [size_len] at this
          omega
        have hq1 : 0 < (⟨(quo s.data.toList).toArray⟩ : ByteArray).size := by
          show 0 < (quo s.data.toList).toArray.size
          rw [List.size_toArray]; simp [quo]
        have hq2 : (⟨(quo s.data.toList).toArray⟩ : ByteArray)[0] = 39 := rfl
        have hpa := fun w => parse_text ⟨(quo s.data.toList).toArray⟩ w hq0 hq1 hq2
        rw [show (⟨(quo s.data.toList).toArray⟩ : ByteArray).data.toList = quo s.data.toList from rfl, unqL_quo] at hpa
        have hz : ptErr (some s.data.toList) = 0 := by
          rcases vErr_ok h0 with h | h | h
          · omega
          · omega
          · simp only [ptErr, h.2.2.2]; rw [← vErr_3]; simpa using h0
        rw [hz, show resV 0 3 0 ⟨((some s.data.toList).getD []).toArray⟩ = .tuple #[.agg #[.int .i64 3, .int .i64 0, .string s], .nilIface] from rfl] at hpa
        have hql : s.size + 2 ≤ (⟨(quo s.data.toList).toArray⟩ : ByteArray).size := by
          rw [quo_size, size_len]
          have := dbl_len s.data.toList
          omega
        generalize (⟨(quo s.data.toList).toArray⟩ : ByteArray) = q at *
        go_wp2_with (first | (go_at_call 10; refine (hpr _).mono ?_; rintro e W1 ⟨rfl, hb1⟩; obtain ⟨hc1, hf1⟩ := bcell hb1) | (go_at_call 12; refine (hpa _).mono ?_; rintro e W2 ⟨rfl, hb2⟩; obtain ⟨hc2, hf2⟩ := bcell (hb1.trans (hb2.mono hb1.size)); have hz2 : w.heap.size < W2.heap.size := lt_two hb1 hb2))
        go_ret
        exact ⟨ret_bool (decide_eq_true (by omega)), below_one ((hb1.trans (hb2.mono hb1.size)).alloc (Nat.le_trans hb1.size hb2.size) _)⟩
      · have h0 : ¬ vErr 3 0 s.data.toList = 0 := fun h => hok (hok3.2 (hv3.symm.trans h))
        have hok' : okT s.size s.data.toList = false := by simpa using hok
        have hpr := fun w => print_err 3 0 s w hs h0
        clear hv3 hok3 hok hend
        rcases vErr_cases 3 0 s.data.toList with h | h | h | h | h
        · exact absurd h h0
        all_goals
          rw [h] at hpr
          clear h0
          go_wp2_with (go_at_call 10; refine (hpr _).mono ?_; rintro e W1 ⟨rfl, hb1⟩; (first | rw [errV_1] | rw [errV_2] | rw [errV_4] | rw [errV_8]))
          go_ret
          exact ⟨rfl, below_one hb1⟩
end Go.Proofs.YtbcfecjhgmljcaaDoor
