/-
  What the specification's functions Digits and Show give.
-/
import Derived.Test.YtmgkdghkenpmbaaGreatDoorBackD
import Derived.Laws.Concat
import Derived.Lib.ItoaLen
namespace Go.Proofs.YtmgkdghkenpmbaaGreatDoor
open Go.RowKit
set_option linter.unusedVariables false
set_option linter.unusedSimpArgs false

theorem size_mk (l : List UInt8) : (⟨l.toArray⟩ : ByteArray).size = l.length := by
  show l.toArray.size = _
  rw [List.size_toArray]
theorem cat (x y : List UInt8) (hx : x.length ≤ 8388608) (hy : y.length ≤ 8388608) (w : World) : (Op.stringOp .add ⟨x.toArray⟩ ⟨y.toArray⟩).run Tryz.prog w = .ok (.string ⟨(x ++ y).toArray⟩) w := run_string_add_lists w x y (by omega) (by omega)
theorem itoa_len (n : Int) (h1 : -1000000 ≤ n) (h2 : n ≤ 1000000) : (Lib.itoa n).length ≤ 8388608 := by
  have := Lib.itoa_length_le n (by omega) (by omega)
  omega
theorem itoa_nn {n : Int} (h : 0 ≤ n) : Lib.itoa n = Lib.decDigits n.toNat := by unfold Lib.itoa; rw [if_neg (by omega)]
theorem itoa_ng {n : Int} (h : n < 0) : Lib.itoa n = 45 :: Lib.decDigits n.natAbs := by unfold Lib.itoa; rw [if_pos h]

set_option maxHeartbeats 1000000 in
theorem digits_one (n : Int) (w : World) (h0 : 0 ≤ n) (h9 : n < 10) :
    Calls Tryz.prog 36 #[.int .i64 n] w fun e w' => e = .returned (.string ⟨(Lib.itoa n).toArray⟩) ∧ w' = w := by
  rw [itoa_nn h0, Lib.decDigits_one (by omega)]
  have hn : n = 0 ∨ n = 1 ∨ n = 2 ∨ n = 3 ∨ n = 4 ∨ n = 5 ∨ n = 6 ∨ n = 7 ∨ n = 8 ∨ n = 9 := by omega
  rcases hn with rfl | rfl | rfl | rfl | rfl | rfl | rfl | rfl | rfl | rfl
  all_goals
    clear h0 h9
    go_enter Tryz.func36, Tryz.ntmps36
    go_wp2_with fail
    go_ret
    exact ⟨rfl, rfl⟩

set_option maxHeartbeats 1000000 in
theorem digits_nn (k : Nat) : ∀ (n : Int) (w : World), 0 ≤ n → n < 10 ^ (k + 1) → n ≤ 1000000 →
    Calls Tryz.prog 36 #[.int .i64 n] w fun e w' => e = .returned (.string ⟨(Lib.itoa n).toArray⟩) ∧ w' = w := by
  induction k with
  | zero => intro n w h0 h1 _; exact digits_one n w h0 (by simpa using h1)
  | succ k ih =>
    intro n w h0 h1 h2
    by_cases h10 : n < 10
    · exact digits_one n w h0 h10
    · have hd : n / 10 < 10 ^ (k + 1) := by
        rw [Int.pow_succ] at h1; omega
      have e1 : Hid (Lib.itoa n = Lib.itoa (n / 10) ++ Lib.itoa (n % 10)) := by
        show _ = _
        rw [itoa_nn h0, itoa_nn (n := n / 10) (by omega), itoa_nn (n := n % 10) (by omega), Lib.decDigits_one (i := (n % 10).toNat) (by omega), Lib.decDigits, dif_neg (by omega)]
        rw [show n.toNat / 10 = (n / 10).toNat by omega, show n.toNat % 10 = (n % 10).toNat by omega]
      have hadd := fun w => cat (Lib.itoa (n / 10)) (Lib.itoa (n % 10)) (itoa_len _ (by omega) (by omega)) (itoa_len _ (by omega) (by omega)) w
      clear h1
      go_enter Tryz.func36, Tryz.ntmps36
      go_wp2_with (go_at_call 36; refine (ih (n / 10) _ (by omega) hd (by omega)).mono ?_; rintro e w' ⟨rfl, rfl⟩; refine Hid.out ?_)
      refine Lib.hid ?_
      go_wp2_with (go_at_call 36; refine (digits_one (n % 10) _ (by omega) (by omega)).mono ?_; rintro e w' ⟨rfl, rfl⟩)
      go_ret
      exact ⟨ret_v (by rw [e1.out]; rfl), rfl⟩

set_option maxHeartbeats 1000000 in
theorem digits_ng (k : Nat) : ∀ (m : Int) (w : World), 0 < m → m < 10 ^ (k + 1) → m ≤ 1000000 →
    Calls Tryz.prog 36 #[.int .i64 (-m)] w fun e w' => e = .returned (.string ⟨(Lib.itoa (-m)).toArray⟩) ∧ w' = w := by
  induction k with
  | zero =>
    intro m w h0 h1 h2
    have h9 : m < 10 := by simpa using h1
    have e1 : Hid (Lib.itoa (-m) = [45] ++ Lib.itoa m) := by
      show _ = _
      rw [itoa_ng (by omega), itoa_nn (by omega), show (-m).natAbs = m.toNat by omega]; rfl
    have hadd := fun w => cat [45] (Lib.itoa m) (by simp) (itoa_len _ (by omega) (by omega)) w
    clear h1
    go_enter Tryz.func36, Tryz.ntmps36
    go_wp2_with (go_at_call 36; refine (digits_one m _ (by omega) (by omega)).mono ?_; rintro e w' ⟨rfl, rfl⟩)
    go_ret
    exact ⟨ret_v (by rw [e1.out]; rfl), rfl⟩
  | succ k ih =>
    intro m w h0 h1 h2
    by_cases h10 : m < 10
    · have e1 : Hid (Lib.itoa (-m) = [45] ++ Lib.itoa m) := by
        show _ = _
        rw [itoa_ng (by omega), itoa_nn (by omega), show (-m).natAbs = m.toNat by omega]; rfl
      have hadd := fun w => cat [45] (Lib.itoa m) (by simp) (itoa_len _ (by omega) (by omega)) w
      clear h1
      go_enter Tryz.func36, Tryz.ntmps36
      go_wp2_with (go_at_call 36; refine (digits_one m _ (by omega) (by omega)).mono ?_; rintro e w' ⟨rfl, rfl⟩)
      go_ret
      exact ⟨ret_v (by rw [e1.out]; rfl), rfl⟩
    · have hd : m / 10 < 10 ^ (k + 1) := by
        rw [Int.pow_succ] at h1; omega
      have e1 : Hid (Lib.itoa (-m) = Lib.itoa (-(m / 10)) ++ Lib.itoa (m % 10)) := by
        show _ = _
        rw [itoa_ng (n := -m) (by omega), itoa_ng (n := -(m / 10)) (by omega), itoa_nn (n := m % 10) (by omega), Lib.decDigits_one (i := (m % 10).toNat) (by omega), Lib.decDigits, dif_neg (by omega)]
        rw [show (-m).natAbs / 10 = (-(m / 10)).natAbs by omega, show (-m).natAbs % 10 = (m % 10).toNat by omega]; rfl
      have td : (-m).tdiv 10 = -(m / 10) := by rw [Int.neg_tdiv, Int.tdiv_eq_ediv_of_nonneg (by omega)]
      have tm : (-m).tmod 10 = -(m % 10) := by rw [Int.neg_tmod, Int.tmod_eq_emod_of_nonneg (by omega)]
      have ihm := fun w => ih (m / 10) w (by omega) hd (by omega)
      have hadd := fun w => cat (Lib.itoa (-(m / 10))) (Lib.itoa (m % 10)) (itoa_len _ (by omega) (by omega)) (itoa_len _ (by omega) (by omega)) w
      clear h1 ih
      go_enter Tryz.func36, Tryz.ntmps36
      go_wp2_with (go_at_call 36; refine (ihm _).mono ?_; rintro e w' ⟨rfl, rfl⟩; refine Hid.out ?_)
      refine Lib.hid ?_
      go_wp2_with (go_at_call 36; refine (digits_one (m % 10) _ (by omega) (by omega)).mono ?_; rintro e w' ⟨rfl, rfl⟩)
      go_ret
      exact ⟨ret_v (by rw [e1.out]; rfl), rfl⟩

theorem digits_any (n : Int) (w : World) (h1 : -1000000 ≤ n) (h2 : n ≤ 1000000) :
    Calls Tryz.prog 36 #[.int .i64 n] w fun e w' => e = .returned (.string ⟨(Lib.itoa n).toArray⟩) ∧ w' = w := by
  by_cases h : 0 ≤ n
  · exact digits_nn 6 n w h (by show n < 10000000; omega) h2
  · have := digits_ng 6 (-n) w (by omega) (by show -n < 10000000; omega) (by omega)
    rwa [Int.neg_neg] at this

set_option maxHeartbeats 1000000 in
theorem show_int (n : Int) (w : World) (h1 : -1000000 ≤ n) (h2 : n ≤ 1000000) :
    Calls Tryz.prog 21 #[agg 1 n ⟨#[]⟩] w fun e w' => e = .returned (.string ⟨(Lib.itoa n).toArray⟩) ∧ Below w.heap.size w w' := by
  go_enter Tryz.func21, Tryz.ntmps21
  go_wp2_with (go_at_call 36; refine (digits_any n _ h1 h2).mono ?_; rintro e w' ⟨rfl, rfl⟩)
  go_ret
  exact ⟨rfl, (Below.refl _ w).alloc (Nat.le_refl _) _⟩
set_option maxHeartbeats 1000000 in
theorem show_bool (n : Int) (w : World) (hn : n = 0 ∨ n = 1) :
    Calls Tryz.prog 21 #[agg 2 n ⟨#[]⟩] w fun e w' => e = .returned (.string ⟨(showL 2 n []).toArray⟩) ∧ Below w.heap.size w w' := by
  rcases hn with rfl | rfl
  all_goals
    go_enter Tryz.func21, Tryz.ntmps21
    go_wp2_with fail
    go_ret
    exact ⟨rfl, (Below.refl _ w).alloc (Nat.le_refl _) _⟩
theorem slice_one (s : ByteArray) (k : Nat) (h : k < s.size) (w : World) : (Instr.slice 9 (.string s) (some (.int .i64 (k : Int))) (some (.int .i64 ((k : Int) + 1))) none).run Tryz.prog w = .ok (.string ⟨[s[k]].toArray⟩) w := by
  rw [run_slice_string w 9 s .i64 .i64 (k : Int) ((k : Int) + 1) Tryz.underlying9 (by omega) (by omega) (by omega)]
  have e1 : ((k : Int)).toNat = k := by omega
  have e2 : ((k : Int) + 1).toNat = k + 1 := by omega
  rw [e1, e2]
  congr 2
  apply list_eq
  rw [ByteArray.data_extract, Array.toList_extract, List.extract_eq_take_drop, Nat.add_sub_cancel_left, drop_cons s k h]
  rfl

set_option maxHeartbeats 2000000 in
theorem show_text (s : ByteArray) (w : World) (hs : s.size ≤ 1000) :
    Calls Tryz.prog 21 #[agg 3 0 s] w fun e w' => e = .returned (.string ⟨(quo s.data.toList).toArray⟩) ∧ Below w.heap.size w w' := by
  go_enter Tryz.func21, Tryz.ntmps21
  go_wp2_with fail
  go_loop [3, 4] (fun r i => ∃ k : Nat, k ≤ s.size ∧ i = .int .i64 k ∧ r = .string ⟨(39 :: dbl (s.data.toList.take k)).toArray⟩) (fun r i => s.size - (intOf i).toNat)
  case atStart => exact ⟨0, Nat.zero_le _, rfl, rfl⟩
  case round =>
    obtain ⟨k, hk, rfl, rfl⟩ := hrel
    have hdl := dbl_len (s.data.toList.take k)
    have htl : (s.data.toList.take k).length ≤ k := List.length_take_le _ _
    have hlen : (39 :: dbl (s.data.toList.take k)).length ≤ 2 * k + 1 := by simp; omega
    by_cases hlt : k < s.size
    · have hsl := slice_one s k hlt
      by_cases hc : s[k] = 39
      · have HT : Hid (39 :: dbl (s.data.toList.take (k + 1)) = ((39 :: dbl (s.data.toList.take k)) ++ [39]) ++ [39]) := dbl_take_eq s k hlt hc
        have hl2 : ((39 :: dbl (s.data.toList.take k)) ++ [39]).length ≤ 2 * k + 2 := by rw [List.length_append]; simp only [List.length_cons, List.length_nil] at hlen ⊢; omega
        have ha1 := fun w => cat (39 :: dbl (s.data.toList.take k)) [39] (by omega) (by simp) w
        have ha2 := fun w => cat ((39 :: dbl (s.data.toList.take k)) ++ [39]) [39] (by omega) (by simp) w
        generalize 39 :: dbl (s.data.toList.take k) = acc at *
        go_wp2_with fail
        go_round
        case rel => exact ⟨k + 1, by omega, by go_num, by rw [HT.out, List.append_assoc]; rfl⟩
        case measure => simp [intOf]; omega
      · have HT : Hid (39 :: dbl (s.data.toList.take (k + 1)) = (39 :: dbl (s.data.toList.take k)) ++ [s[k]]) := dbl_take_ne s k hlt hc
        have ha1 := fun w => cat (39 :: dbl (s.data.toList.take k)) [s[k]] (by omega) (by simp) w
        have hc' := ne39 hc
        clear hc
        generalize 39 :: dbl (s.data.toList.take k) = acc at *
        go_wp2_with fail
        go_round
        case rel => exact ⟨k + 1, by omega, by go_num, by rw [HT.out]⟩
        case measure => simp [intOf]; omega
    · have HT : Hid (quo s.data.toList = (39 :: dbl (s.data.toList.take k)) ++ [39]) := by
        show _ = _
        rw [List.take_of_length_le (by rw [← size_len]; omega)]; rfl
      have ha1 := fun w => cat (39 :: dbl (s.data.toList.take k)) [39] (by omega) (by simp) w
      generalize 39 :: dbl (s.data.toList.take k) = acc at *
      go_wp2_with fail
      go_ret
      exact ⟨ret_v (by rw [HT.out]; rfl), (Below.refl _ w).alloc (Nat.le_refl _) _⟩

/-- The specification's text of a value that is right. -/
theorem show_any (t n : Int) (s : ByteArray) (h : vErr t n s.data.toList = 0) : Gives 21 #[agg t n s] (.string ⟨(showL t n s.data.toList).toArray⟩) := fun w => by
  rcases vErr_ok h with ⟨rfl, h1, h2, hl⟩ | ⟨rfl, hn, hl⟩ | ⟨rfl, rfl, hl, hb⟩
  · obtain rfl := list_eq hl
    exact show_int n w h1 h2
  · obtain rfl := list_eq hl
    exact show_bool n w hn
  · exact show_text s w (by rw [size_len]; omega)
end Go.Proofs.YtmgkdghkenpmbaaGreatDoor
