/-
  What plain.Told and kinsame.Error give of package api's errors, and the specification's Order of values.
-/
import Derived.Test.YtbcfecjhgmljcaaDoorTellsB
import Derived.Laws.Cover1
namespace Go.Proofs.YtbcfecjhgmljcaaDoor
open Go.RowKit
set_option linter.unusedVariables false
set_option linter.unusedSimpArgs false

theorem told_nil (w : World) : Calls Tryd.prog 17 #[.nilIface] w fun e w' => e = .returned (.int .i64 0) ∧ w' = w := by
  go_enter Tryd.func17, Tryd.ntmps17
  go_wp2
  go_ret
  exact ⟨rfl, rfl⟩
set_option maxHeartbeats 1000000 in
theorem told_err (x : Int) (w : World) (hg : Hnd w) : Calls Tryd.prog 17 #[.iface 44 (.int .i64 x)] w fun e w' => e = .returned (.int .i64 x) ∧ Below w.heap.size w w' := by
  have hlt : 0 < w.heap.size := by
    rcases Nat.eq_zero_or_pos w.heap.size with h0 | h
    · have hg' : w.cell? ⟨0, 0, none⟩ = _ := hg
      simp [World.cell?, h0] at hg'
    · exact h
  have hgA : Hnd (w.alloc (.cells #[.int .i64 0] 44)) := by
    show (w.alloc (.cells #[.int .i64 0] 44)).cell? ⟨0, 0, none⟩ = _
    rw [World.cell?_alloc_lt _ _ ⟨0, 0, none⟩ hlt]; exact hg
  have htA : (w.alloc (.cells #[.int .i64 0] 44)).cell? ⟨w.heap.size, 0, none⟩ = some (.int .i64 0) := by simp
  have hfA : (w.alloc (.cells #[.int .i64 0] 44)).frozen? ⟨w.heap.size, 0, none⟩ = false := by simp
  clear hg hlt
  go_enter Tryd.func17, Tryd.ntmps17
  go_wp2_with (go_at_call 31; refine (as_hit x _ (.int .i64 0) _ hgA htA hfA).mono ?_; rintro e w' ⟨rfl, rfl⟩)
  go_ret
  refine ⟨rfl, ?_⟩
  exact (((((Below.refl _ w).alloc (Nat.le_refl _) _).alloc (by simp) _).alloc (by simp; omega) _).alloc (by simp; omega) _).alloc (by simp; omega) _
theorem told_any (x : Int) (w : World) (hg : Hnd w) : Calls Tryd.prog 17 #[errV x] w fun e w' => e = .returned (.int .i64 x) ∧ Below w.heap.size w w' := by
  by_cases h : x = 0
  · subst h
    refine (told_nil w).mono ?_
    rintro e w' ⟨rfl, rfl⟩
    exact ⟨rfl, Below.refl _ _⟩
  · rw [errV_ne h]; exact told_err x w hg
theorem error_any (x : Int) (w : World) (hg : Hnd w) : Calls Tryd.prog 7 #[errV x, .int .i64 x] w fun e w' => e = .returned (.bool true) ∧ Below w.heap.size w w' := by
  go_enter Tryd.func7, Tryd.ntmps7
  go_wp2_with (go_at_call 17; refine (told_any x _ hg).mono ?_; rintro e w' ⟨rfl, hb⟩)
  go_ret
  exact ⟨ret_bool (by simp), hb⟩

set_option maxHeartbeats 1000000 in
theorem order_num (t na nb : Int) (w : World) :
    Calls Tryd.prog 13 #[agg t na ⟨#[]⟩, agg t nb ⟨#[]⟩] w fun e w' => e = .returned (.int .i64 (Lib.compareInt na nb)) ∧ Below w.heap.size w w' := by
  unfold Lib.compareInt
  by_cases h1 : na < nb
  · rw [if_pos h1]
    go_enter Tryd.func13, Tryd.ntmps13
    go_wp2
    go_ret
    exact ⟨rfl, ((Below.refl _ w).alloc (Nat.le_refl _) _).alloc (by simp) _⟩
  · rw [if_neg h1]
    by_cases h2 : nb < na
    · rw [if_pos h2]
      have h3 : (na == nb) = false := by simp; omega
      go_enter Tryd.func13, Tryd.ntmps13
      go_wp2
      go_ret
      exact ⟨rfl, ((Below.refl _ w).alloc (Nat.le_refl _) _).alloc (by simp) _⟩
    · rw [if_neg h2]
      obtain rfl : na = nb := by omega
      clear h1 h2
      go_enter Tryd.func13, Tryd.ntmps13
      go_wp2
      go_ret
      exact ⟨rfl, ((Below.refl _ w).alloc (Nat.le_refl _) _).alloc (by simp) _⟩
theorem less_cmp (a : List UInt8) : ∀ b, Op.bytesLess a b = decide (Lib.compareBytes a b < 0) := by
  induction a with
  | nil => intro b; cases b <;> simp [Op.bytesLess, Lib.compareBytes]
  | cons c r ih =>
    intro b
    cases b with
    | nil => simp [Op.bytesLess, Lib.compareBytes]
    | cons d q =>
      simp only [Op.bytesLess, Lib.compareBytes]
      by_cases h1 : c < d
      · simp [h1]
      · by_cases h2 : d < c
        · have hne : ¬ c = d := by intro e; rw [e, UInt8.lt_iff_toNat_lt] at h2; omega
          simp [h1, h2, hne]
        · have he : c = d := by rw [UInt8.lt_iff_toNat_lt] at h1 h2; exact UInt8.toNat_inj.1 (by omega)
          simp [h1, h2, he, ih q]
set_option maxHeartbeats 1000000 in
theorem order_text (sa sb : ByteArray) (w : World) :
    Calls Tryd.prog 13 #[agg 3 0 sa, agg 3 0 sb] w fun e w' => e = .returned (.int .i64 (Lib.compareBytes sa.data.toList sb.data.toList)) ∧ Below w.heap.size w w' := by
  have hl := less_cmp sa.data.toList sb.data.toList
  have hz := cmpB_zero sa.data.toList sb.data.toList
  rw [← Lib.toList_data, ← Lib.toList_data] at hl
  rcases cmpB_range sa.data.toList sb.data.toList with h | h | h
  · have hL : Op.bytesLess sa.toList sb.toList = true := by rw [hl, Lib.toList_data, Lib.toList_data, h]; decide
    rw [h]
    clear hl hz h
    go_enter Tryd.func13, Tryd.ntmps13
    go_wp2
    go_ret
    exact ⟨rfl, ((Below.refl _ w).alloc (Nat.le_refl _) _).alloc (by simp) _⟩
  · have hL : Op.bytesLess sa.toList sb.toList = false := by rw [hl, Lib.toList_data, Lib.toList_data, h]; decide
    have hE : (sa.toList == sb.toList) = true := by rw [Lib.toList_data, Lib.toList_data]; simpa using hz.1 h
    rw [h]
    clear hl hz h
    go_enter Tryd.func13, Tryd.ntmps13
    go_wp2
    go_ret
    exact ⟨rfl, ((Below.refl _ w).alloc (Nat.le_refl _) _).alloc (by simp) _⟩
  · have hL : Op.bytesLess sa.toList sb.toList = false := by rw [hl, Lib.toList_data, Lib.toList_data, h]; decide
    have hne : ¬ sa.data.toList = sb.data.toList := fun e => by have := hz.2 e; omega
    have hE : (sa.toList == sb.toList) = false := by rw [Lib.toList_data, Lib.toList_data]; simpa using hne
    rw [h]
    clear hl hz h hne
    go_enter Tryd.func13, Tryd.ntmps13
    go_wp2
    go_ret
    exact ⟨rfl, ((Below.refl _ w).alloc (Nat.le_refl _) _).alloc (by simp) _⟩

/-- The specification's order of values that are right and of one type. -/
theorem order_any (t na : Int) (sa : ByteArray) (nb : Int) (sb : ByteArray) (h1 : vErr t na sa.data.toList = 0) (h2 : vErr t nb sb.data.toList = 0) :
    Gives 13 #[agg t na sa, agg t nb sb] (.int .i64 (if t = 3 then Lib.compareBytes sa.data.toList sb.data.toList else Lib.compareInt na nb)) := fun w => by
  by_cases ht : t = 3
  · subst ht
    rw [if_pos rfl]
    have n1 : na = 0 := by rcases vErr_ok h1 with h | h | h <;> omega
    have n2 : nb = 0 := by rcases vErr_ok h2 with h | h | h <;> omega
    subst n1; subst n2
    exact order_text sa sb w
  · rw [if_neg ht]
    have s1 : sa.data.toList = [] := by
      rcases vErr_ok h1 with h | h | h
      · exact h.2.2.2
      · exact h.2.2
      · exact absurd h.1 ht
    have s2 : sb.data.toList = [] := by
      rcases vErr_ok h2 with h | h | h
      · exact h.2.2.2
      · exact h.2.2
      · exact absurd h.1 ht
    obtain rfl := list_eq s1
    obtain rfl := list_eq s2
    exact order_num t na nb w
end Go.Proofs.YtbcfecjhgmljcaaDoor
