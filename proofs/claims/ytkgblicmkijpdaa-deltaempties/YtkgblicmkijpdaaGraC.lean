/-
  The walk of checkTie.
-/
import Derived.Test.YtkgblicmkijpdaaGraB
namespace Go.Proofs.Ytkgblicmkijpdaa
open Go.RowKit
set_option linter.unusedVariables false
set_option linter.unusedSimpArgs false

theorem teE_name {o : Option Te} {t : Te} (h : ¬ nErr t.bd.data.toList = 0) : teE o t = nErr t.bd.data.toList := by unfold teE; rw [if_neg h]
theorem teE_id {o : Option Te} {t : Te} (h : nErr t.bd.data.toList = 0) (h2 : (idOk t.fr && idOk t.tt) = false) : teE o t = 1 := by unfold teE; rw [if_pos h, h2]; rfl
theorem teE_low {o : Option Te} {t : Te} (h : nErr t.bd.data.toList = 0) (h2 : (idOk t.fr && idOk t.tt) = true) (h3 : t.low o = true) : teE o t = 7 := by unfold teE; rw [if_pos h, if_pos h2, if_pos h3]
theorem teE_ok {o : Option Te} {t : Te} (h : nErr t.bd.data.toList = 0) (h2 : (idOk t.fr && idOk t.tt) = true) (h3 : t.low o = false) : teE o t = 0 := by unfold teE; rw [if_pos h, if_pos h2, h3]; rfl

set_option maxHeartbeats 4000000 in
set_option maxRecDepth 100000 in
/-- Where a tie is wrong by itself. -/
theorem checkTie_bad (ao : Option Addr) (k c : Nat) (o : Option Te) (t : Te) (w : World) (z1 : t.bd.size ≤ maxLen) (h : ¬ nErr t.bd.data.toList = 0 ∨ (idOk t.fr && idOk t.tt) = false) :
    Calls Try.prog 21 #[.slice ao k c, t.one] w fun e w' => e = .returned (errV (teE o t)) ∧ Below w.heap.size w w' := by
  have hB : Below w.heap.size w (w.alloc (.cells #[.string t.bd, .int .i64 t.fr, .int .i64 t.tt] 40)) := b_alloc (Below.refl _ _) _
  have nm := fun w => name_any t.bd w z1
  by_cases h1 : nErr t.bd.data.toList = 0
  · have h2 : (idOk t.fr && idOk t.tt) = false := by
      rcases h with h | h
      · exact absurd h1 h
      · exact h
    have H3 : Hid (errV (teE o t) = .iface 60 (.int .i64 1)) := by
      show _ = _
      rw [teE_id h1 h2, errV_1]
    rw [h1, errV_0] at nm
    clear h h1
    obtain ⟨bd, fr, tt⟩ := t
    simp only at H3 nm hB h2 ⊢
    by_cases hf : idOk fr = true
    · have ht : idOk tt = false := by rw [hf, Bool.true_and] at h2; exact h2
      clear h2
      go_enter Try.func21, Try.ntmps21
      go_wp2_with (first | (go_at_call 48; refine (nm _).mono ?_; rintro e w' ⟨rfl, rfl⟩) | (go_at_call 47; refine (isId_any _ _).mono ?_; rintro e w' ⟨rfl, rfl⟩))
      go_ret
      exact ⟨ret_v H3.out.symm, hB⟩
    · have hf' : idOk fr = false := by simpa using hf
      clear h2 hf
      go_enter Try.func21, Try.ntmps21
      go_wp2_with (first | (go_at_call 48; refine (nm _).mono ?_; rintro e w' ⟨rfl, rfl⟩) | (go_at_call 47; refine (isId_any _ _).mono ?_; rintro e w' ⟨rfl, rfl⟩))
      go_ret
      exact ⟨ret_v H3.out.symm, hB⟩
  · have H3 : Hid (errV (teE o t) = .iface 60 (.int .i64 (nErr t.bd.data.toList))) := by
      show _ = _
      rw [teE_name h1, errV_ne h1]
    rw [errV_ne h1] at nm
    clear h h1
    obtain ⟨bd, fr, tt⟩ := t
    simp only at H3 nm hB ⊢
    go_enter Try.func21, Try.ntmps21
    go_wp2_with (first | (go_at_call 48; refine (nm _).mono ?_; rintro e w' ⟨rfl, rfl⟩))
    go_ret
    exact ⟨ret_v H3.out.symm, hB⟩

set_option maxHeartbeats 4000000 in
set_option maxRecDepth 100000 in
theorem checkTie_first (ao : Option Addr) (c : Nat) (t : Te) (w : World) (z1 : t.bd.size ≤ maxLen) :
    Calls Try.prog 21 #[.slice ao 0 c, t.one] w fun e w' => e = .returned (errV (teE none t)) ∧ Below w.heap.size w w' := by
  by_cases hh : ¬ nErr t.bd.data.toList = 0 ∨ (idOk t.fr && idOk t.tt) = false
  · exact checkTie_bad ao 0 c none t w z1 hh
  have hB : Below w.heap.size w (w.alloc (.cells #[.string t.bd, .int .i64 t.fr, .int .i64 t.tt] 40)) := b_alloc (Below.refl _ _) _
  have nm := fun w => name_any t.bd w z1
  have h1 : nErr t.bd.data.toList = 0 := Decidable.byContradiction fun h => hh (.inl h)
  have h2 : (idOk t.fr && idOk t.tt) = true := by
    cases h : (idOk t.fr && idOk t.tt)
    · exact absurd (.inr h) hh
    · rfl
  have H3 : Hid (errV (teE none t) = .nilIface) := by
    show _ = _
    rw [teE_ok h1 h2 rfl, errV_0]
  rw [h1, errV_0] at nm
  rw [Bool.and_eq_true] at h2
  obtain ⟨hf, ht⟩ := h2
  clear hh h1
  obtain ⟨bd, fr, tt⟩ := t
  simp only at H3 nm hB hf ht ⊢
  go_enter Try.func21, Try.ntmps21
  go_wp2_with (first | (go_at_call 48; refine (nm _).mono ?_; rintro e w' ⟨rfl, rfl⟩) | (go_at_call 47; refine (isId_any _ _).mono ?_; rintro e w' ⟨rfl, rfl⟩))
  go_quiet (fail)
  go_wp2
  go_ret
  exact ⟨ret_v H3.out.symm, b_drewN hB _⟩

end Go.Proofs.Ytkgblicmkijpdaa
