/-
  The walk of checkTie, behind another one.
-/
import Derived.Test.YtkgblicmkijpdaaGraC
namespace Go.Proofs.Ytkgblicmkijpdaa
open Go.RowKit
set_option linter.unusedVariables false
set_option linter.unusedSimpArgs false

/-- What lies in the two ties. -/
def SixC (b o l : Nat) (q t : Te) (w : World) : Prop := (b < w.heap.size ∧ l < w.heap.size) ∧ (w.cell? ⟨b, o, none⟩ = some (.string q.bd) ∧ w.cell? ⟨b, o + 1, none⟩ = some (.int .i64 q.fr) ∧ w.cell? ⟨b, o + 2, none⟩ = some (.int .i64 q.tt)) ∧ (w.cell? ⟨l, 0, none⟩ = some (.string t.bd) ∧ w.cell? ⟨l, 1, none⟩ = some (.int .i64 t.fr) ∧ w.cell? ⟨l, 2, none⟩ = some (.int .i64 t.tt))
theorem SixC.on {b o l : Nat} {q t : Te} {w w' : World} (h : SixC b o l q t w) (hB : Below w.heap.size w w') : SixC b o l q t w' := by
  obtain ⟨⟨h1, h2⟩, ⟨a0, a1, a2⟩, ⟨b0, b1, b2⟩⟩ := h
  exact ⟨⟨Nat.lt_of_lt_of_le h1 hB.size, Nat.lt_of_lt_of_le h2 hB.size⟩, ⟨(hB.cell h1).trans a0, (hB.cell h1).trans a1, (hB.cell h1).trans a2⟩, ⟨(hB.cell h2).trans b0, (hB.cell h2).trans b1, (hB.cell h2).trans b2⟩⟩
set_option maxHeartbeats 1000000 in
set_option maxRecDepth 100000 in
theorem checkTie_at (b off m k c : Nat) (q t : Te) (w : World) (hb : b < w.heap.size) (hmk : k < m) (hc : (m : Int) - 1 = (k : Int)) (hk : m ≤ 121) (q0 : w.cell? ⟨b, off + k * 3, none⟩ = some (.string q.bd)) (q1 : w.cell? ⟨b, off + k * 3 + 1, none⟩ = some (.int .i64 q.fr)) (q2 : w.cell? ⟨b, off + k * 3 + 2, none⟩ = some (.int .i64 q.tt)) (z1 : t.bd.size ≤ maxLen) :
    Calls Try.prog 21 #[.slice (some ⟨b, off, none⟩) m c, t.one] w fun e w' => e = .returned (errV (teE (some q) t)) ∧ Below w.heap.size w w' := by
  by_cases hh : ¬ nErr t.bd.data.toList = 0 ∨ (idOk t.fr && idOk t.tt) = false
  · exact checkTie_bad _ m c (some q) t w z1 hh
  have hB : Below w.heap.size w (w.alloc (.cells #[.string t.bd, .int .i64 t.fr, .int .i64 t.tt] 40)) := b_alloc (Below.refl _ _) _
  have nm := fun w => name_any t.bd w z1
  have h1 : nErr t.bd.data.toList = 0 := Decidable.byContradiction fun h => hh (.inl h)
  have h2 : (idOk t.fr && idOk t.tt) = true := by
    cases h : (idOk t.fr && idOk t.tt)
    · exact absurd (.inr h) hh
    · rfl
  have e0 := (hB.cell (p := ⟨b, off + k * 3, none⟩) hb).trans q0
  have e1 := (hB.cell (p := ⟨b, off + k * 3 + 1, none⟩) hb).trans q1
  have e2 := (hB.cell (p := ⟨b, off + k * 3 + 2, none⟩) hb).trans q2
  have cc := fun w => cmpT_any t q w
  have HS : Hid (SixC b (off + k * 3) w.heap.size q t ((w.alloc (.cells #[.string t.bd, .int .i64 t.fr, .int .i64 t.tt] 40)).drew)) := by
    refine ⟨⟨?_, ?_⟩, ⟨e0, e1, e2⟩, ?_, ?_, ?_⟩
    · simp; omega
    · simp
    · simp
    · simp
    · simp
  have hbn : ¬ b = w.heap.size := by omega
  have hw1 : IntKind.i64.wrap (k : Int) = (k : Int) := by rw [IntKind.wrap_i64]; omega
  have hi1 : (k : Int) < (m : Int) := by omega
  have hg : (0 : Int) < (m : Int) := by omega
  have hg2 : 0 < m := by omega
  have HL : Hid (t.low (some q) = decide (tCmp t q ≤ 0)) := rfl
  obtain ⟨r, hr⟩ : ∃ r, tCmp t q = r := ⟨_, rfl⟩
  rw [hr] at cc HL
  by_cases h3 : r ≤ 0
  · have H3 : Hid (errV (teE (some q) t) = .iface 60 (.int .i64 7)) := by
      show _ = _
      rw [teE_low h1 h2 (by rw [HL.out]; simpa using h3), errV_7]
    rw [h1, errV_0] at nm
    rw [Bool.and_eq_true] at h2
    obtain ⟨hf, ht⟩ := h2
    clear hh h1 q0 q1 q2 HL hr
    obtain ⟨bd, fr, tt⟩ := t
    obtain ⟨qb, qf, qt⟩ := q
    simp only at H3 nm hB hf ht e0 e1 e2 cc HS ⊢
    go_enter Try.func21, Try.ntmps21
    go_wp2_with (first | (go_at_call 48; refine (nm _).mono ?_; rintro e w' ⟨rfl, rfl⟩) | (go_at_call 47; refine (isId_any _ _).mono ?_; rintro e w' ⟨rfl, rfl⟩))
    first | (go_region_held (fun w' => w'.cell? ⟨b, off + k * 3, none⟩ = some (.string qb) ∧ w'.cell? ⟨b, off + k * 3 + 1, none⟩ = some (.int .i64 qf) ∧ w'.cell? ⟨b, off + k * 3 + 2, none⟩ = some (.int .i64 qt) ∧ w'.cell? ⟨w.heap.size, 0, none⟩ = some (.string bd) ∧ w'.cell? ⟨w.heap.size, 1, none⟩ = some (.int .i64 fr) ∧ w'.cell? ⟨w.heap.size, 2, none⟩ = some (.int .i64 tt)) (go_keep) (first | (go_at_call 50; refine (cc _).mono ?_; rintro e W2 ⟨rfl, hB2⟩; obtain ⟨_, ⟨p0, p1, p2⟩, ⟨r0, r1, r2⟩⟩ := HS.out.on hB2))) | fail
    all_goals
      go_wp2
      go_ret
      exact ⟨ret_v H3.out.symm, on1 (b_drew hB) hB2⟩
  · have H3 : Hid (errV (teE (some q) t) = .nilIface) := by
      show _ = _
      rw [teE_ok h1 h2 (by rw [HL.out]; simpa using h3), errV_0]
    rw [h1, errV_0] at nm
    rw [Bool.and_eq_true] at h2
    obtain ⟨hf, ht⟩ := h2
    clear hh h1 q0 q1 q2 HL hr
    obtain ⟨bd, fr, tt⟩ := t
    obtain ⟨qb, qf, qt⟩ := q
    simp only at H3 nm hB hf ht e0 e1 e2 cc HS ⊢
    go_enter Try.func21, Try.ntmps21
    go_wp2_with (first | (go_at_call 48; refine (nm _).mono ?_; rintro e w' ⟨rfl, rfl⟩) | (go_at_call 47; refine (isId_any _ _).mono ?_; rintro e w' ⟨rfl, rfl⟩))
    first | (go_region_held (fun w' => w'.cell? ⟨b, off + k * 3, none⟩ = some (.string qb) ∧ w'.cell? ⟨b, off + k * 3 + 1, none⟩ = some (.int .i64 qf) ∧ w'.cell? ⟨b, off + k * 3 + 2, none⟩ = some (.int .i64 qt) ∧ w'.cell? ⟨w.heap.size, 0, none⟩ = some (.string bd) ∧ w'.cell? ⟨w.heap.size, 1, none⟩ = some (.int .i64 fr) ∧ w'.cell? ⟨w.heap.size, 2, none⟩ = some (.int .i64 tt)) (go_keep) (first | (go_at_call 50; refine (cc _).mono ?_; rintro e W2 ⟨rfl, hB2⟩; obtain ⟨_, ⟨p0, p1, p2⟩, ⟨r0, r1, r2⟩⟩ := HS.out.on hB2))) | fail
    all_goals
      go_wp2
      go_ret
      exact ⟨ret_v H3.out.symm, on1 (b_drew hB) hB2⟩
end Go.Proofs.Ytkgblicmkijpdaa
