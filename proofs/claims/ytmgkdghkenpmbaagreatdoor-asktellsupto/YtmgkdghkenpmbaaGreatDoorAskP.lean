/-
  The walks of what prints a bond, a test.
-/
import Derived.Test.YtmgkdghkenpmbaaGreatDoorAskO
import Derived.Lib.ItoaLen
namespace Go.Proofs.YtmgkdghkenpmbaaGreatDoor
open Go.RowKit
set_option linter.unusedVariables false
set_option linter.unusedSimpArgs false

theorem name_len {l : List UInt8} (h : nErr l = 0) : l.length ≤ 8 := by
  unfold nErr at h
  split at h
  · exact absurd h (by decide)
  · split at h
    · exact absurd h (by decide)
    · omega
theorem show_len {t n : Int} {l : List UInt8} (h : vErr t n l = 0) : (showL t n l).length ≤ 42 := by
  have ht : t = 1 ∨ t = 2 ∨ t = 3 := by
    unfold vErr at h; split at h
    · assumption
    · exact absurd h (by decide)
  have hr : inR t n = true := by
    unfold vErr at h; rw [if_pos ht] at h; split at h
    · assumption
    · exact absurd h (by decide)
  unfold showL
  rcases ht with rfl | rfl | rfl
  · rw [if_pos rfl]
    have hr' : -1000000 ≤ n ∧ n ≤ 1000000 := by simpa [inR] using hr
    have := Lib.itoa_length_le n (by omega) (by omega)
    omega
  · rw [if_neg (by decide), if_pos rfl]
    split <;> decide
  · rw [if_neg (by decide), if_neg (by decide)]
    have h20 : l.length ≤ 20 := by
      unfold vErr at h; rw [if_pos (by omega), if_pos hr, if_pos rfl] at h
      unfold tErr at h; split at h
      · exact absurd h (by decide)
      · omega
    have := dbl_len l
    simp [quo]; omega
/-- Two texts, one behind the other. -/
theorem catX (x y : Nm) (hx : x.length ≤ 4000000) (hy : y.length ≤ 4000000) : ∃ z, Hid (z = x ++ y) ∧ z.length = x.length + y.length ∧ ∀ w, (Op.stringOp .add (bs x) (bs y)).run Tryz.prog w = .ok (.string (bs z)) w :=
  ⟨x ++ y, rfl, by simp, fun w => catB x y (by omega) (by omega) w⟩

set_option maxHeartbeats 2000000 in
set_option maxRecDepth 100000 in
theorem printBond_any (p : St) (a : Option Addr) (n c : Nat) (w : World) (hp : p.bd.length ≤ 1000) :
    Calls Tryz.prog 14 #[spOne p a n c] w fun e w' => e = .returned (.string (bs (bdT p))) ∧ Below w.heap.size w w' := by
  obtain ⟨bd, back, kd, ts⟩ := p
  have hl := ar_len back
  obtain ⟨z1, H1, l1, k1⟩ := catX (ar0 back) bd (by omega) (by simp only at hp; omega)
  obtain ⟨z2, H2, l2, k2⟩ := catX z1 (ar1 back) (by simp only at hp; omega) (by omega)
  have HE : Hid (bdT ⟨bd, back, kd, ts⟩ = z2) := by show _ = _; unfold bdT; rw [H2.out, H1.out]
  rw [HE.out]
  have cA := fun W => arrow_any back W
  generalize ar0 back = x0 at cA k1
  generalize ar1 back = x1 at cA k2
  have HB0 : Hid (Below w.heap.size w (w.alloc (.cells #[.string (bs bd), .bool back, .string (bs kd), .slice a n c] 29))) := (Below.refl _ w).alloc (Nat.le_refl _) _
  have HS : Hid (∀ W, Below (w.alloc (.cells #[.string (bs bd), .bool back, .string (bs kd), .slice a n c] 29)).heap.size (w.alloc (.cells #[.string (bs bd), .bool back, .string (bs kd), .slice a n c] 29)) W → Below w.heap.size w W ∧ ∀ o, (W.alloc o).cell? ⟨w.heap.size, 0, none⟩ = some (.string (bs bd))) := fun W hW => by
    have hp := (hW.block w.heap.size (by simp)).trans (new_block w _ 29)
    exact ⟨on1 HB0.out hW, cell_old (cell_at hp rfl)⟩
  clear H1 H2 HE l1 l2 hp hl
  go_enter Tryz.func14, Tryz.ntmps14
  go_wp2_with (go_at_call 26; refine (cA _).mono ?_; rintro e W1 ⟨rfl, hB1⟩; obtain ⟨hb1, p0⟩ := HS.out W1 hB1; have HB1 := Lib.hid hb1; clear hB1 hb1)
  go_ret
  exact ⟨rfl, b_alloc HB1.out _⟩

/-- A test that is right. -/
def TstOk (x : Tst) : Prop := nErr x.nm = 0 ∧ howE x = 0
theorem tst_ok {x : Tst} (h : tstP x = 0) : TstOk x := by
  unfold tstP at h
  by_cases h1 : nErr x.nm = 0
  · rw [if_pos h1] at h; exact ⟨h1, h⟩
  · rw [if_neg h1] at h; exact absurd h h1
theorem how_ok {x : Tst} (h : howE x = 0) : (x.hw = 4 ∧ x.t = 0 ∧ x.n = 0 ∧ x.s = []) ∨ ((x.hw = 1 ∨ x.hw = 2 ∨ x.hw = 3) ∧ vErr x.t x.n x.s = 0) := by
  unfold howE at h
  by_cases h1 : x.hw = 1 ∨ x.hw = 2 ∨ x.hw = 3
  · rw [if_pos h1] at h; exact .inr ⟨h1, h⟩
  · rw [if_neg h1] at h
    by_cases h4 : x.hw = 4
    · rw [if_pos h4] at h
      by_cases h5 : x.t = 0 ∧ x.n = 0 ∧ x.s = []
      · exact .inl ⟨h4, h5⟩
      · rw [if_neg h5] at h; exact absurd h (by decide)
    · rw [if_neg h4] at h; exact absurd h (by decide)
theorem tstT_len {x : Tst} (h : TstOk x) : (tstT x).length ≤ 51 := by
  have h1 := name_len h.1
  unfold tstT
  rcases how_ok h.2 with ⟨h4, _⟩ | ⟨h4, hv⟩
  · rw [if_pos h4]; omega
  · rw [if_neg (by omega)]
    have := show_len hv
    simp; omega
theorem printB (t n : Int) (l : Nm) (h : vErr t n l = 0) (w : World) (hl : l.length ≤ maxLen) (hT : Tab w) :
    Calls Tryz.prog 44 #[.agg #[.int .i64 t, .int .i64 n, .string (bs l)]] w fun e w' => e = .returned (.tuple #[.string (bs (showL t n l)), .nilIface]) ∧ Below w.heap.size w w' := by
  have := print_any t n (bs l) w (by rw [bs_size]; exact hl) hT
  rw [bs_data, if_pos h] at this
  exact this

set_option maxHeartbeats 4000000 in
set_option maxRecDepth 100000 in
theorem printTest_any (x : Tst) (w : World) (hx : TstOk x) (hs : x.s.length ≤ maxLen) (hT : Tab w) (hS : Sg w) :
    Calls Tryz.prog 27 #[x.one] w fun e w' => e = .returned (.string (bs (tstT x))) ∧ Below w.heap.size w w' := by
  obtain ⟨nm, hw, t, n, s⟩ := x
  have hnl := name_len hx.1
  have HB0 : Hid (Below w.heap.size w (w.alloc (boxT ⟨nm, hw, t, n, s⟩))) := (Below.refl _ w).alloc (Nat.le_refl _) _
  rcases how_ok hx.2 with ⟨h4, h5, h6, h7⟩ | ⟨h4, hv⟩
  · simp only at h4 h5 h6 h7
    subst h4; subst h5; subst h6; subst h7
    rw [show tstT ⟨nm, 4, 0, 0, []⟩ = nm from rfl]
    go_enter Tryz.func27, Tryz.ntmps27
    go_wp2
    go_ret
    exact ⟨rfl, HB0.out⟩
  · simp only at h4 hv hs hnl
    have cP := fun (W : World) (hT : Tab W) => printB t n s hv W hs hT
    have hsl := show_len hv
    obtain ⟨z1, H1, l1, k1⟩ := catX nm [sg hw] (by omega) (show 1 ≤ 4000000 by decide)
    obtain ⟨z2, H2, l2, k2⟩ := catX z1 (showL t n s) (by rw [l1]; simp; omega) (by omega)
    have HE : Hid (tstT ⟨nm, hw, t, n, s⟩ = z2) := by
      show _ = _; unfold tstT; rw [if_neg (by simp only; omega), H2.out, H1.out]; simp
    rw [HE.out]
    generalize showL t n s = sl at cP k2
    have HT0 := Lib.hid (tabOn hT HB0.out)
    have HS : Hid (∀ W, Below (w.alloc (boxT ⟨nm, hw, t, n, s⟩)).heap.size (w.alloc (boxT ⟨nm, hw, t, n, s⟩)) W → Below w.heap.size w W ∧ Sg W ∧ W.cell? ⟨w.heap.size, 0, none⟩ = some (.string (bs nm)) ∧ W.cell? ⟨w.heap.size, 1, none⟩ = some (.int .i64 hw)) := fun W hW => by
      have hp := (hW.block w.heap.size (by simp)).trans (new_block w _ 33)
      exact ⟨on1 HB0.out hW, hS.on (on1 HB0.out hW), cell_at hp rfl, cell_at hp rfl⟩
    clear H1 H2 HE l1 l2 hx hsl hnl hT hS hv hs
    rcases h4 with rfl | rfl | rfl
    · rw [show bs [sg 1] = ⟨#[61]⟩ from rfl] at k1
      go_enter Tryz.func27, Tryz.ntmps27
      go_wp2_with (go_at_call 44; refine (cP _ HT0.out).mono ?_; rintro e W1 ⟨rfl, hB1⟩; obtain ⟨hb1, ⟨s1, s2, s3⟩, p0, p1⟩ := HS.out W1 hB1; have HB1 := Lib.hid hb1; clear hB1 hb1)
      go_quiet (fail)
      go_wp2
      go_ret
      exact ⟨rfl, b_drewK HB1.out _⟩
    · rw [show bs [sg 2] = ⟨#[33]⟩ from rfl] at k1
      go_enter Tryz.func27, Tryz.ntmps27
      go_wp2_with (go_at_call 44; refine (cP _ HT0.out).mono ?_; rintro e W1 ⟨rfl, hB1⟩; obtain ⟨hb1, ⟨s1, s2, s3⟩, p0, p1⟩ := HS.out W1 hB1; have HB1 := Lib.hid hb1; clear hB1 hb1)
      go_quiet (fail)
      go_wp2
      go_ret
      exact ⟨rfl, b_drewK HB1.out _⟩
    · rw [show bs [sg 3] = ⟨#[60]⟩ from rfl] at k1
      go_enter Tryz.func27, Tryz.ntmps27
      go_wp2_with (go_at_call 44; refine (cP _ HT0.out).mono ?_; rintro e W1 ⟨rfl, hB1⟩; obtain ⟨hb1, ⟨s1, s2, s3⟩, p0, p1⟩ := HS.out W1 hB1; have HB1 := Lib.hid hb1; clear hB1 hb1)
      go_quiet (fail)
      go_wp2
      go_ret
      exact ⟨rfl, b_drewK HB1.out _⟩
end Go.Proofs.YtmgkdghkenpmbaaGreatDoor
