/-
  The document's own look at a path: a test.
-/
import Derived.Test.YtmgkdghkenpmbaaGreatDoorRkF
import Derived.Test.YtmgkdghkenpmbaaGreatDoorAskY
namespace Go.Proofs.YtmgkdghkenpmbaaGreatDoor
open Go.RowKit
set_option linter.unusedVariables false
set_option linter.unusedSimpArgs false

theorem rnameB (l : Nm) (hl : l.length ≤ maxLen) (w : World) : Calls Tryz.prog 17 #[.string (bs l)] w fun e w' => e = .returned (.int .i64 (nErr l)) ∧ w' = w := by
  have := rname_any (bs l) w (by rw [bs_size]; exact hl)
  rw [bs_data] at this
  exact this
theorem rvalueB (t n : Int) (l : Nm) (hl : l.length ≤ maxLen) (w : World) : Calls Tryz.prog 31 #[.agg #[.int .i64 t, .int .i64 n, .string (bs l)]] w fun e w' => e = .returned (.int .i64 (vErr t n l)) ∧ Below w.heap.size w w' := by
  have := rvalue_any t n (bs l) (by rw [bs_size]; exact hl) w
  rw [bs_data] at this
  exact this
theorem nErr_2 {l : Nm} (h : ¬ nErr l = 0) : nErr l = 2 := by
  unfold nErr at h ⊢
  split
  · rfl
  · split
    · rfl
    · split
      · rfl
      · rename_i a b c; rw [if_neg a, if_neg b, if_neg c] at h; exact absurd rfl h

set_option maxHeartbeats 4000000 in
set_option maxRecDepth 100000 in
theorem kplain_any (x : Tst) (w : World) (hx : TsSz x) :
    Calls Tryz.prog 18 #[x.one] w fun e w' => e = .returned (.int .i64 (tstP x)) ∧ Below w.heap.size w w' := by
  have HB0 : Hid (Below w.heap.size w (w.alloc (boxT x))) := (Below.refl _ w).alloc (Nat.le_refl _) _
  obtain ⟨nm, hw, t, n, s⟩ := x
  have c1 := fun W => rnameB nm hx.1 W
  have c2 := fun W => rvalueB t n s hx.2 W
  by_cases h1 : nErr nm = 0
  · rw [h1] at c1
    by_cases h2 : hw = 1 ∨ hw = 2 ∨ hw = 3
    · have he : tstP ⟨nm, hw, t, n, s⟩ = vErr t n s := by unfold tstP howE; rw [if_pos h1, if_pos h2]
      rw [he]
      generalize vErr t n s = z at c2 ⊢
      clear he h1 hx
      rcases h2 with rfl | rfl | rfl
      all_goals
        go_enter Tryz.func18, Tryz.ntmps18
        go_wp2_with (first | (go_at_call 17; refine (c1 _).mono ?_; rintro e w' ⟨rfl, rfl⟩) | (go_at_call 31; refine (c2 _).mono ?_; rintro e W1 ⟨rfl, hB1⟩))
        go_ret
        exact ⟨rfl, on1 HB0.out hB1⟩
    · by_cases h4 : hw = 4
      · subst h4
        clear c2
        by_cases ht : t = 0
        · subst ht
          by_cases hn : n = 0
          · subst hn
            cases s with
            | nil =>
              have he : tstP ⟨nm, 4, 0, 0, []⟩ = 0 := by unfold tstP howE; rw [if_pos h1, if_neg h2]; rfl
              rw [he]
              clear he h1 hx h2
              show Calls Tryz.prog 18 #[.agg #[.string (bs nm), .int .i64 4, .int .i64 0, .int .i64 0, .string ⟨#[]⟩]] w _
              go_enter Tryz.func18, Tryz.ntmps18
              go_wp2_with (first | (go_at_call 17; refine (c1 _).mono ?_; rintro e w' ⟨rfl, rfl⟩))
              go_ret
              exact ⟨rfl, HB0.out⟩
            | cons x y =>
              have he : tstP ⟨nm, 4, 0, 0, x :: y⟩ = 3 := by unfold tstP howE; rw [if_pos h1, if_neg h2]; simp
              rw [he]
              clear he h1 hx h2
              have g1 : ¬ (bs (x :: y)).toList = [] := by rw [bs_toList]; simp
              have g2 : (bs (x :: y)).toList.isEmpty = false := by rw [bs_toList]; rfl
              generalize hq : bs (x :: y) = q at g1 g2
              rw [show (Tst.mk nm 4 0 0 (x :: y)).one = .agg #[.string (bs nm), .int .i64 4, .int .i64 0, .int .i64 0, .string q] by rw [← hq]] at *
              have HB1 : Hid (Below w.heap.size w (w.alloc (.cells #[.string (bs nm), .int .i64 4, .int .i64 0, .int .i64 0, .string q] 33))) := (Below.refl _ w).alloc (Nat.le_refl _) _
              clear hq HB0
              go_enter Tryz.func18, Tryz.ntmps18
              go_wp2_with (first | (go_at_call 17; refine (c1 _).mono ?_; rintro e w' ⟨rfl, rfl⟩))
              go_ret
              exact ⟨rfl, HB1.out⟩
          · have he : tstP ⟨nm, 4, 0, n, s⟩ = 3 := by unfold tstP howE; rw [if_pos h1, if_neg h2, if_pos rfl, if_neg (by simp [hn])]
            rw [he]
            have b1 : (n == 0) = false := by simpa using hn
            clear he h1 hx h2
            go_enter Tryz.func18, Tryz.ntmps18
            go_wp2_with (first | (go_at_call 17; refine (c1 _).mono ?_; rintro e w' ⟨rfl, rfl⟩))
            go_ret
            exact ⟨rfl, HB0.out⟩
        · have he : tstP ⟨nm, 4, t, n, s⟩ = 3 := by unfold tstP howE; rw [if_pos h1, if_neg h2, if_pos rfl, if_neg (by simp [ht])]
          rw [he]
          have b1 : (t == 0) = false := by simpa using ht
          clear he h1 hx h2
          go_enter Tryz.func18, Tryz.ntmps18
          go_wp2_with (first | (go_at_call 17; refine (c1 _).mono ?_; rintro e w' ⟨rfl, rfl⟩))
          go_ret
          exact ⟨rfl, HB0.out⟩
      · have he : tstP ⟨nm, hw, t, n, s⟩ = 1 := by unfold tstP howE; rw [if_pos h1, if_neg h2, if_neg h4]
        rw [he]
        have h5 : hw < 1 ∨ 4 < hw := by omega
        clear he h1 hx h2 h4 c2
        rcases h5 with h5 | h5
        · have b1 : decide (hw < 1) = true := by simpa using h5
          go_enter Tryz.func18, Tryz.ntmps18
          go_wp2_with (first | (go_at_call 17; refine (c1 _).mono ?_; rintro e w' ⟨rfl, rfl⟩))
          go_ret
          exact ⟨rfl, HB0.out⟩
        · have b0 : decide (hw < 1) = false := by simp; omega
          have b1 : decide (4 < hw) = true := by simpa using h5
          go_enter Tryz.func18, Tryz.ntmps18
          go_wp2_with (first | (go_at_call 17; refine (c1 _).mono ?_; rintro e w' ⟨rfl, rfl⟩))
          go_ret
          exact ⟨rfl, HB0.out⟩
  · have h2 := nErr_2 h1
    have he : tstP ⟨nm, hw, t, n, s⟩ = 2 := by unfold tstP; rw [if_neg h1]; exact h2
    rw [he]
    rw [h2] at c1
    clear he h1 hx h2 c2
    go_enter Tryz.func18, Tryz.ntmps18
    go_wp2_with (first | (go_at_call 17; refine (c1 _).mono ?_; rintro e w' ⟨rfl, rfl⟩))
    go_ret
    exact ⟨rfl, HB0.out⟩
end Go.Proofs.YtmgkdghkenpmbaaGreatDoor
