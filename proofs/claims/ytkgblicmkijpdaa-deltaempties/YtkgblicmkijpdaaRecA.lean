/-
  The walk of record.Check.
-/
import Derived.Test.YtkgblicmkijpdaaRecM
namespace Go.Proofs.Ytkgblicmkijpdaa
open Go.RowKit
set_option linter.unusedVariables false
set_option linter.unusedSimpArgs false

theorem errV_7 : errV 7 = .iface 60 (.int .i64 7) := rfl
theorem prv_0 (L : List Pr) : prv L 0 = none := rfl
theorem prv_s {L : List Pr} {k : Nat} {q : Pr} (h : L[k]? = some q) : prv L (k + 1) = some q := by unfold prv; rw [if_neg (by omega)]; simpa using h
theorem b_alloc {w wr : World} (h : Below w.heap.size w wr) (o : Obj) : Below w.heap.size w (wr.alloc o) := h.alloc h.size _
theorem b_drewN {B : Nat} {a w : World} (h : Below B a w) : ∀ n, Below B a (w.drewN n) := fun n => ⟨h.os, h.tape, h.output, h.size, h.block⟩

set_option maxHeartbeats 4000000 in
set_option maxRecDepth 100000 in
theorem rcheck_some (b off cap : Nat) (L : List Pr) (w : World) (hb : b < w.heap.size) (hL : Lies w b off L) (hs : Sz L) (hn : L.length ≤ 8) :
    Calls Try.prog 49 #[.slice (some ⟨b, off, none⟩) L.length cap] w fun e w' => e = .returned (errV (chk none L)) ∧ Below w.heap.size w w' := by
  go_enter Try.func49, Try.ntmps49
  go_wp2
  go_loopw [13] (fun i wr => ∃ k : Nat, k ≤ L.length ∧ i = .int .i64 k ∧ chk none L = chk (prv L k) (L.drop k) ∧ Below w.heap.size w wr) (fun i _ => L.length - (intOf i).toNat)
  case atStart => exact ⟨0, Nat.zero_le _, rfl, rfl, Below.refl _ _⟩
  case round =>
    obtain ⟨k, hk, rfl, hc, hB⟩ := hrel
    have HC : Hid (chk none L = chk (prv L k) (L.drop k)) := hc
    clear hc
    by_cases hlt : k < L.length
    · obtain ⟨p, hp⟩ : ∃ p, L[k]? = some p := ⟨L[k], by simp [hlt]⟩
      obtain ⟨c0, c1, c2, c3⟩ := hL k p hp
      have d0 := (hB.cell (p := ⟨b, off + k * 4, none⟩) hb).trans c0
      have d1 := (hB.cell (p := ⟨b, off + k * 4 + 1, none⟩) hb).trans c1
      have d2 := (hB.cell (p := ⟨b, off + k * 4 + 2, none⟩) hb).trans c2
      have d3 := (hB.cell (p := ⟨b, off + k * 4 + 3, none⟩) hb).trans c3
      have HP : Hid (L[k]? = some p) := hp
      have HD : Hid (L.drop k = p :: L.drop (k + 1)) := drop_at hp
      obtain ⟨z1, z2⟩ := hs p (List.mem_of_getElem? hp)
      have hbr : b < wr.heap.size := Nat.lt_of_lt_of_le hb hB.size
      have hbn : ¬ b = wr.heap.size := by omega
      have nm := fun w => name_any p.nm w z1
      have cm := fun w => check_any p.t p.n p.s w z2
      have HZ : Hid (L.length ≤ 8 ∧ Sz L ∧ Lies w b off L) := ⟨hn, hs, hL⟩
      clear c0 c1 c2 c3 hp hs hL
      by_cases h1 : nErr p.l = 0
      · by_cases h2 : p.bad = 0
        · have nm' : ∀ w, Calls Try.prog 48 #[.string p.nm] w fun e w' => e = .returned .nilIface ∧ w' = w := fun w => by
            have := nm w; rw [show nErr p.nm.data.toList = 0 from h1] at this; exact this
          have cm' : ∀ w, Calls Try.prog 68 #[val p.t p.n p.s] w fun e w' => e = .returned .nilIface ∧ w' = w.alloc (.cells #[.int .i64 p.t, .int .i64 p.n, .string p.s] 36) := fun w => by
            have := cm w; rw [show vErr p.t p.n p.s.data.toList = 0 from h2] at this; exact this
          clear nm cm
          have H12 : Hid (nErr p.l = 0 ∧ p.bad = 0) := ⟨h1, h2⟩
          clear h1 h2
          by_cases hk0 : k = 0
          · subst hk0
            have hstep : Hid (chk none L = chk (prv L (0 + 1)) (L.drop (0 + 1))) := by
              show _ = _
              have := HC.out; rw [HD.out, prv_0, chk_first H12.out.1 H12.out.2] at this
              rw [this, prv_s HP.out]
            clear HC HD H12
            simp only [Nat.zero_mul, Nat.add_zero] at d0 d1 d2 d3
            go_wp2_with (first | (go_at_call 48; refine (nm' _).mono ?_; rintro e w' ⟨rfl, rfl⟩) | (go_at_call 68; refine (cm' _).mono ?_; rintro e w' ⟨rfl, rfl⟩))
            go_quiet (fail)
            go_wp2
            go_roundw
            case rel => exact ⟨0 + 1, by omega, by go_num, hstep.out, b_drewN (b_alloc (b_alloc hB _) _) _⟩
            case measure => simp [intOf]; omega
          · obtain ⟨q, hq⟩ : ∃ q, L[k - 1]? = some q := ⟨L[k - 1], by simp⟩
            have hprv : prv L k = some q := by unfold prv; rw [if_neg hk0]; exact hq
            obtain ⟨c0, _⟩ := HZ.out.2.2 (k - 1) q hq
            have e0 := (hB.cell (p := ⟨b, off + (k - 1) * 4, none⟩) hb).trans c0
            have hw1 : IntKind.i64.wrap ((k - 1 : Nat) : Int) = ((k - 1 : Nat) : Int) := by rw [IntKind.wrap_i64]; omega
            have hb1 : ((k - 1 : Nat) : Int) < (L.length : Int) := by omega
            have hg : 0 < k := by omega
            have hcast : (k : Int) - 1 = ((k - 1 : Nat) : Int) := by omega
            clear c0 hq
            by_cases h3 : p.low q = true
            · have H : Hid (errV (chk none L) = .iface 60 (.int .i64 7)) := by
                show _ = _
                rw [HC.out, HD.out, hprv, chk_low H12.out.1 H12.out.2 h3, errV_7]
              clear HC HD H12 hprv
              rcases low_parts h3 with h3' | ⟨h3', h4'⟩
              all_goals
                clear h3
                go_wp2_with (first | (go_at_call 48; refine (nm' _).mono ?_; rintro e w' ⟨rfl, rfl⟩) | (go_at_call 68; refine (cm' _).mono ?_; rintro e w' ⟨rfl, rfl⟩))
                go_quiet (fail)
                go_wp2
                go_ret
                exact ⟨ret_v H.out.symm, b_drewN (b_alloc (b_alloc hB _) _) _⟩
            · have hstep : Hid (chk none L = chk (prv L (k + 1)) (L.drop (k + 1))) := by
                show _ = _
                have := HC.out; rw [HD.out, hprv, chk_up H12.out.1 H12.out.2 (by simpa using h3)] at this
                rw [this, prv_s HP.out]
              clear HC HD H12 hprv
              obtain ⟨h3', h4'⟩ := up_parts h3
              clear h3
              go_wp2_with (first | (go_at_call 48; refine (nm' _).mono ?_; rintro e w' ⟨rfl, rfl⟩) | (go_at_call 68; refine (cm' _).mono ?_; rintro e w' ⟨rfl, rfl⟩))
              go_quiet (fail)
              go_wp2
              go_roundw
              case rel => exact ⟨k + 1, by omega, by go_num, hstep.out, b_drewN (b_alloc (b_alloc hB _) _) _⟩
              case measure => simp [intOf]; omega
        · have cm' : ∀ w, Calls Try.prog 68 #[val p.t p.n p.s] w fun e w' => e = .returned (.iface 60 (.int .i64 p.bad)) ∧ w' = w.alloc (.cells #[.int .i64 p.t, .int .i64 p.n, .string p.s] 36) := fun w => by
            have := cm w; rw [show vErr p.t p.n p.s.data.toList = p.bad from rfl, errV_ne h2] at this; exact this
          have nm' : ∀ w, Calls Try.prog 48 #[.string p.nm] w fun e w' => e = .returned .nilIface ∧ w' = w := fun w => by
            have := nm w; rw [show nErr p.nm.data.toList = 0 from h1] at this; exact this
          have H : Hid (errV (chk none L) = .iface 60 (.int .i64 p.bad)) := by
            show _ = _
            rw [HC.out, HD.out, chk_bad h1 h2, errV_ne h2]
          clear HC HD nm cm h1 h2
          go_wp2_with (first | (go_at_call 48; refine (nm' _).mono ?_; rintro e w' ⟨rfl, rfl⟩) | (go_at_call 68; refine (cm' _).mono ?_; rintro e w' ⟨rfl, rfl⟩))
          go_ret
          exact ⟨ret_v H.out.symm, b_alloc (b_alloc hB _) _⟩
      · have nm' : ∀ w, Calls Try.prog 48 #[.string p.nm] w fun e w' => e = .returned (.iface 60 (.int .i64 (nErr p.l))) ∧ w' = w := fun w => by
          have := nm w; rw [show nErr p.nm.data.toList = nErr p.l from rfl, errV_ne h1] at this; exact this
        have H : Hid (errV (chk none L) = .iface 60 (.int .i64 (nErr p.l))) := by
          show _ = _
          rw [HC.out, HD.out, chk_name h1, errV_ne h1]
        clear HC HD nm cm h1
        go_wp2_with (first | (go_at_call 48; refine (nm' _).mono ?_; rintro e w' ⟨rfl, rfl⟩))
        go_ret
        exact ⟨ret_v H.out.symm, b_alloc hB _⟩
    · have hd : L.drop k = [] := List.drop_eq_nil_of_le (by omega)
      have H : Hid (errV (chk none L) = .nilIface) := by
        show _ = _
        rw [HC.out, hd, chk_end]; rfl
      clear HC hd
      go_wp2
      go_ret
      exact ⟨ret_v H.out.symm, hB⟩
end Go.Proofs.Ytkgblicmkijpdaa
