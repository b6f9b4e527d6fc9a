/-
  The walks of the document's reader: a letter, a name.
-/
import Derived.Test.YtmgkdghkenpmbaaGreatDoorRkA
namespace Go.Proofs.YtmgkdghkenpmbaaGreatDoor
open Go.RowKit
set_option linter.unusedVariables false
set_option linter.unusedSimpArgs false

/-- Does it begin with a letter? -/
def hdL (r : Nm) : Bool := match r with
  | [] => false
  | c :: _ => isL c
theorem hdL_drop {s : ByteArray} {k : Nat} (h : k < s.size) : hdL (s.data.toList.drop k) = isL s[k] := by rw [drop_c h]; rfl
theorem hdL_end {s : ByteArray} {k : Nat} (h : ¬ k < s.size) : hdL (s.data.toList.drop k) = false := by rw [drop_end s k h]; rfl
set_option maxHeartbeats 2000000 in
set_option maxRecDepth 100000 in
theorem letter_any {b : Nat} {s : ByteArray} {σ : Nm × Bool} {w : World} (h : Rk b s σ w) (hs : s.size ≤ maxLen) :
    Calls Tryz.prog 56 #[rp b] w fun e w' => e = .returned (.bool (!σ.2 && hdL σ.1)) ∧ ∃ n, w' = w.drewN n := by
  obtain ⟨r, bad⟩ := σ
  obtain ⟨k, hk, hr, hB⟩ := h
  simp only at hr hB ⊢
  unfold maxLen at hs
  have c0 : w.cell? ⟨b, 0, none⟩ = some (.string s) := cell_at hB rfl
  have c1 : w.cell? ⟨b, 1, none⟩ = some (.int .i64 (k : Int)) := cell_at hB rfl
  have c2 : w.cell? ⟨b, 2, none⟩ = some (.bool bad) := cell_at hB rfl
  subst hr
  clear hB
  cases bad with
  | true =>
    rw [show ∀ x, (!true && x) = false from fun x => rfl]
    go_enter Tryz.func56, Tryz.ntmps56
    go_wp2
    go_quiet (fail)
    go_wp2
    go_ret
    exact ⟨rfl, nq, rfl⟩
  | false =>
    rw [show ∀ x, (!false && x) = x from fun x => rfl]
    by_cases hlt : k < s.size
    · rw [hdL_drop hlt]
      have g1 : decide ((k : Int) < (s.size : Int)) = true := by simp; omega
      by_cases h97 : 97 ≤ (s[k].toNat : Int)
      · have g2 : decide (97 ≤ (s[k].toNat : Int)) = true := by simpa using h97
        have HR : Hid (decide ((s[k].toNat : Int) ≤ 122) = isL s[k]) := by
          show _ = _
          rw [Bool.eq_iff_iff, isL_iff]; simp; omega
        clear h97
        go_enter Tryz.func56, Tryz.ntmps56
        go_wp2
        go_quiet (fail)
        go_wp2
        go_ret
        exact ⟨ret_bool HR.out, nq, rfl⟩
      · have g2 : decide (97 ≤ (s[k].toNat : Int)) = false := by simpa using h97
        have HR : Hid (false = isL s[k]) := by
          show _ = _
          cases hh : isL s[k] with
          | true => have := (isL_iff _).1 hh; omega
          | false => rfl
        clear h97
        go_enter Tryz.func56, Tryz.ntmps56
        go_wp2
        go_quiet (fail)
        go_wp2
        go_ret
        exact ⟨ret_bool HR.out, nq, rfl⟩
    · rw [hdL_end hlt]
      have g1 : decide ((k : Int) < (s.size : Int)) = false := by simp; omega
      go_enter Tryz.func56, Tryz.ntmps56
      go_wp2
      go_quiet (fail)
      go_wp2
      go_ret
      exact ⟨rfl, nq, rfl⟩

/-- A name is read. -/
def nmS (σ : Nm × Bool) : Nm × Bool := if (!σ.2 && hdL σ.1) = true then (nameD σ.1, false) else (σ.1, true)
def nmV (σ : Nm × Bool) : Nm := if (!σ.2 && hdL σ.1) = true then nameT σ.1 else []
set_option maxHeartbeats 4000000 in
set_option maxRecDepth 100000 in
theorem kname_any {b : Nat} {s : ByteArray} {σ : Nm × Bool} {w : World} (h : Rk b s σ w) (hs : s.size ≤ maxLen) :
    Calls Tryz.prog 39 #[rp b] w fun e w' => e = .returned (.string (bs (nmV σ))) ∧ Rk b s (nmS σ) w' ∧ Gw b w w' := by
  have cL := letter_any h hs
  by_cases hc : (!σ.2 && hdL σ.1) = true
  · have HE : Hid (nmS σ = (nameD σ.1, false) ∧ nmV σ = nameT σ.1) := by unfold nmS nmV; rw [if_pos hc, if_pos hc]; exact ⟨rfl, rfl⟩
    rw [hc] at cL
    have hb : σ.2 = false := by cases h2 : σ.2 <;> simp [h2] at hc ⊢
    obtain ⟨r, bad⟩ := σ
    simp only at hb
    subst hb
    obtain ⟨k, hk, hr, hB⟩ := h
    simp only at hr hB
    subst hr
    rw [HE.out.1, HE.out.2]
    simp only
    have c1 : w.cell? ⟨b, 1, none⟩ = some (.int .i64 (k : Int)) := cell_at hB rfl
    have hS := hs
    unfold maxLen at hs
    clear hc HE
    go_enter Tryz.func39, Tryz.ntmps39
    go_wp2_with (go_at_call 56; refine cL.mono ?_; rintro e W1 ⟨rfl, nq, rfl⟩)
    clear c1
    go_loopw [16] (fun i wr => ∃ m : Nat, k ≤ m ∧ m ≤ s.size ∧ nameT (s.data.toList.drop k) = (s.data.toList.drop k).take (m - k) ++ nameT (s.data.toList.drop m) ∧ nameD (s.data.toList.drop k) = nameD (s.data.toList.drop m) ∧ wr.heap[b]? = some (.cells #[.string s, .int .i64 (m : Int), .bool false] 60 (0, 0)) ∧ Gw b w wr) (fun i wr => s.size - atOf b wr)
    case atStart => exact ⟨k, Nat.le_refl _, hk, by simp, rfl, hB, (Gw.refl _ _).drew _⟩
    case round =>
      obtain ⟨m, hkm, hm, hT, hD, hBr, hG⟩ := hrel
      clear hB cL
      have cE := letter_any (b := b) (s := s) (σ := (s.data.toList.drop m, false)) (w := wr) ⟨m, hm, rfl, hBr⟩ hS
      rw [show ∀ x, (!false && x) = x from fun x => rfl] at cE
      have c0 : wr.cell? ⟨b, 0, none⟩ = some (.string s) := cell_at hBr rfl
      have c1 : wr.cell? ⟨b, 1, none⟩ = some (.int .i64 (m : Int)) := cell_at hBr rfl
      have f1 : wr.frozen? ⟨b, 1, none⟩ = false := frz_at hBr
      have HB := Lib.hid hBr
      have HG := Lib.hid hG
      have HT := Lib.hid hT
      have HD := Lib.hid hD
      have HA := Lib.hid (atOf_eq c1)
      clear hBr hG hT hD
      by_cases hl : hdL (s.data.toList.drop m) = true
      · have hlt : m < s.size := by
          by_cases h : m < s.size
          · exact h
          · rw [hdL_end h] at hl; simp at hl
        have hl2 : isL s[m] = true := by rw [← hdL_drop hlt]; exact hl
        rw [hl] at cE
        have HT2 := Lib.hid (name_step hkm hlt hl2 HT.out)
        have HD2 := Lib.hid (HD.out.trans (nameD_step hlt hl2))
        clear hl hl2 HT HD
        go_wp2_with (go_at_call 56; refine cE.mono ?_; rintro e W2 ⟨rfl, np, rfl⟩)
        go_roundw
        case rel =>
          refine ⟨m + 1, by omega, by omega, HT2.out, HD2.out, ?_, (HG.out.drew _).set _ _⟩
          exact rk_put (w := wr.drewN np) HB.out ((m : Int) + 1)
        case measure =>
          have := HA.out
          have e2 : atOf b ((wr.drewN np).setCell ⟨b, 1, none⟩ (.int .i64 ((m : Int) + 1))) = m + 1 := atOf_eq (by
            have := rk_put (w := wr.drewN np) HB.out ((m : Int) + 1)
            exact cell_at this rfl)
          simp at e2 ⊢
          omega
      · have hl' : hdL (s.data.toList.drop m) = false := by simpa using hl
        rw [hl'] at cE
        have hend : ¬ m < s.size ∨ ∃ h : m < s.size, isL s[m] = false := by
          by_cases h : m < s.size
          · exact .inr ⟨h, by rw [← hdL_drop h]; exact hl'⟩
          · exact .inl h
        obtain ⟨n1, n2⟩ := name_end hend
        have hsl := fun w => slice_mid s k m hkm hm w
        rw [nameT_take hkm hm HT.out n1] at hsl
        have HD2 := Lib.hid (HD.out.trans n2)
        clear hl hl' n1 n2 HD HT hend
        go_wp2_with (go_at_call 56; refine cE.mono ?_; rintro e W2 ⟨rfl, np, rfl⟩)
        go_quiet (fail)
        go_wp2
        go_ret
        exact ⟨rfl, ⟨m, hm, HD2.out.symm, HB.out⟩, (HG.out.drew _).drew _⟩
  · have hc' : (!σ.2 && hdL σ.1) = false := by simpa using hc
    have HE : Hid (nmS σ = (σ.1, true) ∧ nmV σ = []) := by unfold nmS nmV; rw [if_neg hc, if_neg hc]; exact ⟨rfl, rfl⟩
    rw [hc'] at cL
    rw [HE.out.1, HE.out.2]
    obtain ⟨k, hk, hr, hB⟩ := h
    have c1 : w.cell? ⟨b, 1, none⟩ = some (.int .i64 (k : Int)) := cell_at hB rfl
    have c2 : w.cell? ⟨b, 2, none⟩ = some (.bool σ.2) := cell_at hB rfl
    have f2 : w.frozen? ⟨b, 2, none⟩ = false := frz_at hB
    have HB := Lib.hid hB
    have HQ := Lib.hid hr
    clear hB hr hc hc' HE
    go_enter Tryz.func39, Tryz.ntmps39
    go_wp2_with (go_at_call 56; refine cL.mono ?_; rintro e W1 ⟨rfl, nq, rfl⟩)
    go_ret
    exact ⟨rfl, ⟨k, hk, HQ.out, rk_bad (w := w.drewN nq) HB.out true⟩, ((Gw.refl b w).drew nq).set _ _⟩
end Go.Proofs.YtmgkdghkenpmbaaGreatDoor
