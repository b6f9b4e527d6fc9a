/-
  The walks of the reader: a test's sign, the word that is a value.
-/
import Derived.Test.YtmgkdghkenpmbaaGreatDoorAskB
namespace Go.Proofs.YtmgkdghkenpmbaaGreatDoor
open Go.RowKit
set_option linter.unusedVariables false
set_option linter.unusedSimpArgs false

theorem take1_yes {b : Nat} {s : ByteArray} {r : Nm} {w : World} (h : Rd b s r w) (hs : s.size ≤ maxLen) {c : UInt8} (hc : seesB r c = true) :
    Calls Tryz.prog 58 #[rp b, .string ⟨#[c]⟩] w fun e w' => e = .returned (.bool true) ∧ Rd b s r.tail w' ∧ Gw b w w' := by
  have := take_any h hs ⟨#[c]⟩ (show 1 ≤ 1000 by decide)
  rw [show (⟨#[c]⟩ : ByteArray).data.toList = [c] from rfl, takeR_one, if_pos hc] at this
  exact this
theorem take1_no {b : Nat} {s : ByteArray} {r : Nm} {w : World} (h : Rd b s r w) (hs : s.size ≤ maxLen) {c : UInt8} (hc : seesB r c = false) :
    Calls Tryz.prog 58 #[rp b, .string ⟨#[c]⟩] w fun e w' => e = .returned (.bool false) ∧ Rd b s r w' ∧ Gw b w w' := by
  have := take_any h hs ⟨#[c]⟩ (show 1 ≤ 1000 by decide)
  rw [show (⟨#[c]⟩ : ByteArray).data.toList = [c] from rfl, takeR_one, if_neg (by rw [hc]; simp)] at this
  exact this

/-- The signs of tests lie where they were laid. -/
def Sg (w : World) : Prop := w.cell? ⟨0, 1, none⟩ = some (.string ⟨#[61]⟩) ∧ w.cell? ⟨0, 2, none⟩ = some (.string ⟨#[33]⟩) ∧ w.cell? ⟨0, 3, none⟩ = some (.string ⟨#[60]⟩)
theorem Sg.lt {w : World} (h : Sg w) : 0 < w.heap.size := cell_lt h.1
theorem Sg.gw {b : Nat} {w w' : World} (h : Sg w) (hG : Gw b w w') (hb : b ≠ 0) : Sg w' := by
  have e : w'.heap[0]? = w.heap[0]? := hG.block 0 h.lt (fun e => hb (by injection e with e; exact e.symm))
  have k : ∀ i, w'.cell? ⟨0, i, none⟩ = w.cell? ⟨0, i, none⟩ := fun i => by simp [World.cell?, e]
  unfold Sg; rw [k, k, k]; exact h
theorem Sg.on {w w' : World} (h : Sg w) (hB : Below w.heap.size w w') : Sg w' :=
  ⟨(hB.cell (p := ⟨0, 1, none⟩) h.lt).trans h.1, (hB.cell (p := ⟨0, 2, none⟩) h.lt).trans h.2.1, (hB.cell (p := ⟨0, 3, none⟩) h.lt).trans h.2.2⟩
theorem howR_1 {r : Nm} (h : seesB r 61 = true) : howR r = (r.tail, 1) := by rw [sees_true h]; simp [howR]
theorem howR_2 {r : Nm} (h : seesB r 33 = true) : howR r = (r.tail, 2) := by rw [sees_true h]; simp [howR]
theorem howR_3 {r : Nm} (h : seesB r 60 = true) : howR r = (r.tail, 3) := by rw [sees_true h]; simp [howR]
theorem howR_4 {r : Nm} (h1 : seesB r 61 = false) (h2 : seesB r 33 = false) (h3 : seesB r 60 = false) : howR r = (r, 4) := by
  cases r with
  | nil => rfl
  | cons x q => simp [seesB] at h1 h2 h3; simp [howR, h1, h2, h3]

set_option maxHeartbeats 2000000 in
set_option maxRecDepth 100000 in
theorem how_any {b : Nat} {s : ByteArray} {r : Nm} {w : World} (h : Rd b s r w) (hs : s.size ≤ maxLen) (hS : Sg w) (hb : b ≠ 0) :
    Calls Tryz.prog 74 #[rp b] w fun e w' => e = .returned (.int .i64 (howR r).2) ∧ Rd b s (howR r).1 w' ∧ Gw b w w' := by
  go_enter Tryz.func74, Tryz.ntmps74
  go_wp2
  go_loopw [3] (fun i wr => ∃ j : Nat, (j = 1 ∨ j = 2 ∨ j = 3 ∨ j = 4) ∧ i = .int .i64 (j : Int) ∧ (1 < j → seesB r 61 = false) ∧ (2 < j → seesB r 33 = false) ∧ (3 < j → seesB r 60 = false) ∧ Rd b s r wr ∧ Gw b w wr) (fun i wr => 4 - (intOf i).toNat)
  case atStart => exact ⟨1, .inl rfl, rfl, fun h => by omega, fun h => by omega, fun h => by omega, h, Gw.refl _ _⟩
  case round =>
    obtain ⟨j, hj, rfl, h1, h2, h3, hR, hG⟩ := hrel
    obtain ⟨s1, s2, s3⟩ := hS.gw hG hb
    have HG := Lib.hid hG
    clear hG h hS
    rcases hj with rfl | rfl | rfl | rfl
    · clear h1 h2 h3 s2 s3
      by_cases hc : seesB r 61 = true
      · have cT := take1_yes hR hs hc
        have HH := Lib.hid (howR_1 hc)
        clear hR hc
        go_wp2_with (go_at_call 58; refine cT.mono ?_; rintro e W1 ⟨rfl, hR1, hG1⟩; have HR1 := Lib.hid hR1; clear hR1)
        go_ret
        rw [HH.out]
        exact ⟨rfl, HR1.out, grown_trans HG.out hG1⟩
      · have hc' : seesB r 61 = false := by simpa using hc
        have cT := take1_no hR hs hc'
        clear hR hc
        have HC := Lib.hid hc'
        clear hc'
        go_wp2_with (go_at_call 58; refine cT.mono ?_; rintro e W1 ⟨rfl, hR1, hG1⟩; have HR1 := Lib.hid hR1; clear hR1)
        go_roundw
        case rel => exact ⟨2, .inr (.inl rfl), rfl, fun _ => HC.out, fun h => by omega, fun h => by omega, HR1.out, grown_trans HG.out hG1⟩
        case measure => simp [intOf]
    · have HC := Lib.hid (h1 (by omega))
      clear h1 h2 h3 s1 s3
      by_cases hc : seesB r 33 = true
      · have cT := take1_yes hR hs hc
        have HH := Lib.hid (howR_2 hc)
        clear hR hc
        go_wp2_with (go_at_call 58; refine cT.mono ?_; rintro e W1 ⟨rfl, hR1, hG1⟩; have HR1 := Lib.hid hR1; clear hR1)
        go_ret
        rw [HH.out]
        exact ⟨rfl, HR1.out, grown_trans HG.out hG1⟩
      · have hc' : seesB r 33 = false := by simpa using hc
        have cT := take1_no hR hs hc'
        clear hR hc
        have HC2 := Lib.hid hc'
        clear hc'
        go_wp2_with (go_at_call 58; refine cT.mono ?_; rintro e W1 ⟨rfl, hR1, hG1⟩; have HR1 := Lib.hid hR1; clear hR1)
        go_roundw
        case rel => exact ⟨3, .inr (.inr (.inl rfl)), rfl, fun _ => HC.out, fun _ => HC2.out, fun h => by omega, HR1.out, grown_trans HG.out hG1⟩
        case measure => simp [intOf]
    · have HC := Lib.hid (h1 (by omega))
      have HC2 := Lib.hid (h2 (by omega))
      clear h1 h2 h3 s1 s2
      by_cases hc : seesB r 60 = true
      · have cT := take1_yes hR hs hc
        have HH := Lib.hid (howR_3 hc)
        clear hR hc
        go_wp2_with (go_at_call 58; refine cT.mono ?_; rintro e W1 ⟨rfl, hR1, hG1⟩; have HR1 := Lib.hid hR1; clear hR1)
        go_ret
        rw [HH.out]
        exact ⟨rfl, HR1.out, grown_trans HG.out hG1⟩
      · have hc' : seesB r 60 = false := by simpa using hc
        have cT := take1_no hR hs hc'
        clear hR hc
        have HC3 := Lib.hid hc'
        clear hc'
        go_wp2_with (go_at_call 58; refine cT.mono ?_; rintro e W1 ⟨rfl, hR1, hG1⟩; have HR1 := Lib.hid hR1; clear hR1)
        go_roundw
        case rel => exact ⟨4, .inr (.inr (.inr rfl)), rfl, fun _ => HC.out, fun _ => HC2.out, fun _ => HC3.out, HR1.out, grown_trans HG.out hG1⟩
        case measure => simp [intOf]
    · have HH := Lib.hid (howR_4 (h1 (by omega)) (h2 (by omega)) (h3 (by omega)))
      have HR := Lib.hid hR
      clear h1 h2 h3 s1 s2 s3 hR
      go_wp2
      go_ret
      rw [HH.out]
      exact ⟨rfl, HR.out, HG.out⟩

theorem slice_head (s : ByteArray) (m : Nat) (h2 : m ≤ s.size) (w : World) : (Instr.slice 9 (.string s) none (some (.int .i64 (m : Int))) none).run Tryz.prog w = .ok (.string (bs (s.data.toList.take m))) w := by
  rw [run_slice_string_to_if w 9 s .i64 (m : Int) Tryz.underlying9, if_pos (by omega)]
  congr 2
  have e : (s.extract 0 ((m : Int)).toNat).data.toList = s.data.toList.take m := by
    rw [ByteArray.data_extract, Array.toList_extract, List.extract_eq_take_drop]; simp
  rw [← e]; exact (list_eq rfl)
theorem take_s (s : ByteArray) (k : Nat) (h : k < s.size) : s.data.toList.take (k + 1) = s.data.toList.take k ++ [s[k]] := take_snoc s k h
theorem vw_go {s : ByteArray} {k : Nat} {q q' : Bool} (h : k < s.size) (hv : vw false s.data.toList = s.data.toList.take k ++ vw q (s.data.toList.drop k)) (hn : vw q (s[k] :: s.data.toList.drop (k + 1)) = s[k] :: vw q' (s.data.toList.drop (k + 1))) :
    vw false s.data.toList = s.data.toList.take (k + 1) ++ vw q' (s.data.toList.drop (k + 1)) := by
  rw [hv, drop_c h, hn, take_s s k h]; simp
theorem vw_stop {s : ByteArray} {k : Nat} {q : Bool} (h : k < s.size) (hv : vw false s.data.toList = s.data.toList.take k ++ vw q (s.data.toList.drop k)) (hn : vw q (s[k] :: s.data.toList.drop (k + 1)) = []) :
    s.data.toList.take k = vw false s.data.toList := by
  rw [hv, drop_c h, hn]; simp
theorem beq_t {c : UInt8} {n : Int} {m : UInt8} (h : c = m) (hm : (m.toNat : Int) = n) : ((c.toNat : Int) == n) = true := by rw [h, hm]; simp
theorem beq_f {c : UInt8} {n : Int} {m : UInt8} (h : ¬ c = m) (hm : (m.toNat : Int) = n) : ((c.toNat : Int) == n) = false := by
  rw [← hm]; simp; intro e; exact h (UInt8.toNat_inj.1 (by omega))

set_option maxHeartbeats 2000000 in
set_option maxRecDepth 100000 in
theorem valueWord_any (s : ByteArray) (w : World) (hs : s.size ≤ maxLen) :
    Calls Tryz.prog 83 #[.string s] w fun e w' => e = .returned (.string (bs (vw false s.data.toList))) ∧ w' = w := by
  unfold maxLen at hs
  go_enter Tryz.func83, Tryz.ntmps83
  go_wp2
  go_loop [3, 7] (fun q i => ∃ (k : Nat) (b : Bool), k ≤ s.size ∧ i = .int .i64 (k : Int) ∧ q = .bool b ∧ vw false s.data.toList = s.data.toList.take k ++ vw b (s.data.toList.drop k)) (fun _ i => s.size - (intOf i).toNat)
  case atStart => exact ⟨0, false, Nat.zero_le _, rfl, rfl, by simp⟩
  case round =>
    obtain ⟨k, b, hk, rfl, rfl, hv⟩ := hrel
    have HV := Lib.hid hv
    clear hv
    by_cases hlt : k < s.size
    · by_cases h39 : s[k] = 39
      · have HN := Lib.hid (vw_go (q' := !b) hlt HV.out (by rw [h39]; simp [vw]))
        have e1 : ((s[k].toNat : Int) == 39) = true := beq_t h39 rfl
        clear h39 HV
        go_wp2
        go_round
        case rel => exact ⟨k + 1, !b, by omega, by go_num, rfl, HN.out⟩
        case measure => simp [intOf]; omega
      · have e1 : ((s[k].toNat : Int) == 39) = false := beq_f h39 rfl
        by_cases h44 : s[k] = 44
        · have e2 : ((s[k].toNat : Int) == 44) = true := beq_t h44 rfl
          cases b with
          | true =>
            have HN := Lib.hid (vw_go (q' := true) hlt HV.out (by rw [h44]; simp [vw]))
            clear h39 h44 HV
            go_wp2
            go_round
            case rel => exact ⟨k + 1, true, by omega, by go_num, rfl, HN.out⟩
            case measure => simp [intOf]; omega
          | false =>
            have HN := Lib.hid (vw_stop hlt HV.out (by rw [h44]; simp [vw]))
            have hsl := fun w => slice_head s k hk w
            rw [HN.out] at hsl
            clear h39 h44 HV
            go_wp2
            go_ret
            exact ⟨rfl, rfl⟩
        · have e2 : ((s[k].toNat : Int) == 44) = false := beq_f h44 rfl
          by_cases h93 : s[k] = 93
          · have e3 : ((s[k].toNat : Int) == 93) = true := beq_t h93 rfl
            cases b with
            | true =>
              have HN := Lib.hid (vw_go (q' := true) hlt HV.out (by rw [h93]; simp [vw]))
              clear h39 h44 h93 HV
              go_wp2
              go_round
              case rel => exact ⟨k + 1, true, by omega, by go_num, rfl, HN.out⟩
              case measure => simp [intOf]; omega
            | false =>
              have HN := Lib.hid (vw_stop hlt HV.out (by rw [h93]; simp [vw]))
              have hsl := fun w => slice_head s k hk w
              rw [HN.out] at hsl
              clear h39 h44 h93 HV
              go_wp2
              go_ret
              exact ⟨rfl, rfl⟩
          · have e3 : ((s[k].toNat : Int) == 93) = false := beq_f h93 rfl
            have HN := Lib.hid (vw_go (q' := b) hlt HV.out (by simp [vw, h39, h44, h93]))
            clear h39 h44 h93 HV
            go_wp2
            go_round
            case rel => exact ⟨k + 1, b, by omega, by go_num, rfl, HN.out⟩
            case measure => simp [intOf]; omega
    · have HN : Hid (s = bs (vw false s.data.toList)) := by
        show _ = _
        rw [HV.out, drop_end s k hlt, List.take_of_length_le (by rw [← size_len]; omega)]
        simp only [vw, List.append_nil]
        exact list_eq rfl
      clear HV
      go_wp2
      go_ret
      exact ⟨ret_v (congrArg Value.string HN.out), rfl⟩
end Go.Proofs.YtmgkdghkenpmbaaGreatDoor
