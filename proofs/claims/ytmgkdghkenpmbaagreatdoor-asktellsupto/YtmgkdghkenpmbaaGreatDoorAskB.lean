/-
  The walks of the reader: a word, a name.
-/
import Derived.Test.YtmgkdghkenpmbaaGreatDoorAskA
namespace Go.Proofs.YtmgkdghkenpmbaaGreatDoor
open Go.RowKit
set_option linter.unusedVariables false
set_option linter.unusedSimpArgs false

theorem sees_true {r : Nm} {c : UInt8} (h : seesB r c = true) : r = c :: r.tail := by
  cases r with
  | nil => simp [seesB] at h
  | cons x q => simp [seesB] at h; simp [h]
theorem takeR_hit {r ws : Nm} {c : UInt8} (h : seesB r c = true) : takeR (c :: ws) r = takeR ws r.tail := by
  rw [sees_true h]; simp [takeR]
theorem takeR_miss {r ws : Nm} {c : UInt8} (h : seesB r c = false) : takeR (c :: ws) r = (r, false) := by
  cases r with
  | nil => rfl
  | cons x q => simp [seesB] at h; simp [takeR, h]
theorem takeR_one (r : Nm) (c : UInt8) : takeR [c] r = if seesB r c = true then (r.tail, true) else (r, false) := by
  by_cases h : seesB r c = true
  · rw [takeR_hit h, if_pos h]; rfl
  · rw [takeR_miss (by simpa using h), if_neg h]
/-- One byte on. -/
theorem rd_next {s : ByteArray} {k : Nat} {q : Nm} {c : UInt8} (hq : s.data.toList.drop k = q) (h : seesB q c = true) : k < s.size ∧ s.data.toList.drop (k + 1) = q.tail := by
  by_cases hk : k < s.size
  · rw [drop_c hk] at hq; rw [← hq]; exact ⟨hk, rfl⟩
  · rw [drop_end s k hk] at hq; rw [← hq] at h; simp [seesB] at h

set_option maxHeartbeats 2000000 in
set_option maxRecDepth 100000 in
theorem take_any {b : Nat} {s : ByteArray} {r : Nm} {w : World} (h : Rd b s r w) (hs : s.size ≤ maxLen) (wd : ByteArray) (hw : wd.size ≤ 1000) :
    Calls Tryz.prog 58 #[rp b, .string wd] w fun e w' => e = .returned (.bool (takeR wd.data.toList r).2) ∧ Rd b s (takeR wd.data.toList r).1 w' ∧ Gw b w w' := by
  go_enter Tryz.func58, Tryz.ntmps58
  go_wp2
  go_loopw [8] (fun i wr => ∃ (j : Nat) (q : Nm), j ≤ wd.size ∧ i = .int .i64 j ∧ takeR wd.data.toList r = takeR (wd.data.toList.drop j) q ∧ Rd b s q wr ∧ Gw b w wr) (fun i wr => wd.size - (intOf i).toNat)
  case atStart => exact ⟨0, r, Nat.zero_le _, rfl, rfl, h, Gw.refl _ _⟩
  case round =>
    obtain ⟨j, q, hj, rfl, ht, hR, hG⟩ := hrel
    have HT : Hid (takeR wd.data.toList r = takeR (wd.data.toList.drop j) q) := ht
    have HG := Lib.hid hG
    clear ht h hG
    by_cases hlt : j < wd.size
    · have cS := sees_any hR wd[j] hs
      by_cases hb : seesB q wd[j] = true
      · rw [hb] at cS
        have HT2 : Hid (takeR wd.data.toList r = takeR (wd.data.toList.drop (j + 1)) q.tail) := by
          show _ = _
          rw [HT.out, drop_c hlt, takeR_hit hb]
        obtain ⟨k, hk, hq, hB⟩ := hR
        obtain ⟨hk1, hq1⟩ := rd_next hq hb
        have HQ := Lib.hid hq1
        have HB := Lib.hid hB
        have c1 : wr.cell? ⟨b, 1, none⟩ = some (.int .i64 (k : Int)) := cell_at hB rfl
        have f1 : wr.frozen? ⟨b, 1, none⟩ = false := frz_at hB
        unfold maxLen at hs
        clear hq hq1 hB hb
        go_wp2_with (go_at_call 59; refine cS.mono ?_; rintro e W1 ⟨rfl, nq, rfl⟩)
        go_roundw
        case rel =>
          refine ⟨j + 1, q.tail, by omega, by go_num, HT2.out, ⟨k + 1, by omega, HQ.out, ?_⟩, (HG.out.drew _).set _ _⟩
          have := rd_put (w := wr.drewN nq) HB.out ((k : Int) + 1)
          exact this
        case measure => simp [intOf]; omega
      · have hb' : seesB q wd[j] = false := by simpa using hb
        rw [hb'] at cS
        have HT2 : Hid (takeR wd.data.toList r = (q, false)) := by
          show _ = _
          rw [HT.out, drop_c hlt, takeR_miss hb']
        clear hb hb'
        have HR := Lib.hid hR
        clear hR
        go_wp2_with (go_at_call 59; refine cS.mono ?_; rintro e W1 ⟨rfl, nq, rfl⟩)
        go_ret
        rw [HT2.out]
        exact ⟨rfl, HR.out, HG.out.drew _⟩
    · have HT2 : Hid (takeR wd.data.toList r = (q, true)) := by
        show _ = _
        rw [HT.out, drop_end wd j hlt]; rfl
      have HR := Lib.hid hR
      clear hR
      go_wp2
      go_ret
      rw [HT2.out]
      exact ⟨rfl, HR.out, HG.out⟩

/-- Is there one? -/
def neB (l : Nm) : Bool := !l.isEmpty
/-- Where a reader stands. -/
def atOf (b : Nat) (w : World) : Nat := match w.cell? ⟨b, 1, none⟩ with
  | some (.int _ k) => k.toNat
  | _ => 0
theorem atOf_eq {b : Nat} {w : World} {k : Nat} (h : w.cell? ⟨b, 1, none⟩ = some (.int .i64 (k : Int))) : atOf b w = k := by
  unfold atOf; rw [h]; simp
theorem isL_iff (c : UInt8) : isL c = true ↔ (97 ≤ (c.toNat : Int) ∧ (c.toNat : Int) ≤ 122) := by unfold isL noLet; simp
theorem slice_mid (s : ByteArray) (k m : Nat) (h1 : k ≤ m) (h2 : m ≤ s.size) (w : World) : (Instr.slice 9 (.string s) (some (.int .i64 (k : Int))) (some (.int .i64 (m : Int))) none).run Tryz.prog w = .ok (.string (bs ((s.data.toList.drop k).take (m - k)))) w := by
  rw [run_slice_string w 9 s .i64 .i64 (k : Int) (m : Int) Tryz.underlying9 (by omega) (by omega) (by omega)]
  congr 2
  have e : (s.extract ((k : Int)).toNat ((m : Int)).toNat).data.toList = (s.data.toList.drop k).take (m - k) := by
    rw [ByteArray.data_extract, Array.toList_extract, List.extract_eq_take_drop]; simp
  rw [← e]; exact (list_eq rfl)
theorem nameT_take {s : ByteArray} {k m : Nat} (h1 : k ≤ m) (h2 : m ≤ s.size) (ht : nameT (s.data.toList.drop k) = (s.data.toList.drop k).take (m - k) ++ nameT (s.data.toList.drop m)) (hn : nameT (s.data.toList.drop m) = []) : (s.data.toList.drop k).take (m - k) = nameT (s.data.toList.drop k) := by
  rw [ht, hn]; simp
theorem neB_take {s : ByteArray} {k m : Nat} (h1 : k ≤ m) (h2 : m ≤ s.size) : decide (k < m) = neB ((s.data.toList.drop k).take (m - k)) := by
  have hl : ((s.data.toList.drop k).take (m - k)).length = m - k := by
    rw [List.length_take, List.length_drop, ← size_len]; omega
  unfold neB
  rw [Bool.eq_iff_iff]
  simp [List.isEmpty_iff]
  constructor
  · intro h
    exact ⟨by omega, by rw [size_len] at h2; simp at h2; omega⟩
  · intro h; omega
theorem name_step {s : ByteArray} {k m : Nat} (h1 : k ≤ m) (h2 : m < s.size) (hl : isL s[m] = true) (ht : nameT (s.data.toList.drop k) = (s.data.toList.drop k).take (m - k) ++ nameT (s.data.toList.drop m)) :
    nameT (s.data.toList.drop k) = (s.data.toList.drop k).take (m + 1 - k) ++ nameT (s.data.toList.drop (m + 1)) := by
  have e : (s.data.toList.drop k).take (m + 1 - k) = (s.data.toList.drop k).take (m - k) ++ [s[m]] := by
    have e1 : m + 1 - k = (m - k) + 1 := by omega
    rw [e1, List.take_succ_eq_append_getElem (by rw [List.length_drop, ← size_len]; omega)]
    congr 2
    rw [List.getElem_drop]
    simp [ByteArray.getElem_eq_getElem_data, show k + (m - k) = m by omega]
  have e2 : nameT (s.data.toList.drop m) = s[m] :: nameT (s.data.toList.drop (m + 1)) := by
    rw [drop_c h2]; unfold nameT; rw [List.takeWhile_cons, if_pos hl]
  rw [ht, e, e2]; simp
theorem nameD_step {s : ByteArray} {m : Nat} (h2 : m < s.size) (hl : isL s[m] = true) : nameD (s.data.toList.drop m) = nameD (s.data.toList.drop (m + 1)) := by
  rw [drop_c h2]; unfold nameD; rw [List.dropWhile_cons, if_pos hl]
theorem name_end {s : ByteArray} {m : Nat} (h : ¬ m < s.size ∨ ∃ h : m < s.size, isL s[m] = false) : nameT (s.data.toList.drop m) = [] ∧ nameD (s.data.toList.drop m) = s.data.toList.drop m := by
  rcases h with h | ⟨h, hl⟩
  · rw [drop_end s m h]; exact ⟨rfl, rfl⟩
  · rw [drop_c h]; unfold nameT nameD
    rw [List.takeWhile_cons, List.dropWhile_cons, hl]; simp

set_option maxHeartbeats 2000000 in
set_option maxRecDepth 100000 in
theorem rname_read {b : Nat} {s : ByteArray} {r : Nm} {w : World} (h : Rd b s r w) (hs : s.size ≤ maxLen) :
    Calls Tryz.prog 42 #[rp b] w fun e w' => e = .returned (.tuple #[.string (bs (nameT r)), .bool (neB (nameT r))]) ∧ Rd b s (nameD r) w' ∧ Gw b w w' := by
  obtain ⟨k, hk, hr, hB⟩ := h
  subst hr
  have c1 : w.cell? ⟨b, 1, none⟩ = some (.int .i64 (k : Int)) := cell_at hB rfl
  unfold maxLen at hs
  go_enter Tryz.func42, Tryz.ntmps42
  go_wp2
  clear c1
  go_loopw [9] (fun i wr => ∃ m : Nat, k ≤ m ∧ m ≤ s.size ∧ nameT (s.data.toList.drop k) = (s.data.toList.drop k).take (m - k) ++ nameT (s.data.toList.drop m) ∧ nameD (s.data.toList.drop k) = nameD (s.data.toList.drop m) ∧ wr.heap[b]? = some (.cells #[.string s, .int .i64 (m : Int)] 45 (0, 0)) ∧ Gw b w wr) (fun i wr => s.size - atOf b wr)
  case atStart => exact ⟨k, Nat.le_refl _, hk, by simp, rfl, hB, Gw.refl _ _⟩
  case round =>
    obtain ⟨m, hkm, hm, hT, hD, hBr, hG⟩ := hrel
    clear hB
    have cE := fun n => ended_any (b := b) (s := s) (r := s.data.toList.drop m) (w := wr.drewN n) ⟨m, hm, rfl, hBr⟩
    have c0 : wr.cell? ⟨b, 0, none⟩ = some (.string s) := cell_at hBr rfl
    have c1 : wr.cell? ⟨b, 1, none⟩ = some (.int .i64 (m : Int)) := cell_at hBr rfl
    have f1 : wr.frozen? ⟨b, 1, none⟩ = false := frz_at hBr
    have HB := Lib.hid hBr
    have HG := Lib.hid hG
    have HT := Lib.hid hT
    have HD := Lib.hid hD
    have HA := Lib.hid (atOf_eq c1)
    clear hBr hG hT hD
    by_cases hlt : m < s.size
    · have he : (s.data.toList.drop m).isEmpty = false := by rw [drop_c hlt]; rfl
      rw [he] at cE
      clear he
      by_cases hl : isL s[m] = true
      · have h97 : decide (97 ≤ (s[m].toNat : Int)) = true := by have := (isL_iff _).1 hl; simpa using this.1
        have h122 : decide ((s[m].toNat : Int) ≤ 122) = true := by have := (isL_iff _).1 hl; simpa using this.2
        have HT2 := Lib.hid (name_step hkm hlt hl HT.out)
        have HD2 := Lib.hid (HD.out.trans (nameD_step hlt hl))
        clear hl HT HD
        go_wp2
        go_quiet (exact Calls.quiet_of (cE _))
        go_wp2
        go_roundw
        case rel =>
          refine ⟨m + 1, by omega, by omega, HT2.out, HD2.out, ?_, (HG.out.drew _).set _ _⟩
          exact rd_put (w := wr.drewN nq) HB.out ((m : Int) + 1)
        case measure =>
          have := HA.out
          have e2 : atOf b ((wr.drewN nq).setCell ⟨b, 1, none⟩ (.int .i64 ((m : Int) + 1))) = m + 1 := atOf_eq (by
            have := rd_put (w := wr.drewN nq) HB.out ((m : Int) + 1)
            exact cell_at this rfl)
          simp at e2 ⊢
          omega
      · have hl' : isL s[m] = false := by simpa using hl
        obtain ⟨n1, n2⟩ := name_end (s := s) (m := m) (.inr ⟨hlt, hl'⟩)
        have hsl := fun w => slice_mid s k m hkm hm w
        have hnb := neB_take (s := s) hkm hm
        rw [nameT_take hkm hm HT.out n1] at hsl hnb
        have HN := Lib.hid hnb
        have HD2 := Lib.hid (HD.out.trans n2)
        have hno : ¬ (97 ≤ (s[m].toNat : Int) ∧ (s[m].toNat : Int) ≤ 122) := fun h => by rw [(isL_iff _).2 h] at hl'; simp at hl'
        clear hl hl' n1 n2 hnb HD HT
        by_cases h97 : 97 ≤ (s[m].toNat : Int)
        · have g1 : decide (97 ≤ (s[m].toNat : Int)) = true := by simpa using h97
          have g2 : decide ((s[m].toNat : Int) ≤ 122) = false := by simp; omega
          clear hno h97
          go_wp2
          go_quiet (exact Calls.quiet_of (cE _))
          go_wp2
          go_quiet (fail)
          go_wp2
          go_ret2
          refine ⟨?_, ⟨m, hm, HD2.out.symm, HB.out⟩, (HG.out.drew _).drew _⟩
          rw [HN.out]; rfl
        · have g1 : decide (97 ≤ (s[m].toNat : Int)) = false := by simpa using h97
          clear hno h97
          go_wp2
          go_quiet (exact Calls.quiet_of (cE _))
          go_wp2
          go_quiet (fail)
          go_wp2
          go_ret2
          refine ⟨?_, ⟨m, hm, HD2.out.symm, HB.out⟩, (HG.out.drew _).drew _⟩
          rw [HN.out]; rfl
    · have he : (s.data.toList.drop m).isEmpty = true := by rw [drop_end s m hlt]; rfl
      rw [he] at cE
      obtain ⟨n1, n2⟩ := name_end (s := s) (m := m) (.inl hlt)
      have hsl := fun w => slice_mid s k m hkm hm w
      have hnb := neB_take (s := s) hkm hm
      rw [nameT_take hkm hm HT.out n1] at hsl hnb
      have HN := Lib.hid hnb
      have HD2 := Lib.hid (HD.out.trans n2)
      clear n1 n2 hnb HD HT he
      go_wp2
      go_quiet (exact Calls.quiet_of (cE _))
      go_wp2
      go_quiet (fail)
      go_wp2
      go_ret2
      refine ⟨?_, ⟨m, hm, HD2.out.symm, HB.out⟩, (HG.out.drew _).drew _⟩
      rw [HN.out]; rfl
end Go.Proofs.YtmgkdghkenpmbaaGreatDoor
