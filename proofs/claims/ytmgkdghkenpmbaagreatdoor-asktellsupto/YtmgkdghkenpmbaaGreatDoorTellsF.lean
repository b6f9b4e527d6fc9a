/-
  What the specification's function Read gives of a text in quotes.
-/
import Derived.Test.YtmgkdghkenpmbaaGreatDoorTellsE
import Derived.Test.YtmgkdghkenpmbaaGreatDoorTellsA
import Derived.RegionTactic
namespace Go.Proofs.YtmgkdghkenpmbaaGreatDoor
open Go.RowKit
set_option linter.unusedVariables false
set_option linter.unusedSimpArgs false

/-- What Read gives: the value, and the fault. -/
def rdV (e t n : Int) (s : ByteArray) : Value := if e = 0 then .tuple #[agg t n s, .int .i64 0] else .tuple #[agg 0 0 ⟨#[]⟩, .int .i64 e]
/-- The fault of a text behind its first quote. -/
def rdErr : Option (List UInt8) → Int
  | none => 2
  | some r => if 20 < r.length then 4 else 0

theorem rdT_bad (c : UInt8) (r : List UInt8) (h : badB c = true) : rdT (c :: r) = none := by
  have hne : ¬ c = 39 := by intro e; rw [e, bad39] at h; simp at h
  cases r with
  | nil => simp [rdT, hne]
  | cons d q => simp [rdT, h]
theorem rdT_ne (c : UInt8) (r : List UInt8) (h : badB c = false) (hc : ¬ c = 39) : rdT (c :: r) = (rdT r).map (c :: ·) := by
  cases r with
  | nil => simp [rdT, hc]
  | cons d q => simp [rdT, h, hc]
theorem rdT_qq (r : List UInt8) : rdT (39 :: 39 :: r) = (rdT r).map (39 :: ·) := by simp [rdT, bad39]
theorem rdT_q (d : UInt8) (r : List UInt8) (h : ¬ d = 39) : rdT (39 :: d :: r) = none := by simp [rdT, bad39, h]
theorem rdT_end : rdT [39] = some [] := by simp [rdT]

theorem put_acc (w : World) (R : Obj) (x y z v : Value) (n : Nat) : (((w.alloc R).alloc (.cells #[x, y, z] 31)).drewN n).setCell ⟨w.heap.size + 1, 2, none⟩ v = ((w.alloc R).alloc (.cells #[x, y, v] 31)).drewN n := by
  have h : ((w.alloc R).alloc (.cells #[x, y, z] 31)).setCell ⟨w.heap.size + 1, 2, none⟩ v = (w.alloc R).alloc (.cells #[x, y, v] 31) := by
    rw [World.setCell_alloc_at _ _ _ _ _ (by simp)]; rfl
  rw [← h]; rfl
theorem rd_below (w : World) (R C : Obj) (n : Nat) (a b c : Value) : Below w.heap.size w ((((((w.alloc R).alloc C).drewN n).setCell ⟨w.heap.size, 0, none⟩ a).setCell ⟨w.heap.size, 1, none⟩ b).setCell ⟨w.heap.size, 2, none⟩ c) :=
  have h : Below w.heap.size w (((w.alloc R).alloc C).drewN n) := (((Below.refl _ w).alloc (Nat.le_refl _) _).alloc (by simp) _).trans ⟨rfl, rfl, rfl, Nat.le_refl _, fun _ _ => rfl⟩
  ((h.setCell (p := ⟨w.heap.size, 0, none⟩) (Nat.le_refl _) _).setCell (p := ⟨w.heap.size, 1, none⟩) (Nat.le_refl _) _).setCell (p := ⟨w.heap.size, 2, none⟩) (Nat.le_refl _) _

set_option maxHeartbeats 4000000 in
set_option maxRecDepth 100000 in
theorem read_text (s : ByteArray) (w : World) (hs : s.size ≤ 140737488355328) (hs1 : 0 < s.size) (h0 : s[0] = 39) :
    Calls Tryz.prog 57 #[.string s] w fun e w' => e = .returned (rdV (rdErr (rdT (s.data.toList.drop 1))) 3 0 ⟨((rdT (s.data.toList.drop 1)).getD []).toArray⟩) ∧ Below w.heap.size w w' := by
  have hl := head_list s hs1
  rw [h0] at hl
  have hF : (s.toList == [102, 97, 108, 115, 101]) = false := by rw [Lib.toList_data, hl]; simp
  have hTr : (s.toList == [116, 114, 117, 101]) = false := by rw [Lib.toList_data, hl]; simp
  have hE : s.toList.isEmpty = false := by rw [Lib.toList_data, hl]; simp
  have hN : ¬ s.toList = [] := by rw [Lib.toList_data, hl]; simp
  clear hl
  go_enter Tryz.func57, Tryz.ntmps57
  go_wp2_with fail
  go_loopw [6] (fun i wr => ∃ (k m : Nat) (acc : List UInt8), 1 ≤ k ∧ k ≤ s.size ∧ i = .int .i64 k ∧ acc.length ≤ k ∧ rdT (s.data.toList.drop 1) = (rdT (s.data.toList.drop k)).map (acc ++ ·)
      ∧ wr = ((w.alloc (.cells #[.int .i64 0, .int .i64 0, .string ⟨#[]⟩] 31)).alloc (.cells #[.int .i64 3, .int .i64 0, .string ⟨acc.toArray⟩] 31)).drewN m) (fun i wr => s.size - (intOf i).toNat)
  case atStart => exact ⟨1, 0, [], Nat.le_refl _, hs1, rfl, Nat.zero_le _, by simp, rfl⟩
  case round =>
    obtain ⟨k, m, acc, hk1, hk, rfl, hal, hu, rfl⟩ := hrel
    have HU : Hid (rdT (s.data.toList.drop 1) = (rdT (s.data.toList.drop k)).map (acc ++ ·)) := hu
    clear hu hF hTr hE hN
    by_cases hlt : k < s.size
    · by_cases hb : badB s[k] = true
      · have H2 : Hid (rdT (s.data.toList.drop 1) = none) := by
          show _ = _
          rw [HU.out, drop_cons s k hlt, rdT_bad _ _ hb]; rfl
        rcases (bad_iff _).1 hb with h | h
        all_goals
          clear hb
          go_wp2_with fail
          exact bodyPost_ret (v := .tuple #[agg 0 0 ⟨#[]⟩, .int .i64 2]) (by simp [results, Tryz.results57, go_sem]) rfl ⟨ret_v (by rw [H2.out]; rfl), rd_below w _ _ m _ _ _⟩
      · have hb' : badB s[k] = false := by simpa using hb
        have g1 : 32 ≤ (s[k].toNat : Int) := by rw [bad_iff] at hb; omega
        have g2 : (s[k].toNat : Int) ≤ 126 := by rw [bad_iff] at hb; omega
        clear hb
        by_cases hc : s[k] = 39
        · by_cases hlt2 : k + 1 < s.size
          · by_cases hd : s[k + 1] = 39
            · have hsl := slice_one s (k + 1) hlt2
              have hadd : ∀ w, (Op.stringOp .add ⟨acc.toArray⟩ ⟨[(39 : UInt8)].toArray⟩).run Tryz.prog w = .ok (.string ⟨(acc ++ [39]).toArray⟩) w := fun w => by
                rw [run_string_add_sum w _ _ (by rw [size_mk, size_mk]; simp; omega), ByteArray.mk_append_mk]
              have H2 : Hid (rdT (s.data.toList.drop 1) = (rdT (s.data.toList.drop (k + 2))).map ((acc ++ [39]) ++ ·)) := by
                show _ = _
                rw [HU.out, drop_cons s k hlt, drop_cons s (k + 1) hlt2, hc, hd, rdT_qq, Option.map_map]
                congr 1; funext x; simp
              rw [hd] at hsl
              have hsl2 : ∀ w, (Instr.slice 9 (.string s) (some (.int .i64 ((k : Int) + 1))) (some (.int .i64 ((k : Int) + 1 + 1))) none).run Tryz.prog w = .ok (.string ⟨[(39 : UInt8)].toArray⟩) w := fun w => by
                have := hsl w
                rw [show ((k + 1 : Nat) : Int) = (k : Int) + 1 by omega] at this
                exact this
              clear hsl
              go_wp2_with fail
              go_region
              all_goals
                go_wp2_with fail
                go_roundw
                case rel => exact ⟨k + 2, m + 1, acc ++ [39], by omega, by omega, by go_num, by simp; omega, H2.out, put_acc w _ _ _ _ _ (m + 1)⟩
                case measure => simp [intOf]; omega
            · have hd' := ne39b hd
              have H2 : Hid (rdT (s.data.toList.drop 1) = none) := by
                show _ = _
                rw [HU.out, drop_cons s k hlt, drop_cons s (k + 1) hlt2, hc, rdT_q _ _ hd]; rfl
              clear hd
              go_wp2_with fail
              exact bodyPost_ret (v := .tuple #[agg 0 0 ⟨#[]⟩, .int .i64 2]) (by simp [results, Tryz.results57, go_sem]) rfl ⟨ret_v (by rw [H2.out]; rfl), rd_below w _ _ m _ _ _⟩
          · have H2 : Hid (rdT (s.data.toList.drop 1) = some acc) := by
              show _ = _
              rw [HU.out, drop_cons s k hlt, drop_end s (k + 1) hlt2, hc, rdT_end]; simp
            have hkk : s.size = k + 1 := by omega
            have hsz : ((⟨acc.toArray⟩ : ByteArray).size : Int) = (acc.length : Int) := by rw [size_mk]
            clear hlt2
            by_cases h20 : 20 < acc.length
            · have h20' : (20 : Int) < ((⟨acc.toArray⟩ : ByteArray).size : Int) := by rw [hsz]; omega
              have H3 : Hid (rdErr (some acc) = 4) := by show _ = _; simp [rdErr, h20]
              clear hsz
              go_wp2_with fail
              exact bodyPost_ret (v := .tuple #[agg 0 0 ⟨#[]⟩, .int .i64 4]) (by simp [results, Tryz.results57, go_sem]) rfl ⟨ret_v (by rw [H2.out, H3.out]; rfl), rd_below w _ _ m _ _ _⟩
            · have h20' : ((⟨acc.toArray⟩ : ByteArray).size : Int) ≤ 20 := by rw [hsz]; omega
              have H3 : Hid (rdErr (some acc) = 0) := by show _ = _; simp [rdErr, h20]
              clear hsz
              go_wp2_with fail
              exact bodyPost_ret (v := .tuple #[agg 3 0 ⟨acc.toArray⟩, .int .i64 0]) (by simp [results, Tryz.results57, go_sem]) rfl ⟨ret_v (by rw [H2.out, H3.out]; rfl), rd_below w _ _ m _ _ _⟩
        · have hc' := ne39 hc
          have hsl := slice_one s k hlt
          have hadd : ∀ w, (Op.stringOp .add ⟨acc.toArray⟩ ⟨[s[k]].toArray⟩).run Tryz.prog w = .ok (.string ⟨(acc ++ [s[k]]).toArray⟩) w := fun w => by
            rw [run_string_add_sum w _ _ (by rw [size_mk, size_mk]; simp; omega), ByteArray.mk_append_mk]
          have H2 : Hid (rdT (s.data.toList.drop 1) = (rdT (s.data.toList.drop (k + 1))).map ((acc ++ [s[k]]) ++ ·)) := by
            show _ = _
            rw [HU.out, drop_cons s k hlt, rdT_ne _ _ hb' hc, Option.map_map]
            congr 1; funext x; simp
          go_wp2_with fail
          go_region
          all_goals
            go_wp2_with fail
            go_roundw
            case rel => exact ⟨k + 1, m + 1, acc ++ [s[k]], by omega, by omega, by go_num, by simp; omega, H2.out, put_acc w _ _ _ _ _ (m + 1)⟩
            case measure => simp [intOf]; omega
    · have H2 : Hid (rdT (s.data.toList.drop 1) = none) := by
        show _ = _
        rw [HU.out, drop_end s k hlt]; rfl
      go_wp2_with fail
      exact bodyPost_ret (v := .tuple #[agg 0 0 ⟨#[]⟩, .int .i64 2]) (by simp [results, Tryz.results57, go_sem]) rfl ⟨ret_v (by rw [H2.out]; rfl), rd_below w _ _ m _ _ _⟩
end Go.Proofs.YtmgkdghkenpmbaaGreatDoor
