/-
  The walks of package value: a text out of its quotes.
-/
import Derived.Test.YtmgkdghkenpmbaaGreatDoorWalkC
namespace Go.Proofs.YtmgkdghkenpmbaaGreatDoor
open Go.RowKit
set_option linter.unusedVariables false
set_option linter.unusedSimpArgs false

set_option maxHeartbeats 2000000 in
set_option maxRecDepth 100000 in
theorem unquoted_short (s : ByteArray) (w : World) (hs : s.size < 2) :
    Calls Tryz.prog 99 #[.string s] w fun e w' => e = .returned (.tuple #[.string ⟨#[]⟩, .bool false]) ∧ w' = w := by
  go_enter Tryz.func99, Tryz.ntmps99
  go_wp2
  go_ret2
  exact ⟨rfl, rfl⟩
set_option maxHeartbeats 2000000 in
set_option maxRecDepth 100000 in
theorem unquoted_first (s : ByteArray) (w : World) (hs0 : s.size ≤ 140737488355328) (hs : 2 ≤ s.size) (h0 : ¬ (s[0].toNat : Int) = 39) :
    Calls Tryz.prog 99 #[.string s] w fun e w' => e = .returned (.tuple #[.string ⟨#[]⟩, .bool false]) ∧ w' = w := by
  go_enter Tryz.func99, Tryz.ntmps99
  go_wp2
  go_ret2
  exact ⟨rfl, rfl⟩
set_option maxHeartbeats 2000000 in
set_option maxRecDepth 100000 in
theorem unquoted_last (s : ByteArray) (w : World) (hs0 : s.size ≤ 140737488355328) (hs : 2 ≤ s.size) (h0 : s[0] = 39) (h1 : ((s[s.size - 1].toNat : Int) != 39) = true) :
    Calls Tryz.prog 99 #[.string s] w fun e w' => e = .returned (.tuple #[.string ⟨#[]⟩, .bool false]) ∧ w' = w := by
  go_enter Tryz.func99, Tryz.ntmps99
  go_wp2
  go_ret2
  exact ⟨rfl, rfl⟩
/-- One quote at least of a text that begins and ends so. -/
def inner (s : ByteArray) : ByteArray := s.extract 1 (s.size - 1)
theorem inner_size (s : ByteArray) : (inner s).size = s.size - 2 := by
  unfold inner; rw [ByteArray.size_extract]; omega
theorem slice_inner (s : ByteArray) (w : World) (hs : 2 ≤ s.size) : (Instr.slice 9 (.string s) (some (.int .i64 1)) (some (.int .i64 ((s.size : Int) - 1))) none).run Tryz.prog w = .ok (.string (inner s)) w := by
  rw [run_slice_string w 9 s .i64 .i64 1 ((s.size : Int) - 1) Tryz.underlying9 (by omega) (by omega) (by omega)]
  have e : ((s.size : Int) - 1).toNat = s.size - 1 := by omega
  rw [e]; rfl

/-- What unquoted gives. -/
def unqV : Option (List UInt8) → Value
  | some l => .tuple #[.string ⟨l.toArray⟩, .bool true]
  | none => .tuple #[.string ⟨#[]⟩, .bool false]
theorem ne39b {c : UInt8} (h : ¬ c = 39) : ((c.toNat : Int) != 39) = true := by simpa using ne39 h
theorem drop_cons (s : ByteArray) (k : Nat) (h : k < s.size) : s.data.toList.drop k = s[k] :: s.data.toList.drop (k + 1) := by
  rw [List.drop_eq_getElem_cons (by rw [← size_len]; exact h)]; rfl
theorem drop_end (s : ByteArray) (k : Nat) (h : ¬ k < s.size) : s.data.toList.drop k = [] := by
  apply List.drop_eq_nil_of_le; rw [← size_len]; omega

set_option maxHeartbeats 4000000 in
set_option maxRecDepth 100000 in
theorem unquoted_in (s : ByteArray) (w : World) (hs0 : s.size ≤ 140737488355328) (hs : 2 ≤ s.size) (h0 : s[0] = 39) (h1 : s[s.size - 1] = 39) :
    Calls Tryz.prog 99 #[.string s] w fun e w' => e = .returned (unqV (und (inner s).data.toList)) ∧ Below w.heap.size w w' := by
  have hsl := fun w => slice_inner s w hs
  have hin := inner_size s
  generalize inner s = q at hsl hin ⊢
  have hq : q.size ≤ 140737488355326 := by omega
  clear hin
  go_enter Tryz.func99, Tryz.ntmps99
  go_wp2
  go_loopw [6] (fun i wr => ∃ (k : Nat) (acc : List UInt8), k ≤ q.size ∧ i = .int .i64 k ∧ acc.length ≤ k ∧ und q.data.toList = (und (q.data.toList.drop k)).map (acc ++ ·) ∧ Lib.IsBuilderF 73 5 w.heap.size w.heap.size (Lib.byteCells acc) wr ∧ Below w.heap.size w wr) (fun i wr => q.size - (intOf i).toNat)
  case atStart =>
    refine ⟨0, [], Nat.zero_le _, rfl, Nat.zero_le _, ?_, Lib.IsBuilderF.of (Lib.fresh_isBuilder 73 5 w), (Below.refl _ w).alloc (Nat.le_refl _) _⟩
    simp
  case round =>
    obtain ⟨k, acc, hk, rfl, hal, hu, hI, hbw⟩ := hrel
    have HU : Hid (und q.data.toList = (und (q.data.toList.drop k)).map (acc ++ ·)) := hu
    have hszr : w.heap.size ≤ wr.heap.size := hbw.size
    have hlen : (Lib.byteCells acc).length ≤ k := by rw [Lib.byteCells_length]; exact hal
    clear hu hsl h0 h1
    by_cases hlt : k < q.size
    · by_cases hc : q[k] = 39
      · by_cases hlt2 : k + 1 < q.size
        · by_cases hd : q[k + 1] = 39
          · go_wp2_with (go_at_call 79; refine (writeByte_k w.heap.size w.heap.size _ 39 _ hI (by omega) hszr).mono ?_; rintro e W1 ⟨rfl, h1, b1, k1⟩)
            go_roundw
            case rel =>
              refine ⟨k + 2, acc ++ [39], by omega, by go_num, by simp; omega, ?_, ?_, hbw.trans b1⟩
              · rw [HU.out, drop_cons q k hlt, drop_cons q (k + 1) hlt2, hc, hd, und_qq, Option.map_map]
                congr 1; funext x; simp
              · rw [cells_snoc]; exact Or.inr h1
            case measure => simp [intOf]; omega
          · have hd' := ne39b hd
            have HN : Hid (und q.data.toList = none) := by
              show _ = _
              rw [HU.out, drop_cons q k hlt, drop_cons q (k + 1) hlt2, hc, und_q_ne _ _ hd]; rfl
            clear hd
            go_wp2
            go_ret2
            exact ⟨ret_v (by rw [HN.out]; rfl), hbw⟩
        · have HN : Hid (und q.data.toList = none) := by
            show _ = _
            rw [HU.out, drop_cons q k hlt, drop_end q (k + 1) hlt2, hc, und_q]; rfl
          have hkk : q.size = k + 1 := by omega
          clear hlt2
          go_wp2
          go_ret2
          exact ⟨ret_v (by rw [HN.out]; rfl), hbw⟩
      · have hc' := ne39 hc
        go_wp2_with (go_at_call 79; refine (writeByte_k w.heap.size w.heap.size _ _ _ hI (by omega) hszr).mono ?_; rintro e W1 ⟨rfl, h1, b1, k1⟩)
        go_roundw
        case rel =>
          refine ⟨k + 1, acc ++ [q[k]], by omega, by go_num, by simp; omega, ?_, ?_, hbw.trans b1⟩
          · rw [HU.out, drop_cons q k hlt, und_cons_ne _ _ hc, Option.map_map]
            congr 1; funext x; simp
          · rw [cells_snoc]; exact Or.inr h1
        case measure => simp [intOf]; omega
    · have HN : Hid (und q.data.toList = some acc) := by
        show _ = _
        rw [HU.out, drop_end q k hlt]; simp [und]
      go_wp2_with (go_at_call 30; refine (Tryz.Builder_String_any_k w.heap.size w.heap.size _ _ hI hszr).mono ?_; rintro e W2 ⟨rfl, _, b2, _⟩)
      go_ret2
      exact ⟨ret_v (by rw [HN.out]; rfl), hbw.trans b2⟩
end Go.Proofs.YtmgkdghkenpmbaaGreatDoor
