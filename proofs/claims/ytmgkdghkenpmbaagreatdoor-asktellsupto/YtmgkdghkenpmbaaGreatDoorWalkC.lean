/-
  The walks of package value: a text in quotes, and back.
-/
import Derived.Test.YtmgkdghkenpmbaaGreatDoorWalkB
namespace Go.Proofs.YtmgkdghkenpmbaaGreatDoor
open Go.RowKit
set_option linter.unusedVariables false
set_option linter.unusedSimpArgs false

theorem ne39 {c : UInt8} (h : ¬ c = 39) : ¬ (c.toNat : Int) = 39 := by
  intro e
  apply h
  have e2 : c.toNat = 39 := by omega
  exact UInt8.toNat_inj.1 e2
theorem cells_snoc (l : List UInt8) (c : UInt8) : Lib.byteCells (l ++ [c]) = Lib.byteCells l ++ [.int .u8 (c.toNat : Int)] := by simp [Lib.byteCells]
theorem dbl_take_ne (s : ByteArray) (k : Nat) (h : k < s.size) (hc : ¬ s[k] = 39) : 39 :: dbl (s.data.toList.take (k + 1)) = (39 :: dbl (s.data.toList.take k)) ++ [s[k]] := by
  rw [take_snoc s k h, dbl_snoc, if_neg hc]; rfl
theorem dbl_take_eq (s : ByteArray) (k : Nat) (h : k < s.size) (hc : s[k] = 39) : 39 :: dbl (s.data.toList.take (k + 1)) = ((39 :: dbl (s.data.toList.take k)) ++ [39]) ++ [39] := by
  rw [take_snoc s k h, dbl_snoc, if_pos hc]; simp

set_option maxHeartbeats 2000000 in
set_option maxRecDepth 100000 in
theorem quoted_any (s : ByteArray) (w : World) (hs : s.size ≤ 1000000) :
    Calls Tryz.prog 65 #[.string s] w fun e w' => e = .returned (.string ⟨(quo s.data.toList).toArray⟩) ∧ Below w.heap.size w w' := by
  have hsz0 : w.heap.size ≤ (w.alloc (.cells #[.pointer none, .slice none 0 0] 73)).heap.size := by simp
  go_enter Tryz.func65, Tryz.ntmps65
  go_wp2_with (go_at_call 79; refine (writeByte_k w.heap.size w.heap.size [] 39 _ (Lib.IsBuilderF.of (Lib.fresh_isBuilder 73 5 w)) (by simp) hsz0).mono ?_; rintro e w1 ⟨rfl, h1, b1, k1⟩)
  have hb1 : Below w.heap.size w w1 := ((Below.refl _ w).alloc (Nat.le_refl _) _).trans b1
  go_loopw [8] (fun i wr => ∃ k : Nat, k ≤ s.size ∧ i = .int .i64 k ∧ Lib.IsBuilderF 73 5 w.heap.size w.heap.size (Lib.byteCells (39 :: dbl (s.data.toList.take k))) wr ∧ Below w.heap.size w wr) (fun i wr => s.size - (intOf i).toNat)
  case atStart => exact ⟨0, Nat.zero_le _, rfl, Or.inr h1, hb1⟩
  case round =>
    obtain ⟨k, hk, rfl, hI, hbw⟩ := hrel
    have hszr : w.heap.size ≤ wr.heap.size := hbw.size
    have hdl := dbl_len (s.data.toList.take k)
    have htl : (s.data.toList.take k).length ≤ k := List.length_take_le _ _
    have hlen : (Lib.byteCells (39 :: dbl (s.data.toList.take k))).length ≤ 2 * k + 1 := by rw [Lib.byteCells_length]; simp; omega
    clear h1 b1 k1 hb1 hsz0 hdl htl
    by_cases hlt : k < s.size
    · by_cases hc : s[k] = 39
      · have HT : Hid (39 :: dbl (s.data.toList.take (k + 1)) = ((39 :: dbl (s.data.toList.take k)) ++ [39]) ++ [39]) := dbl_take_eq s k hlt hc
        go_wp2_with (go_at_call 79; refine (writeByte_k w.heap.size w.heap.size _ 39 _ hI (by omega) hszr).mono ?_; rintro e W1 ⟨rfl, h1, b1, k1⟩; refine Hid.out ?_)
        refine Lib.hid ?_
        have hI1 : Lib.IsBuilderF 73 5 w.heap.size w.heap.size (Lib.byteCells ((39 :: dbl (s.data.toList.take k)) ++ [39])) W1 := by rw [cells_snoc]; exact Or.inr h1
        have hlen1 : (Lib.byteCells ((39 :: dbl (s.data.toList.take k)) ++ [39])).length ≤ 2 * k + 2 := by rw [cells_snoc, List.length_append]; simp only [List.length_cons, List.length_nil]; omega
        have hszr1 : w.heap.size ≤ W1.heap.size := (hbw.trans b1).size
        clear h1
        go_wp2_with (go_at_call 79; refine (writeByte_k w.heap.size w.heap.size _ 39 _ hI1 (by omega) hszr1).mono ?_; rintro e W2 ⟨rfl, h2, b2, k2⟩)
        go_roundw
        case rel =>
          refine ⟨k + 1, by omega, by go_num, ?_, (hbw.trans b1).trans b2⟩
          rw [HT.out, cells_snoc]; exact Or.inr h2
        case measure => simp [intOf]; omega
      · have HT : Hid (39 :: dbl (s.data.toList.take (k + 1)) = (39 :: dbl (s.data.toList.take k)) ++ [s[k]]) := dbl_take_ne s k hlt hc
        have hc' : ¬ (s[k].toNat : Int) = 39 := ne39 hc
        clear hc
        go_wp2_with (go_at_call 79; refine (writeByte_k w.heap.size w.heap.size _ _ _ hI (by omega) hszr).mono ?_; rintro e W2 ⟨rfl, h2, b2, k2⟩)
        go_roundw
        case rel =>
          refine ⟨k + 1, by omega, by go_num, ?_, hbw.trans b2⟩
          rw [HT.out, cells_snoc]; exact Or.inr h2
        case measure => simp [intOf]; omega
    · have HT : Hid (quo s.data.toList = (39 :: dbl (s.data.toList.take k)) ++ [39]) := by
        show _ = _
        rw [List.take_of_length_le (by rw [← size_len]; omega)]; rfl
      go_wp2_with (go_at_call 79; refine (writeByte_k w.heap.size w.heap.size _ 39 _ hI (by omega) hszr).mono ?_; rintro e W1 ⟨rfl, h1, b1, k1⟩; refine Hid.out ?_)
      refine Lib.hid ?_
      have hI1 : Lib.IsBuilderF 73 5 w.heap.size w.heap.size (Lib.byteCells ((39 :: dbl (s.data.toList.take k)) ++ [39])) W1 := by rw [cells_snoc]; exact Or.inr h1
      have hszr1 : w.heap.size ≤ W1.heap.size := (hbw.trans b1).size
      clear h1
      go_wp2_with (go_at_call 30; refine (Tryz.Builder_String_any_k w.heap.size w.heap.size _ _ hI1 hszr1).mono ?_; rintro e W2 ⟨rfl, _, b2, _⟩)
      go_ret
      exact ⟨ret_v (by rw [HT.out]; rfl), (hbw.trans b1).trans b2⟩
end Go.Proofs.YtmgkdghkenpmbaaGreatDoor
