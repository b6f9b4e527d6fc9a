/-
  What the library's strings.Builder does with one byte: copyCheck and WriteByte, walked at this program.
-/
import Derived.Test.YteabdlandbmdaaaGreatDoorM02
import Derived.WalkKit
import Derived.BigCall
import Derived.Shelf.Strings.BuilderK
import Derived.Test.YteabdlandbmdaaaGreatDoorM01
import Derived.Outline
namespace Go.Proofs.YteabdlandbmdaaaGreatDoor
open Go.Shelf Go.RowKit

theorem Tryz.infoByte : (Tryz.prog.info? 5).map (fun i => (i.zero, i.size, i.bytes)) = some (some (.int .u8 0), 1, 1) := Tryz.Builder_Extra_169.infoByte

set_option maxHeartbeats 1000000 in
set_option maxRecDepth 100000 in
theorem copyCheck_used (b : Nat) (w : World) (h0 : w.cell? ⟨b, 0, none⟩ = some (.pointer (some ⟨b, 0, none⟩))) :
    Calls Tryz.prog 30 #[.pointer (some ⟨b, 0, none⟩)] w fun e w' => e = .returned (.tuple #[]) ∧ w' = w := by
  obtain ⟨j, hj, _⟩ := Option.map_eq_some_iff.1 Tryz.Builder_Extra_169.sizeBuilder
  go_enter Tryz.func30, Tryz.ntmps30
  go_wp2
  rw [Lib.run_neq_ptr_same w _ Tryz.underlying51 hj]
  go_wp2
  go_end0
  exact ⟨rfl, rfl⟩

set_option maxHeartbeats 1000000 in
set_option maxRecDepth 100000 in
theorem copyCheck_fresh (b : Nat) (w : World) (h0 : w.cell? ⟨b, 0, none⟩ = some (.pointer none)) (hsh : w.shape? b = some (54, 2)) (hfz : w.frozen? ⟨b, 0, none⟩ = false) :
    Calls Tryz.prog 30 #[.pointer (some ⟨b, 0, none⟩)] w fun e w' => e = .returned (.tuple #[]) ∧ w' = w.setCell ⟨b, 0, none⟩ (.pointer (some ⟨b, 0, none⟩)) := by
  obtain ⟨j, hj, hjs⟩ := Option.map_eq_some_iff.1 Tryz.Builder_Extra_169.sizeBuilder
  go_enter Tryz.func30, Tryz.ntmps30
  go_wp2
  rw [Lib.run_to_unsafe w ⟨b, 0, none⟩ Tryz.underlying51 Tryz.underlying97 hj (by rw [hjs]; decide) hsh (Nat.zero_lt_succ 1)]
  simp only [Result.andThen]
  rw [Oper.upon_value]
  go_wp2
  rw [run_callFunc_extern Tryz.func46 (by kernel_rfl) (by kernel_rfl) (by kernel_rfl) (e := Extern.AbiNoEscape.same) (by kernel_rfl)]
  rw [Lib.run_noEscape]
  simp only [Result.andThen]
  rw [Oper.upon_value]
  go_wp2
  rw [Lib.run_from_unsafe w ⟨b, 0, none⟩ Tryz.underlying97 Tryz.underlying51 hj hsh Tryz.Builder_Extra_169.liesBuilder]
  simp only [Result.andThen]
  rw [Oper.upon_value]
  go_wp2
  go_end0
  exact ⟨rfl, rfl⟩

theorem copyCheck_k (B b : Nat) (bs : List Value) (w : World) (h : Lib.IsBuilderF 54 5 B b bs w) :
    Calls Tryz.prog 30 #[.pointer (some ⟨b, 0, none⟩)] w fun e w' => e = .returned (.tuple #[]) ∧ (Lib.BuilderAtF 54 5 B b (.pointer (some ⟨b, 0, none⟩)) bs w' ∧ Below B w w' ∧ Lib.OthersKept 5 (some b) w w') := by
  rcases h with h | h
  · refine (copyCheck_fresh b w h.cell0 h.shape h.frozen0).mono ?_
    rintro e w' ⟨rfl, rfl⟩
    exact ⟨rfl, h.used _, (Below.refl B w).setCell (p := ⟨b, 0, none⟩) h.1 _, (Lib.OthersKept.refl _ _ w).setCell ⟨b, 0, none⟩ rfl _⟩
  · refine (copyCheck_used b w h.cell0).mono ?_
    rintro e w' ⟨rfl, rfl⟩
    exact ⟨rfl, h, Below.refl B _, Lib.OthersKept.refl _ _ _⟩

set_option maxHeartbeats 2000000 in
set_option maxRecDepth 100000 in
theorem writeByte_k (B b : Nat) (bs : List Value) (c : Int) (w : World) (h : Lib.IsBuilderF 54 5 B b bs w) (hlen : bs.length + 1 ≤ 140737488355328) (hBw : B ≤ w.heap.size) :
    Calls Tryz.prog 62 #[.pointer (some ⟨b, 0, none⟩), .int .u8 c] w fun e w' => e = .returned .nilIface ∧ (Lib.BuilderAtF 54 5 B b (.pointer (some ⟨b, 0, none⟩)) (bs ++ [.int .u8 c]) w' ∧ Below B w w' ∧ Lib.OthersKept 5 (some b) w w') := by
  obtain ⟨i0, hi, hz0, hz1, hz2⟩ := info_parts Tryz.infoByte
  go_enter Tryz.func62, Tryz.ntmps62
  go_wp2_with (go_at_call 30; refine (copyCheck_k B b bs _ h).mono ?_)
  rintro e w1 ⟨rfl, h1, hb1, hk1⟩
  obtain ⟨hB, v, hbk, hown, hne⟩ := h1
  have c0 : w1.cell? ⟨b, 0, none⟩ = some (.pointer (some ⟨b, 0, none⟩)) := by rw [Lib.cell_of_heap hbk]; rfl
  have c1 : w1.cell? ⟨b, 1, none⟩ = some v := by rw [Lib.cell_of_heap hbk]; rfl
  go_wp2_with (at_builtin; refine wpList_append_ownF _ rfl _ _ 52 rfl B 5 i0 (.int .u8 0) 1 1 Tryz.underlying52 hi hz0 hz1 hz2 rfl (by decide) _ _ _ rfl (hown.alloc _) ⟨w1.heap.size, 0, none⟩ 1 1 [.int .u8 c] rfl rfl ?c1 ?c2 ?c3 ?c4 ?c5 ?_)
  case c1 =>
    intro j u hj
    match j, hj with
    | 0, hj => simp at hj; subst hj; simp [Addr.add]
  case c2 => intro u hu; simp at hu; subst hu; rfl
  case c3 => unfold maxLen; omega
  case c4 => omega
  case c5 => have := hb1.size; simp; omega
  intro v' w2 hown' hgrow _
  have hlt : b < w1.heap.size := by
    rcases Nat.lt_or_ge b w1.heap.size with h' | h'
    · exact h'
    · simp [Array.getElem?_eq_none h'] at hbk
  have hb2 : w2.heap[b]? = some (.cells #[.pointer (some ⟨b, 0, none⟩), v] 54 (0, 0)) := by
    rw [hgrow.block b (by simp; omega) (fun e => hne e.symm), Lib.alloc_old w1 _ b hlt]
    exact hbk
  have d0 : w2.cell? ⟨b, 0, none⟩ = some (.pointer (some ⟨b, 0, none⟩)) := by rw [Lib.cell_of_heap hb2]; rfl
  have d1 : w2.cell? ⟨b, 1, none⟩ = some v := by rw [Lib.cell_of_heap hb2]; rfl
  have f1 : w2.frozen? ⟨b, 1, none⟩ = false := Lib.frozen_of_heap hb2 1
  obtain ⟨g, cap, rfl⟩ : ∃ g cap, v' = .slice (some ⟨g, 0, none⟩) (bs.length + 1) cap := by
    rcases hown'.2 with ⟨_, h0⟩ | ⟨g, cap, cur, fz, hv, _⟩
    · omega
    · exact ⟨g, cap, hv⟩
  go_wp2
  go_ret
  refine ⟨rfl, ?_, ?_, ((hk1.alloc _).grown hgrow (Lib.ownsRowF_kind (hown.alloc _))).setCell ⟨b, 1, none⟩ rfl _⟩
  · exact Lib.BuilderAtF.put (T := 54) (e := 5) hB hb2 (bs' := bs ++ [.int .u8 c]) (by simpa using hown') (by decide)
  · exact ((hb1.alloc (by have := hb1.size; omega) _).grown hgrow (by have := hb1.size; simp; omega) (fun k hk => (hown.lt k hk).1)).setCell (p := ⟨b, 1, none⟩) hB _
end Go.Proofs.YteabdlandbmdaaaGreatDoor

/-
  The walks of package value: Check, checked, a text in quotes and back.
-/
namespace Go.Proofs.YteabdlandbmdaaaGreatDoor
open Go.RowKit
set_option linter.unusedVariables false
set_option linter.unusedSimpArgs false

theorem nonE (s : ByteArray) (h : ¬ s.data.toList = []) : s.toList.isEmpty = false := by
  rw [← decide_eq_emptyBytes, decide_eq_false_iff_not]
  intro e; apply h; rw [e]; rfl
set_option maxHeartbeats 1000000 in
theorem check_any (t n : Int) (s : ByteArray) (w : World) (hs : s.size ≤ maxLen) :
    Calls Tryz.prog 42 #[val t n s] w fun e w' => e = .returned (errV (vErr t n s.data.toList)) ∧ w' = w.alloc (.cells #[.int .i64 t, .int .i64 n, .string s] 31) := by
  unfold val
  by_cases ht : t = 1 ∨ t = 2 ∨ t = 3
  · by_cases hr : inR t n = true
    · by_cases h3 : t = 3
      · subst h3
        have e1 : vErr 3 n s.data.toList = tErr s.data.toList := by unfold vErr; rw [if_pos ht, if_pos hr, if_pos rfl]
        have H1 : Hid (vErr 3 n s.data.toList = tErr s.data.toList) := e1
        clear e1 ht
        go_enter Tryz.func42, Tryz.ntmps42
        go_wp2_with (first | (go_at_call 60; refine (inRange_any _ _ _).mono ?_; rintro e w' ⟨rfl, rfl⟩) | (go_at_call 61; refine (checkText_any s _ hs).mono ?_; rintro e w' ⟨rfl, rfl⟩))
        go_ret
        exact ⟨ret_v (by rw [H1.out]; rfl), rfl⟩
      · by_cases hl : s.data.toList = []
        · have e1 : vErr t n s.data.toList = 0 := by unfold vErr; rw [if_pos ht, if_pos hr, if_neg h3, if_pos hl]
          have H1 : Hid (vErr t n s.data.toList = 0) := e1
          obtain rfl := nil_of_empty s hl
          clear e1 hl
          have ht' : t = 1 ∨ t = 2 := by omega
          clear ht
          rcases ht' with rfl | rfl
          all_goals
            go_enter Tryz.func42, Tryz.ntmps42
            go_wp2_with (first | (go_at_call 60; refine (inRange_any _ _ _).mono ?_; rintro e w' ⟨rfl, rfl⟩))
            go_ret
            exact ⟨ret_v (by rw [H1.out, errV_0]; rfl), rfl⟩
        · have e1 : vErr t n s.data.toList = 2 := by unfold vErr; rw [if_pos ht, if_pos hr, if_neg h3, if_neg hl]
          have H1 : Hid (vErr t n s.data.toList = 2) := e1
          have hE : s.toList.isEmpty = false := nonE s hl
          clear e1 hl
          have ht' : t = 1 ∨ t = 2 := by omega
          clear ht
          rcases ht' with rfl | rfl
          all_goals
            go_enter Tryz.func42, Tryz.ntmps42
            go_wp2_with (first | (go_at_call 60; refine (inRange_any _ _ _).mono ?_; rintro e w' ⟨rfl, rfl⟩))
            go_ret
            exact ⟨ret_v (by rw [H1.out, errV_2]; rfl), rfl⟩
    · have hr' : inR t n = false := by simpa using hr
      have e1 : vErr t n s.data.toList = 1 := by unfold vErr; rw [if_pos ht, if_neg hr]
      have H1 : Hid (vErr t n s.data.toList = 1) := e1
      clear e1 hr
      rcases ht with rfl | rfl | rfl
      all_goals
        go_enter Tryz.func42, Tryz.ntmps42
        go_wp2_with (first | (go_at_call 60; refine (inRange_any _ _ _).mono ?_; rintro e w' ⟨rfl, rfl⟩))
        go_ret
        exact ⟨ret_v (by rw [H1.out, errV_1]; rfl), rfl⟩
  · have e1 : vErr t n s.data.toList = 8 := by unfold vErr; rw [if_neg ht]
    have H1 : Hid (vErr t n s.data.toList = 8) := e1
    have h1 : ¬ t = 1 := by omega
    have h2 : ¬ t = 2 := by omega
    have h3 : ¬ t = 3 := by omega
    have b1 : (t != 1) = true := by simpa using h1
    have b2 : (t != 2) = true := by simpa using h2
    have b3 : (t != 3) = true := by simpa using h3
    clear e1 ht h1 h2 h3
    go_enter Tryz.func42, Tryz.ntmps42
    go_wp2
    go_ret
    exact ⟨ret_v (by rw [H1.out, errV_8]; rfl), rfl⟩

theorem boolWord_0 (w : World) : Calls Tryz.prog 43 #[.int .i64 0] w fun e w' => e = .returned (.string ⟨#[102, 97, 108, 115, 101]⟩) ∧ w' = w := by
  go_enter Tryz.func43, Tryz.ntmps43
  go_wp2
  go_ret
  exact ⟨rfl, rfl⟩
theorem boolWord_1 (w : World) : Calls Tryz.prog 43 #[.int .i64 1] w fun e w' => e = .returned (.string ⟨#[116, 114, 117, 101]⟩) ∧ w' = w := by
  go_enter Tryz.func43, Tryz.ntmps43
  go_wp2
  go_ret
  exact ⟨rfl, rfl⟩
end Go.Proofs.YteabdlandbmdaaaGreatDoor

/-
  The walks of package value: a text in quotes, and back.
-/
namespace Go.Proofs.YteabdlandbmdaaaGreatDoor
open Go.RowKit
set_option linter.unusedVariables false
set_option linter.unusedSimpArgs false

theorem ne39 {c : UInt8} (h : ¬ c = 39) : ¬ (c.toNat : Int) = 39 := by
  intro e
  apply h
  have e2 : c.toNat = 39 := by omega
  exact UInt8.toNat_inj.1 e2
theorem cells_snoc (l : List UInt8) (c : UInt8) : Lib.byteCells (l ++ [c]) = Lib.byteCells l ++ [.int .u8 (c.toNat : Int)] := by simp [Lib.byteCells]
theorem dbl_take_ne (s : ByteArray) (k : Nat) (h : k < s.size) (hc : ¬ s[k] = 39) : 39 :: dbl (s.data.toList.take (k + 1)) = (39 :: dbl (s.data.toList.take k)) ++ [s[k]] := by
  rw [take_snoc s k h, dbl_snoc, if_neg hc]; rfl
theorem dbl_take_eq (s : ByteArray) (k : Nat) (h : k < s.size) (hc : s[k] = 39) : 39 :: dbl (s.data.toList.take (k + 1)) = ((39 :: dbl (s.data.toList.take k)) ++ [39]) ++ [39] := by
  rw [take_snoc s k h, dbl_snoc, if_pos hc]; simp

set_option maxHeartbeats 2000000 in
set_option maxRecDepth 100000 in
theorem quoted_any (s : ByteArray) (w : World) (hs : s.size ≤ 1000000) :
    Calls Tryz.prog 44 #[.string s] w fun e w' => e = .returned (.string ⟨(quo s.data.toList).toArray⟩) ∧ Below w.heap.size w w' := by
  have hsz0 : w.heap.size ≤ (w.alloc (.cells #[.pointer none, .slice none 0 0] 54)).heap.size := by simp
  go_enter Tryz.func44, Tryz.ntmps44
  go_wp2_with (go_at_call 62; refine (writeByte_k w.heap.size w.heap.size [] 39 _ (Lib.IsBuilderF.of (Lib.fresh_isBuilder 54 5 w)) (by simp) hsz0).mono ?_; rintro e w1 ⟨rfl, h1, b1, k1⟩)
  have hb1 : Below w.heap.size w w1 := ((Below.refl _ w).alloc (Nat.le_refl _) _).trans b1
  go_loopw [8] (fun i wr => ∃ k : Nat, k ≤ s.size ∧ i = .int .i64 k ∧ Lib.IsBuilderF 54 5 w.heap.size w.heap.size (Lib.byteCells (39 :: dbl (s.data.toList.take k))) wr ∧ Below w.heap.size w wr) (fun i wr => s.size - (intOf i).toNat)
  case atStart => exact ⟨0, Nat.zero_le _, rfl, Or.inr h1, hb1⟩
  case round =>
    obtain ⟨k, hk, rfl, hI, hbw⟩ := hrel
    have hszr : w.heap.size ≤ wr.heap.size := hbw.size
    have hdl := dbl_len (s.data.toList.take k)
    have htl : (s.data.toList.take k).length ≤ k := List.length_take_le _ _
    have hlen : (Lib.byteCells (39 :: dbl (s.data.toList.take k))).length ≤ 2 * k + 1 := by rw [Lib.byteCells_length]; simp; omega
    clear h1 b1 k1 hb1 hsz0 hdl htl
    by_cases hlt : k < s.size
    · by_cases hc : s[k] = 39
      · have HT : Hid (39 :: dbl (s.data.toList.take (k + 1)) = ((39 :: dbl (s.data.toList.take k)) ++ [39]) ++ [39]) := dbl_take_eq s k hlt hc
        go_wp2_with (go_at_call 62; refine (writeByte_k w.heap.size w.heap.size _ 39 _ hI (by omega) hszr).mono ?_; rintro e W1 ⟨rfl, h1, b1, k1⟩; refine Hid.out ?_)
        refine Lib.hid ?_
        have hI1 : Lib.IsBuilderF 54 5 w.heap.size w.heap.size (Lib.byteCells ((39 :: dbl (s.data.toList.take k)) ++ [39])) W1 := by rw [cells_snoc]; exact Or.inr h1
        have hlen1 : (Lib.byteCells ((39 :: dbl (s.data.toList.take k)) ++ [39])).length ≤ 2 * k + 2 := by rw [cells_snoc, List.length_append]; simp only [List.length_cons, List.length_nil]; omega
        have hszr1 : w.heap.size ≤ W1.heap.size := (hbw.trans b1).size
        clear h1
        go_wp2_with (go_at_call 62; refine (writeByte_k w.heap.size w.heap.size _ 39 _ hI1 (by omega) hszr1).mono ?_; rintro e W2 ⟨rfl, h2, b2, k2⟩)
        go_roundw
        case rel =>
          refine ⟨k + 1, by omega, by go_num, ?_, (hbw.trans b1).trans b2⟩
          rw [HT.out, cells_snoc]; exact Or.inr h2
        case measure => simp [intOf]; omega
      · have HT : Hid (39 :: dbl (s.data.toList.take (k + 1)) = (39 :: dbl (s.data.toList.take k)) ++ [s[k]]) := dbl_take_ne s k hlt hc
        have hc' : ¬ (s[k].toNat : Int) = 39 := ne39 hc
        clear hc
        go_wp2_with (go_at_call 62; refine (writeByte_k w.heap.size w.heap.size _ _ _ hI (by omega) hszr).mono ?_; rintro e W2 ⟨rfl, h2, b2, k2⟩)
        go_roundw
        case rel =>
          refine ⟨k + 1, by omega, by go_num, ?_, hbw.trans b2⟩
          rw [HT.out, cells_snoc]; exact Or.inr h2
        case measure => simp [intOf]; omega
    · have HT : Hid (quo s.data.toList = (39 :: dbl (s.data.toList.take k)) ++ [39]) := by
        show _ = _
        rw [List.take_of_length_le (by rw [← size_len]; omega)]; rfl
      go_wp2_with (go_at_call 62; refine (writeByte_k w.heap.size w.heap.size _ 39 _ hI (by omega) hszr).mono ?_; rintro e W1 ⟨rfl, h1, b1, k1⟩; refine Hid.out ?_)
      refine Lib.hid ?_
      have hI1 : Lib.IsBuilderF 54 5 w.heap.size w.heap.size (Lib.byteCells ((39 :: dbl (s.data.toList.take k)) ++ [39])) W1 := by rw [cells_snoc]; exact Or.inr h1
      have hszr1 : w.heap.size ≤ W1.heap.size := (hbw.trans b1).size
      clear h1
      go_wp2_with (go_at_call 15; refine (Tryz.Builder_String_any_k w.heap.size w.heap.size _ _ hI1 hszr1).mono ?_; rintro e W2 ⟨rfl, _, b2, _⟩)
      go_ret
      exact ⟨ret_v (by rw [HT.out]; rfl), (hbw.trans b1).trans b2⟩
end Go.Proofs.YteabdlandbmdaaaGreatDoor

/-
  The walks of package value: a text out of its quotes.
-/
namespace Go.Proofs.YteabdlandbmdaaaGreatDoor
open Go.RowKit
set_option linter.unusedVariables false
set_option linter.unusedSimpArgs false

set_option maxHeartbeats 2000000 in
set_option maxRecDepth 100000 in
theorem unquoted_short (s : ByteArray) (w : World) (hs : s.size < 2) :
    Calls Tryz.prog 106 #[.string s] w fun e w' => e = .returned (.tuple #[.string ⟨#[]⟩, .bool false]) ∧ w' = w := by
  go_enter Tryz.func106, Tryz.ntmps106
  go_wp2
  go_ret2
  exact ⟨rfl, rfl⟩
set_option maxHeartbeats 2000000 in
set_option maxRecDepth 100000 in
theorem unquoted_first (s : ByteArray) (w : World) (hs0 : s.size ≤ 140737488355328) (hs : 2 ≤ s.size) (h0 : ¬ (s[0].toNat : Int) = 39) :
    Calls Tryz.prog 106 #[.string s] w fun e w' => e = .returned (.tuple #[.string ⟨#[]⟩, .bool false]) ∧ w' = w := by
  go_enter Tryz.func106, Tryz.ntmps106
  go_wp2
  go_ret2
  exact ⟨rfl, rfl⟩
set_option maxHeartbeats 2000000 in
set_option maxRecDepth 100000 in
theorem unquoted_last (s : ByteArray) (w : World) (hs0 : s.size ≤ 140737488355328) (hs : 2 ≤ s.size) (h0 : s[0] = 39) (h1 : ((s[s.size - 1].toNat : Int) != 39) = true) :
    Calls Tryz.prog 106 #[.string s] w fun e w' => e = .returned (.tuple #[.string ⟨#[]⟩, .bool false]) ∧ w' = w := by
  go_enter Tryz.func106, Tryz.ntmps106
  go_wp2
  go_ret2
  exact ⟨rfl, rfl⟩
def inner (s : ByteArray) : ByteArray := s.extract 1 (s.size - 1)
theorem inner_size (s : ByteArray) : (inner s).size = s.size - 2 := by
  unfold inner; rw [ByteArray.size_extract]; omega
theorem slice_inner (s : ByteArray) (w : World) (hs : 2 ≤ s.size) : (Instr.slice 9 (.string s) (some (.int .i64 1)) (some (.int .i64 ((s.size : Int) - 1))) none).run Tryz.prog w = .ok (.string (inner s)) w := by
  rw [run_slice_string w 9 s .i64 .i64 1 ((s.size : Int) - 1) Tryz.underlying9 (by omega) (by omega) (by omega)]
  have e : ((s.size : Int) - 1).toNat = s.size - 1 := by omega
  rw [e]; rfl

def unqV : Option (List UInt8) → Value
  | some l => .tuple #[.string ⟨l.toArray⟩, .bool true]
  | none => .tuple #[.string ⟨#[]⟩, .bool false]
theorem ne39b {c : UInt8} (h : ¬ c = 39) : ((c.toNat : Int) != 39) = true := by simpa using ne39 h
theorem drop_cons (s : ByteArray) (k : Nat) (h : k < s.size) : s.data.toList.drop k = s[k] :: s.data.toList.drop (k + 1) := by
  rw [List.drop_eq_getElem_cons (by rw [← size_len]; exact h)]; rfl
theorem drop_end (s : ByteArray) (k : Nat) (h : ¬ k < s.size) : s.data.toList.drop k = [] := by
  apply List.drop_eq_nil_of_le; rw [← size_len]; omega

set_option maxHeartbeats 4000000 in
set_option maxRecDepth 100000 in
theorem unquoted_in (s : ByteArray) (w : World) (hs0 : s.size ≤ 140737488355328) (hs : 2 ≤ s.size) (h0 : s[0] = 39) (h1 : s[s.size - 1] = 39) :
    Calls Tryz.prog 106 #[.string s] w fun e w' => e = .returned (unqV (und (inner s).data.toList)) ∧ Below w.heap.size w w' := by
  have hsl := fun w => slice_inner s w hs
  have hin := inner_size s
  generalize inner s = q at hsl hin ⊢
  have hq : q.size ≤ 140737488355326 := by omega
  clear hin
  go_enter Tryz.func106, Tryz.ntmps106
  go_wp2
  go_loopw [6] (fun i wr => ∃ (k : Nat) (acc : List UInt8), k ≤ q.size ∧ i = .int .i64 k ∧ acc.length ≤ k ∧ und q.data.toList = (und (q.data.toList.drop k)).map (acc ++ ·) ∧ Lib.IsBuilderF 54 5 w.heap.size w.heap.size (Lib.byteCells acc) wr ∧ Below w.heap.size w wr) (fun i wr => q.size - (intOf i).toNat)
  case atStart =>
    refine ⟨0, [], Nat.zero_le _, rfl, Nat.zero_le _, ?_, Lib.IsBuilderF.of (Lib.fresh_isBuilder 54 5 w), (Below.refl _ w).alloc (Nat.le_refl _) _⟩
    simp
  case round =>
    obtain ⟨k, acc, hk, rfl, hal, hu, hI, hbw⟩ := hrel
    have HU : Hid (und q.data.toList = (und (q.data.toList.drop k)).map (acc ++ ·)) := hu
    have hszr : w.heap.size ≤ wr.heap.size := hbw.size
    have hlen : (Lib.byteCells acc).length ≤ k := by rw [Lib.byteCells_length]; exact hal
    clear hu hsl h0 h1
    by_cases hlt : k < q.size
    · by_cases hc : q[k] = 39
      · by_cases hlt2 : k + 1 < q.size
        · by_cases hd : q[k + 1] = 39
          · go_wp2_with (go_at_call 62; refine (writeByte_k w.heap.size w.heap.size _ 39 _ hI (by omega) hszr).mono ?_; rintro e W1 ⟨rfl, h1, b1, k1⟩)
            go_roundw
            case rel =>
              refine ⟨k + 2, acc ++ [39], by omega, by go_num, by simp; omega, ?_, ?_, hbw.trans b1⟩
              · rw [HU.out, drop_cons q k hlt, drop_cons q (k + 1) hlt2, hc, hd, und_qq, Option.map_map]
                congr 1; funext x; simp
              · rw [cells_snoc]; exact Or.inr h1
            case measure => simp [intOf]; omega
          · have hd' := ne39b hd
            have HN : Hid (und q.data.toList = none) := by
              show _ = _
              rw [HU.out, drop_cons q k hlt, drop_cons q (k + 1) hlt2, hc, und_q_ne _ _ hd]; rfl
            clear hd
            go_wp2
            go_ret2
            exact ⟨ret_v (by rw [HN.out]; rfl), hbw⟩
        · have HN : Hid (und q.data.toList = none) := by
            show _ = _
            rw [HU.out, drop_cons q k hlt, drop_end q (k + 1) hlt2, hc, und_q]; rfl
          have hkk : q.size = k + 1 := by omega
          clear hlt2
          go_wp2
          go_ret2
          exact ⟨ret_v (by rw [HN.out]; rfl), hbw⟩
      · have hc' := ne39 hc
        go_wp2_with (go_at_call 62; refine (writeByte_k w.heap.size w.heap.size _ _ _ hI (by omega) hszr).mono ?_; rintro e W1 ⟨rfl, h1, b1, k1⟩)
        go_roundw
        case rel =>
          refine ⟨k + 1, acc ++ [q[k]], by omega, by go_num, by simp; omega, ?_, ?_, hbw.trans b1⟩
          · rw [HU.out, drop_cons q k hlt, und_cons_ne _ _ hc, Option.map_map]
            congr 1; funext x; simp
          · rw [cells_snoc]; exact Or.inr h1
        case measure => simp [intOf]; omega
    · have HN : Hid (und q.data.toList = some acc) := by
        show _ = _
        rw [HU.out, drop_end q k hlt]; simp [und]
      go_wp2_with (go_at_call 15; refine (Tryz.Builder_String_any_k w.heap.size w.heap.size _ _ hI hszr).mono ?_; rintro e W2 ⟨rfl, _, b2, _⟩)
      go_ret2
      exact ⟨ret_v (by rw [HN.out]; rfl), hbw.trans b2⟩
end Go.Proofs.YteabdlandbmdaaaGreatDoor

/-
  The walks of package value: unquoted at every text, checked, parseText.
-/
namespace Go.Proofs.YteabdlandbmdaaaGreatDoor
open Go.RowKit
set_option linter.unusedVariables false
set_option linter.unusedSimpArgs false

def unqL : List UInt8 → Option (List UInt8)
  | [] => none
  | c :: r => if c = 39 ∧ r.getLast? = some 39 then und r.dropLast else none

theorem inner_list (s : ByteArray) (hs : 2 ≤ s.size) : s.data.toList = s[0] :: ((inner s).data.toList ++ [s[s.size - 1]]) := by
  have e1 : (inner s).data.toList = (s.data.toList.take (s.size - 1)).drop 1 := by
    unfold inner; rw [ByteArray.data_extract, Array.toList_extract, List.extract_eq_take_drop, List.drop_take]
  have e2 : s.data.toList = s[0] :: s.data.toList.drop 1 := by
    have := drop_cons s 0 (by omega)
    simpa using this
  have e3 : s.data.toList = s.data.toList.take (s.size - 1) ++ [s[s.size - 1]] := by
    have := take_snoc s (s.size - 1) (by omega)
    rw [← this, show s.size - 1 + 1 = s.size by omega, List.take_of_length_le (by rw [← size_len]; omega)]
  have e4 : s.data.toList.take (s.size - 1) = s[0] :: (inner s).data.toList := by
    rw [e1]
    have : (s.data.toList.take (s.size - 1)) = s[0] :: (s.data.toList.take (s.size - 1)).drop 1 := by
      conv => lhs; rw [e2]
      conv => rhs; rw [e2]
      obtain ⟨m, hm⟩ : ∃ m, s.size - 1 = m + 1 := ⟨s.size - 2, by omega⟩
      rw [hm, List.take_succ_cons]; simp
    exact this
  rw [e3, e4]; rfl

theorem unqL_short (s : ByteArray) (hs : s.size < 2) : unqL s.data.toList = none := by
  rw [size_len] at hs
  cases h : s.data.toList with
  | nil => rfl
  | cons c r =>
    rw [h] at hs
    cases r with
    | nil => simp [unqL]
    | cons d r => simp at hs; omega
theorem unqL_in (s : ByteArray) (hs : 2 ≤ s.size) : unqL s.data.toList = if s[0] = 39 ∧ s[s.size - 1] = 39 then und (inner s).data.toList else none := by
  rw [inner_list s hs]; simp [unqL]

theorem unquoted_any (s : ByteArray) (w : World) (hs0 : s.size ≤ 140737488355328) :
    Calls Tryz.prog 106 #[.string s] w fun e w' => e = .returned (unqV (unqL s.data.toList)) ∧ Below w.heap.size w w' := by
  by_cases hs : 2 ≤ s.size
  · rw [unqL_in s hs]
    by_cases h0 : s[0] = 39
    · by_cases h1 : s[s.size - 1] = 39
      · rw [if_pos ⟨h0, h1⟩]; exact unquoted_in s w hs0 hs h0 h1
      · rw [if_neg (fun h => h1 h.2)]
        refine (unquoted_last s w hs0 hs h0 (ne39b h1)).mono ?_
        rintro e w' ⟨rfl, rfl⟩
        exact ⟨rfl, Below.refl _ _⟩
    · rw [if_neg (fun h => h0 h.1)]
      refine (unquoted_first s w hs0 hs (ne39 h0)).mono ?_
      rintro e w' ⟨rfl, rfl⟩
      exact ⟨rfl, Below.refl _ _⟩
  · rw [unqL_short s (by omega)]
    refine (unquoted_short s w (by omega)).mono ?_
    rintro e w' ⟨rfl, rfl⟩
    exact ⟨rfl, Below.refl _ _⟩

def resV (e t n : Int) (s : ByteArray) : Value := if e = 0 then .tuple #[val t n s, .nilIface] else .tuple #[val 0 0 ⟨#[]⟩, errV e]

theorem vErr_cases (t n : Int) (l : List UInt8) : vErr t n l = 0 ∨ vErr t n l = 1 ∨ vErr t n l = 2 ∨ vErr t n l = 4 ∨ vErr t n l = 8 := by
  unfold vErr tErr; repeat' split
  all_goals simp

set_option maxHeartbeats 2000000 in
set_option maxRecDepth 100000 in
theorem checked_any (t n : Int) (s : ByteArray) (w : World) (hs : s.size ≤ maxLen) :
    Calls Tryz.prog 107 #[val t n s] w fun e w' => e = .returned (resV (vErr t n s.data.toList) t n s) ∧ Below w.heap.size w w' := by
  unfold val
  by_cases h0 : vErr t n s.data.toList = 0
  · go_enter Tryz.func107, Tryz.ntmps107
    go_wp2_with (go_at_call 42; refine (check_any t n s _ hs).mono ?_; rintro e w' ⟨rfl, rfl⟩; rw [h0, errV_0])
    exact bodyPost_ret (v := .tuple #[val t n s, .nilIface]) (by simp [results, Tryz.results107, go_sem, val]) rfl ⟨ret_v (by rw [h0]; rfl), (((Below.refl _ _).alloc (Nat.le_refl _) _).alloc (by simp) _).alloc (by simp; omega) _⟩
  · rcases vErr_cases t n s.data.toList with h | h | h | h | h
    · exact absurd h h0
    all_goals
      clear h0
      go_enter Tryz.func107, Tryz.ntmps107
      go_wp2_with (go_at_call 42; refine (check_any t n s _ hs).mono ?_; rintro e w' ⟨rfl, rfl⟩; rw [h]; first | rw [errV_1] | rw [errV_2] | rw [errV_4] | rw [errV_8])
      exact bodyPost_ret (v := .tuple #[val 0 0 ⟨#[]⟩, errV (vErr t n s.data.toList)]) (by rw [h]; simp [results, Tryz.results107, go_sem, val, errV]) rfl ⟨ret_v (by rw [h]; rfl), (((Below.refl _ _).alloc (Nat.le_refl _) _).alloc (by simp) _).alloc (by simp; omega) _⟩
end Go.Proofs.YteabdlandbmdaaaGreatDoor
