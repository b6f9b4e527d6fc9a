/-
  What the library's strings.Builder does with one byte: copyCheck and WriteByte, walked at this program.
-/
import Derived.Test.YteabdlandbmdaaaDoorM01
import Derived.WalkKit
import Derived.BigCall
import Derived.Shelf.Strings.BuilderK
import Derived.Outline
import Derived.Lib.AppendIntMem
import Derived.Lib.AtoiErrMem
namespace Go.Proofs.YteabdlandbmdaaaDoor
open Go.Shelf Go.RowKit

theorem Tryd.infoByte : (Tryd.prog.info? 5).map (fun i => (i.zero, i.size, i.bytes)) = some (some (.int .u8 0), 1, 1) := Tryd.Builder_Extra_169.infoByte

set_option maxHeartbeats 1000000 in
set_option maxRecDepth 100000 in
theorem copyCheck_used (b : Nat) (w : World) (h0 : w.cell? ⟨b, 0, none⟩ = some (.pointer (some ⟨b, 0, none⟩))) :
    Calls Tryd.prog 18 #[.pointer (some ⟨b, 0, none⟩)] w fun e w' => e = .returned (.tuple #[]) ∧ w' = w := by
  obtain ⟨j, hj, _⟩ := Option.map_eq_some_iff.1 Tryd.Builder_Extra_169.sizeBuilder
  go_enter Tryd.func18, Tryd.ntmps18
  go_wp2
  rw [Lib.run_neq_ptr_same w _ Tryd.underlying33 hj]
  go_wp2
  go_end0
  exact ⟨rfl, rfl⟩

set_option maxHeartbeats 1000000 in
set_option maxRecDepth 100000 in
theorem copyCheck_fresh (b : Nat) (w : World) (h0 : w.cell? ⟨b, 0, none⟩ = some (.pointer none)) (hsh : w.shape? b = some (36, 2)) (hfz : w.frozen? ⟨b, 0, none⟩ = false) :
    Calls Tryd.prog 18 #[.pointer (some ⟨b, 0, none⟩)] w fun e w' => e = .returned (.tuple #[]) ∧ w' = w.setCell ⟨b, 0, none⟩ (.pointer (some ⟨b, 0, none⟩)) := by
  obtain ⟨j, hj, hjs⟩ := Option.map_eq_some_iff.1 Tryd.Builder_Extra_169.sizeBuilder
  go_enter Tryd.func18, Tryd.ntmps18
  go_wp2
  rw [Lib.run_to_unsafe w ⟨b, 0, none⟩ Tryd.underlying33 Tryd.underlying68 hj (by rw [hjs]; decide) hsh (Nat.zero_lt_succ 1)]
  simp only [Result.andThen]
  rw [Oper.upon_value]
  go_wp2
  rw [run_callFunc_extern Tryd.func27 (by kernel_rfl) (by kernel_rfl) (by kernel_rfl) (e := Extern.AbiNoEscape.same) (by kernel_rfl)]
  rw [Lib.run_noEscape]
  simp only [Result.andThen]
  rw [Oper.upon_value]
  go_wp2
  rw [Lib.run_from_unsafe w ⟨b, 0, none⟩ Tryd.underlying68 Tryd.underlying33 hj hsh Tryd.Builder_Extra_169.liesBuilder]
  simp only [Result.andThen]
  rw [Oper.upon_value]
  go_wp2
  go_end0
  exact ⟨rfl, rfl⟩

theorem copyCheck_k (B b : Nat) (bs : List Value) (w : World) (h : Lib.IsBuilderF 36 5 B b bs w) :
    Calls Tryd.prog 18 #[.pointer (some ⟨b, 0, none⟩)] w fun e w' => e = .returned (.tuple #[]) ∧ (Lib.BuilderAtF 36 5 B b (.pointer (some ⟨b, 0, none⟩)) bs w' ∧ Below B w w' ∧ Lib.OthersKept 5 (some b) w w') := by
  rcases h with h | h
  · refine (copyCheck_fresh b w h.cell0 h.shape h.frozen0).mono ?_
    rintro e w' ⟨rfl, rfl⟩
    exact ⟨rfl, h.used _, (Below.refl B w).setCell (p := ⟨b, 0, none⟩) h.1 _, (Lib.OthersKept.refl _ _ w).setCell ⟨b, 0, none⟩ rfl _⟩
  · refine (copyCheck_used b w h.cell0).mono ?_
    rintro e w' ⟨rfl, rfl⟩
    exact ⟨rfl, h, Below.refl B _, Lib.OthersKept.refl _ _ _⟩

set_option maxHeartbeats 2000000 in
set_option maxRecDepth 100000 in
theorem writeByte_k (B b : Nat) (bs : List Value) (c : Int) (w : World) (h : Lib.IsBuilderF 36 5 B b bs w) (hlen : bs.length + 1 ≤ 140737488355328) (hBw : B ≤ w.heap.size) :
    Calls Tryd.prog 36 #[.pointer (some ⟨b, 0, none⟩), .int .u8 c] w fun e w' => e = .returned .nilIface ∧ (Lib.BuilderAtF 36 5 B b (.pointer (some ⟨b, 0, none⟩)) (bs ++ [.int .u8 c]) w' ∧ Below B w w' ∧ Lib.OthersKept 5 (some b) w w') := by
  obtain ⟨i0, hi, hz0, hz1, hz2⟩ := info_parts Tryd.infoByte
  go_enter Tryd.func36, Tryd.ntmps36
  go_wp2_with (go_at_call 18; refine (copyCheck_k B b bs _ h).mono ?_)
  rintro e w1 ⟨rfl, h1, hb1, hk1⟩
  obtain ⟨hB, v, hbk, hown, hne⟩ := h1
  have c0 : w1.cell? ⟨b, 0, none⟩ = some (.pointer (some ⟨b, 0, none⟩)) := by rw [Lib.cell_of_heap hbk]; rfl
  have c1 : w1.cell? ⟨b, 1, none⟩ = some v := by rw [Lib.cell_of_heap hbk]; rfl
  go_wp2_with (at_builtin; refine wpList_append_ownF _ rfl _ _ 34 rfl B 5 i0 (.int .u8 0) 1 1 Tryd.underlying34 hi hz0 hz1 hz2 rfl (by decide) _ _ _ rfl (hown.alloc _) ⟨w1.heap.size, 0, none⟩ 1 1 [.int .u8 c] rfl rfl ?c1 ?c2 ?c3 ?c4 ?c5 ?_)
  case c1 =>
    intro j u hj
    match j, hj with
    | 0, hj => simp at hj; subst hj; simp [Addr.add]
  case c2 => intro u hu; simp at hu; subst hu; rfl
  case c3 => unfold maxLen; omega
  case c4 => omega
  case c5 => have := hb1.size; simp; omega
  intro v' w2 hown' hgrow _
  have hlt : b < w1.heap.size := by
    rcases Nat.lt_or_ge b w1.heap.size with h' | h'
    · exact h'
    · simp [Array.getElem?_eq_none h'] at hbk
  have hb2 : w2.heap[b]? = some (.cells #[.pointer (some ⟨b, 0, none⟩), v] 36 (0, 0)) := by
    rw [hgrow.block b (by simp; omega) (fun e => hne e.symm), Lib.alloc_old w1 _ b hlt]
    exact hbk
  have d0 : w2.cell? ⟨b, 0, none⟩ = some (.pointer (some ⟨b, 0, none⟩)) := by rw [Lib.cell_of_heap hb2]; rfl
  have d1 : w2.cell? ⟨b, 1, none⟩ = some v := by rw [Lib.cell_of_heap hb2]; rfl
  have f1 : w2.frozen? ⟨b, 1, none⟩ = false := Lib.frozen_of_heap hb2 1
  obtain ⟨g, cap, rfl⟩ : ∃ g cap, v' = .slice (some ⟨g, 0, none⟩) (bs.length + 1) cap := by
    rcases hown'.2 with ⟨_, h0⟩ | ⟨g, cap, cur, fz, hv, _⟩
    · omega
    · exact ⟨g, cap, hv⟩
  go_wp2
  go_ret
  refine ⟨rfl, ?_, ?_, ((hk1.alloc _).grown hgrow (Lib.ownsRowF_kind (hown.alloc _))).setCell ⟨b, 1, none⟩ rfl _⟩
  · exact Lib.BuilderAtF.put (T := 36) (e := 5) hB hb2 (bs' := bs ++ [.int .u8 c]) (by simpa using hown') (by decide)
  · exact ((hb1.alloc (by have := hb1.size; omega) _).grown hgrow (by have := hb1.size; simp; omega) (fun k hk => (hown.lt k hk).1)).setCell (p := ⟨b, 1, none⟩) hB _
end Go.Proofs.YteabdlandbmdaaaDoor

/-
  The walks of package value: Check, checked, a text in quotes and back.
-/
namespace Go.Proofs.YteabdlandbmdaaaDoor
open Go.RowKit
set_option linter.unusedVariables false
set_option linter.unusedSimpArgs false

theorem nonE (s : ByteArray) (h : ¬ s.data.toList = []) : s.toList.isEmpty = false := by
  rw [← decide_eq_emptyBytes, decide_eq_false_iff_not]
  intro e; apply h; rw [e]; rfl
set_option maxHeartbeats 1000000 in
theorem check_any (t n : Int) (s : ByteArray) (w : World) (hs : s.size ≤ maxLen) :
    Calls Tryd.prog 23 #[val t n s] w fun e w' => e = .returned (errV (vErr t n s.data.toList)) ∧ w' = w.alloc (.cells #[.int .i64 t, .int .i64 n, .string s] 50) := by
  unfold val
  by_cases ht : t = 1 ∨ t = 2 ∨ t = 3
  · by_cases hr : inR t n = true
    · by_cases h3 : t = 3
      · subst h3
        have e1 : vErr 3 n s.data.toList = tErr s.data.toList := by unfold vErr; rw [if_pos ht, if_pos hr, if_pos rfl]
        have H1 : Hid (vErr 3 n s.data.toList = tErr s.data.toList) := e1
        clear e1 ht
        go_enter Tryd.func23, Tryd.ntmps23
        go_wp2_with (first | (go_at_call 34; refine (inRange_any _ _ _).mono ?_; rintro e w' ⟨rfl, rfl⟩) | (go_at_call 35; refine (checkText_any s _ hs).mono ?_; rintro e w' ⟨rfl, rfl⟩))
        go_ret
        exact ⟨ret_v (by rw [H1.out]; rfl), rfl⟩
      · by_cases hl : s.data.toList = []
        · have e1 : vErr t n s.data.toList = 0 := by unfold vErr; rw [if_pos ht, if_pos hr, if_neg h3, if_pos hl]
          have H1 : Hid (vErr t n s.data.toList = 0) := e1
          obtain rfl := nil_of_empty s hl
          clear e1 hl
          have ht' : t = 1 ∨ t = 2 := by omega
          clear ht
          rcases ht' with rfl | rfl
          all_goals
            go_enter Tryd.func23, Tryd.ntmps23
            go_wp2_with (first | (go_at_call 34; refine (inRange_any _ _ _).mono ?_; rintro e w' ⟨rfl, rfl⟩))
            go_ret
            exact ⟨ret_v (by rw [H1.out, errV_0]; rfl), rfl⟩
        · have e1 : vErr t n s.data.toList = 2 := by unfold vErr; rw [if_pos ht, if_pos hr, if_neg h3, if_neg hl]
          have H1 : Hid (vErr t n s.data.toList = 2) := e1
          have hE : s.toList.isEmpty = false := nonE s hl
          clear e1 hl
          have ht' : t = 1 ∨ t = 2 := by omega
          clear ht
          rcases ht' with rfl | rfl
          all_goals
            go_enter Tryd.func23, Tryd.ntmps23
            go_wp2_with (first | (go_at_call 34; refine (inRange_any _ _ _).mono ?_; rintro e w' ⟨rfl, rfl⟩))
            go_ret
            exact ⟨ret_v (by rw [H1.out, errV_2]; rfl), rfl⟩
    · have hr' : inR t n = false := by simpa using hr
      have e1 : vErr t n s.data.toList = 1 := by unfold vErr; rw [if_pos ht, if_neg hr]
      have H1 : Hid (vErr t n s.data.toList = 1) := e1
      clear e1 hr
      rcases ht with rfl | rfl | rfl
      all_goals
        go_enter Tryd.func23, Tryd.ntmps23
        go_wp2_with (first | (go_at_call 34; refine (inRange_any _ _ _).mono ?_; rintro e w' ⟨rfl, rfl⟩))
        go_ret
        exact ⟨ret_v (by rw [H1.out, errV_1]; rfl), rfl⟩
  · have e1 : vErr t n s.data.toList = 8 := by unfold vErr; rw [if_neg ht]
    have H1 : Hid (vErr t n s.data.toList = 8) := e1
    have h1 : ¬ t = 1 := by omega
    have h2 : ¬ t = 2 := by omega
    have h3 : ¬ t = 3 := by omega
    have b1 : (t != 1) = true := by simpa using h1
    have b2 : (t != 2) = true := by simpa using h2
    have b3 : (t != 3) = true := by simpa using h3
    clear e1 ht h1 h2 h3
    go_enter Tryd.func23, Tryd.ntmps23
    go_wp2
    go_ret
    exact ⟨ret_v (by rw [H1.out, errV_8]; rfl), rfl⟩

theorem boolWord_0 (w : World) : Calls Tryd.prog 24 #[.int .i64 0] w fun e w' => e = .returned (.string ⟨#[102, 97, 108, 115, 101]⟩) ∧ w' = w := by
  go_enter Tryd.func24, Tryd.ntmps24
  go_wp2
  go_ret
  exact ⟨rfl, rfl⟩
theorem boolWord_1 (w : World) : Calls Tryd.prog 24 #[.int .i64 1] w fun e w' => e = .returned (.string ⟨#[116, 114, 117, 101]⟩) ∧ w' = w := by
  go_enter Tryd.func24, Tryd.ntmps24
  go_wp2
  go_ret
  exact ⟨rfl, rfl⟩
end Go.Proofs.YteabdlandbmdaaaDoor

/-
  The walks of package value: a text in quotes, and back.
-/
namespace Go.Proofs.YteabdlandbmdaaaDoor
open Go.RowKit
set_option linter.unusedVariables false
set_option linter.unusedSimpArgs false

theorem ne39 {c : UInt8} (h : ¬ c = 39) : ¬ (c.toNat : Int) = 39 := by
  intro e
  apply h
  have e2 : c.toNat = 39 := by omega
  exact UInt8.toNat_inj.1 e2
theorem cells_snoc (l : List UInt8) (c : UInt8) : Lib.byteCells (l ++ [c]) = Lib.byteCells l ++ [.int .u8 (c.toNat : Int)] := by simp [Lib.byteCells]
theorem dbl_take_ne (s : ByteArray) (k : Nat) (h : k < s.size) (hc : ¬ s[k] = 39) : 39 :: dbl (s.data.toList.take (k + 1)) = (39 :: dbl (s.data.toList.take k)) ++ [s[k]] := by
  rw [take_snoc s k h, dbl_snoc, if_neg hc]; rfl
theorem dbl_take_eq (s : ByteArray) (k : Nat) (h : k < s.size) (hc : s[k] = 39) : 39 :: dbl (s.data.toList.take (k + 1)) = ((39 :: dbl (s.data.toList.take k)) ++ [39]) ++ [39] := by
  rw [take_snoc s k h, dbl_snoc, if_pos hc]; simp

set_option maxHeartbeats 2000000 in
set_option maxRecDepth 100000 in
theorem quoted_any (s : ByteArray) (w : World) (hs : s.size ≤ 1000000) :
    Calls Tryd.prog 25 #[.string s] w fun e w' => e = .returned (.string ⟨(quo s.data.toList).toArray⟩) ∧ Below w.heap.size w w' := by
  have hsz0 : w.heap.size ≤ (w.alloc (.cells #[.pointer none, .slice none 0 0] 36)).heap.size := by simp
  go_enter Tryd.func25, Tryd.ntmps25
  go_wp2_with (go_at_call 36; refine (writeByte_k w.heap.size w.heap.size [] 39 _ (Lib.IsBuilderF.of (Lib.fresh_isBuilder 36 5 w)) (by simp) hsz0).mono ?_; rintro e w1 ⟨rfl, h1, b1, k1⟩)
  have hb1 : Below w.heap.size w w1 := ((Below.refl _ w).alloc (Nat.le_refl _) _).trans b1
  go_loopw [8] (fun i wr => ∃ k : Nat, k ≤ s.size ∧ i = .int .i64 k ∧ Lib.IsBuilderF 36 5 w.heap.size w.heap.size (Lib.byteCells (39 :: dbl (s.data.toList.take k))) wr ∧ Below w.heap.size w wr) (fun i wr => s.size - (intOf i).toNat)
  case atStart => exact ⟨0, Nat.zero_le _, rfl, Or.inr h1, hb1⟩
  case round =>
    obtain ⟨k, hk, rfl, hI, hbw⟩ := hrel
    have hszr : w.heap.size ≤ wr.heap.size := hbw.size
    have hdl := dbl_len (s.data.toList.take k)
    have htl : (s.data.toList.take k).length ≤ k := List.length_take_le _ _
    have hlen : (Lib.byteCells (39 :: dbl (s.data.toList.take k))).length ≤ 2 * k + 1 := by rw [Lib.byteCells_length]; simp; omega
    clear h1 b1 k1 hb1 hsz0 hdl htl
    by_cases hlt : k < s.size
    · by_cases hc : s[k] = 39
      · have HT : Hid (39 :: dbl (s.data.toList.take (k + 1)) = ((39 :: dbl (s.data.toList.take k)) ++ [39]) ++ [39]) := dbl_take_eq s k hlt hc
        go_wp2_with (go_at_call 36; refine (writeByte_k w.heap.size w.heap.size _ 39 _ hI (by omega) hszr).mono ?_; rintro e W1 ⟨rfl, h1, b1, k1⟩; refine Hid.out ?_)
        refine Lib.hid ?_
        have hI1 : Lib.IsBuilderF 36 5 w.heap.size w.heap.size (Lib.byteCells ((39 :: dbl (s.data.toList.take k)) ++ [39])) W1 := by rw [cells_snoc]; exact Or.inr h1
        have hlen1 : (Lib.byteCells ((39 :: dbl (s.data.toList.take k)) ++ [39])).length ≤ 2 * k + 2 := by rw [cells_snoc, List.length_append]; simp only [List.length_cons, List.length_nil]; omega
        have hszr1 : w.heap.size ≤ W1.heap.size := (hbw.trans b1).size
        clear h1
        go_wp2_with (go_at_call 36; refine (writeByte_k w.heap.size w.heap.size _ 39 _ hI1 (by omega) hszr1).mono ?_; rintro e W2 ⟨rfl, h2, b2, k2⟩)
        go_roundw
        case rel =>
          refine ⟨k + 1, by omega, by go_num, ?_, (hbw.trans b1).trans b2⟩
          rw [HT.out, cells_snoc]; exact Or.inr h2
        case measure => simp [intOf]; omega
      · have HT : Hid (39 :: dbl (s.data.toList.take (k + 1)) = (39 :: dbl (s.data.toList.take k)) ++ [s[k]]) := dbl_take_ne s k hlt hc
        have hc' : ¬ (s[k].toNat : Int) = 39 := ne39 hc
        clear hc
        go_wp2_with (go_at_call 36; refine (writeByte_k w.heap.size w.heap.size _ _ _ hI (by omega) hszr).mono ?_; rintro e W2 ⟨rfl, h2, b2, k2⟩)
        go_roundw
        case rel =>
          refine ⟨k + 1, by omega, by go_num, ?_, hbw.trans b2⟩
          rw [HT.out, cells_snoc]; exact Or.inr h2
        case measure => simp [intOf]; omega
    · have HT : Hid (quo s.data.toList = (39 :: dbl (s.data.toList.take k)) ++ [39]) := by
        show _ = _
        rw [List.take_of_length_le (by rw [← size_len]; omega)]; rfl
      go_wp2_with (go_at_call 36; refine (writeByte_k w.heap.size w.heap.size _ 39 _ hI (by omega) hszr).mono ?_; rintro e W1 ⟨rfl, h1, b1, k1⟩; refine Hid.out ?_)
      refine Lib.hid ?_
      have hI1 : Lib.IsBuilderF 36 5 w.heap.size w.heap.size (Lib.byteCells ((39 :: dbl (s.data.toList.take k)) ++ [39])) W1 := by rw [cells_snoc]; exact Or.inr h1
      have hszr1 : w.heap.size ≤ W1.heap.size := (hbw.trans b1).size
      clear h1
      go_wp2_with (go_at_call 11; refine (Tryd.Builder_String_any_k w.heap.size w.heap.size _ _ hI1 hszr1).mono ?_; rintro e W2 ⟨rfl, _, b2, _⟩)
      go_ret
      exact ⟨ret_v (by rw [HT.out]; rfl), (hbw.trans b1).trans b2⟩
end Go.Proofs.YteabdlandbmdaaaDoor

/-
  The walks of package value: a text out of its quotes.
-/
namespace Go.Proofs.YteabdlandbmdaaaDoor
open Go.RowKit
set_option linter.unusedVariables false
set_option linter.unusedSimpArgs false
end Go.Proofs.YteabdlandbmdaaaDoor

/-
  The walks of package value: unquoted at every text, checked, parseText.
-/
namespace Go.Proofs.YteabdlandbmdaaaDoor
open Go.RowKit
set_option linter.unusedVariables false
set_option linter.unusedSimpArgs false

theorem vErr_cases (t n : Int) (l : List UInt8) : vErr t n l = 0 ∨ vErr t n l = 1 ∨ vErr t n l = 2 ∨ vErr t n l = 4 ∨ vErr t n l = 8 := by
  unfold vErr tErr; repeat' split
  all_goals simp

end Go.Proofs.YteabdlandbmdaaaDoor

/-
  The walks of package value: parseText and Print.
-/
namespace Go.Proofs.YteabdlandbmdaaaDoor
open Go.RowKit
set_option linter.unusedVariables false
set_option linter.unusedSimpArgs false

end Go.Proofs.YteabdlandbmdaaaDoor

/-
  The walks of package value: Print; Parse of a text in quotes.
-/
namespace Go.Proofs.YteabdlandbmdaaaDoor
open Go.RowKit
set_option linter.unusedVariables false
set_option linter.unusedSimpArgs false

def showL (t n : Int) (l : List UInt8) : List UInt8 := if t = 1 then Lib.itoa n else if t = 2 then (if n = 0 then [102, 97, 108, 115, 101] else [116, 114, 117, 101]) else quo l

abbrev Tab (w : World) : Prop := Lib.TabIs Tryd.prog w "internal/strconv.uint64pow10" .u64 Lib.pow10Tab

theorem below_one {w w' : World} {o : Obj} (hb : Below (w.alloc o).heap.size (w.alloc o) w') : Below w.heap.size w w' :=
  ((Below.refl _ w).alloc (Nat.le_refl _) _).trans (hb.mono (by simp))
theorem below_two {w w' : World} {o o' : Obj} (hb : Below ((w.alloc o).alloc o').heap.size ((w.alloc o).alloc o') w') : Below w.heap.size w w' :=
  below_one (below_one hb)

set_option maxHeartbeats 2000000 in
set_option maxRecDepth 100000 in
theorem print_err (t n : Int) (s : ByteArray) (w : World) (hs : s.size ≤ maxLen) (h0 : ¬ vErr t n s.data.toList = 0) :
    Calls Tryd.prog 16 #[val t n s] w fun e w' => e = .returned (.tuple #[.string ⟨#[]⟩, errV (vErr t n s.data.toList)]) ∧ Below w.heap.size w w' := by
  unfold val
  rcases vErr_cases t n s.data.toList with h | h | h | h | h
  · exact absurd h h0
  all_goals
    clear h0
    go_enter Tryd.func16, Tryd.ntmps16
    go_wp2_with (go_at_call 23; refine (check_any t n s _ hs).mono ?_; rintro e w' ⟨rfl, rfl⟩; rw [h]; first | rw [errV_1] | rw [errV_2] | rw [errV_4] | rw [errV_8])
    go_ret2
    exact ⟨ret_v (by rw [h]; rfl), ((Below.refl _ _).alloc (Nat.le_refl _) _).alloc (by simp) _⟩

theorem vErr_ok {t n : Int} {l : List UInt8} (h : vErr t n l = 0) : (t = 1 ∧ -1000000 ≤ n ∧ n ≤ 1000000 ∧ l = []) ∨ (t = 2 ∧ (n = 0 ∨ n = 1) ∧ l = []) ∨ (t = 3 ∧ n = 0 ∧ l.length ≤ 20 ∧ hasP badB l = false) := by
  unfold vErr at h
  by_cases ht : t = 1 ∨ t = 2 ∨ t = 3
  · rw [if_pos ht] at h
    by_cases hr : inR t n = true
    · rw [if_pos hr] at h
      rcases ht with rfl | rfl | rfl
      · rw [if_neg (by decide)] at h
        by_cases hl : l = []
        · refine Or.inl ⟨rfl, ?_, ?_, hl⟩ <;> · simp [inR] at hr; omega
        · rw [if_neg hl] at h; simp at h
      · rw [if_neg (by decide)] at h
        by_cases hl : l = []
        · refine Or.inr (Or.inl ⟨rfl, ?_, hl⟩); simp [inR] at hr; omega
        · rw [if_neg hl] at h; simp at h
      · rw [if_pos rfl] at h
        unfold tErr at h
        by_cases h20 : 20 < l.length
        · rw [if_pos h20] at h; simp at h
        · rw [if_neg h20] at h
          by_cases hb : hasP badB l = true
          · rw [if_pos hb] at h; simp at h
          · refine Or.inr (Or.inr ⟨rfl, ?_, by omega, by simpa using hb⟩)
            simp [inR] at hr; omega
    · rw [if_neg hr] at h; simp at h
  · rw [if_neg ht] at h; simp at h

set_option maxHeartbeats 2000000 in
set_option maxRecDepth 100000 in
theorem print_text (s : ByteArray) (w : World) (h0 : vErr 3 0 s.data.toList = 0) :
    Calls Tryd.prog 16 #[val 3 0 s] w fun e w' => e = .returned (.tuple #[.string ⟨(quo s.data.toList).toArray⟩, .nilIface]) ∧ Below w.heap.size w w' := by
  have hl : s.size ≤ 20 := by
    rw [size_len]
    rcases vErr_ok h0 with h | h | h
    · omega
    · omega
    · exact h.2.2.1
  have hs : s.size ≤ maxLen := by unfold maxLen; omega
  unfold val
  go_enter Tryd.func16, Tryd.ntmps16
  go_wp2_with (first | (go_at_call 23; refine (check_any 3 0 s _ hs).mono ?_; rintro e w' ⟨rfl, rfl⟩; rw [h0, errV_0]) | (go_at_call 25; refine (quoted_any s _ (by omega)).mono ?_; rintro e w' ⟨rfl, hb⟩))
  go_ret2
  exact ⟨rfl, below_two hb⟩
set_option maxHeartbeats 2000000 in
set_option maxRecDepth 100000 in
theorem print_bool (n : Int) (w : World) (hn : n = 0 ∨ n = 1) :
    Calls Tryd.prog 16 #[val 2 n ⟨#[]⟩] w fun e w' => e = .returned (.tuple #[.string ⟨(showL 2 n []).toArray⟩, .nilIface]) ∧ Below w.heap.size w w' := by
  have hs : (⟨#[]⟩ : ByteArray).size ≤ maxLen := by unfold maxLen; decide
  unfold val
  rcases hn with rfl | rfl
  · have h0 : vErr 2 0 (⟨#[]⟩ : ByteArray).data.toList = 0 := by decide
    go_enter Tryd.func16, Tryd.ntmps16
    go_wp2_with (first | (go_at_call 23; refine (check_any 2 0 _ _ hs).mono ?_; rintro e w' ⟨rfl, rfl⟩; rw [h0, errV_0]) | (go_at_call 24; refine (boolWord_0 _).mono ?_; rintro e w' ⟨rfl, rfl⟩))
    go_ret2
    exact ⟨rfl, ((Below.refl _ _).alloc (Nat.le_refl _) _).alloc (by simp) _⟩
  · have h0 : vErr 2 1 (⟨#[]⟩ : ByteArray).data.toList = 0 := by decide
    go_enter Tryd.func16, Tryd.ntmps16
    go_wp2_with (first | (go_at_call 23; refine (check_any 2 1 _ _ hs).mono ?_; rintro e w' ⟨rfl, rfl⟩; rw [h0, errV_0]) | (go_at_call 24; refine (boolWord_1 _).mono ?_; rintro e w' ⟨rfl, rfl⟩))
    go_ret2
    exact ⟨rfl, ((Below.refl _ _).alloc (Nat.le_refl _) _).alloc (by simp) _⟩
set_option maxHeartbeats 2000000 in
set_option maxRecDepth 100000 in
theorem print_int (n : Int) (w : World) (h1 : -1000000 ≤ n) (h2 : n ≤ 1000000) (hT : Tab w) :
    Calls Tryd.prog 16 #[val 1 n ⟨#[]⟩] w fun e w' => e = .returned (.tuple #[.string ⟨(Lib.itoa n).toArray⟩, .nilIface]) ∧ Below w.heap.size w w' := by
  have hs : (⟨#[]⟩ : ByteArray).size ≤ maxLen := by unfold maxLen; decide
  have h0 : vErr 1 n (⟨#[]⟩ : ByteArray).data.toList = 0 := by
    unfold vErr inR; simp; omega
  unfold val
  go_enter Tryd.func16, Tryd.ntmps16
  go_wp2_with (first | (go_at_call 23; refine (check_any 1 n _ _ hs).mono ?_; rintro e w' ⟨rfl, rfl⟩; rw [h0, errV_0]) | (go_at_call 10; refine (Tryd.strconv_Itoa n (by omega) (by omega) _ (Lib.tabIs_alloc (Lib.tabIs_alloc hT _) _)).mono ?_; rintro e w' ⟨rfl, k, os, rfl⟩))
  go_ret2
  exact ⟨rfl, below_two (Lib.below_grow _ _ (Nat.le_refl _) k os)⟩

theorem print_any (t n : Int) (s : ByteArray) (w : World) (hs : s.size ≤ maxLen) (hT : Tab w) :
    Calls Tryd.prog 16 #[val t n s] w fun e w' => e = .returned (if vErr t n s.data.toList = 0 then .tuple #[.string ⟨(showL t n s.data.toList).toArray⟩, .nilIface] else .tuple #[.string ⟨#[]⟩, errV (vErr t n s.data.toList)]) ∧ Below w.heap.size w w' := by
  by_cases h0 : vErr t n s.data.toList = 0
  · rw [if_pos h0]
    rcases vErr_ok h0 with ⟨rfl, h1, h2, hl⟩ | ⟨rfl, hn, hl⟩ | ⟨rfl, rfl, hl, hb⟩
    · obtain rfl := nil_of_empty s hl
      exact print_int n w h1 h2 hT
    · obtain rfl := nil_of_empty s hl
      exact print_bool n w hn
    · exact print_text s w h0
  · rw [if_neg h0]
    exact print_err t n s w hs h0

end Go.Proofs.YteabdlandbmdaaaDoor

/-
  The walks of package value: isNumber, parseInt.
-/
namespace Go.Proofs.YteabdlandbmdaaaDoor
open Go.RowKit
set_option linter.unusedVariables false
set_option linter.unusedSimpArgs false

end Go.Proofs.YteabdlandbmdaaaDoor

/-
  The walks of package value: Parse at every text, Name, Compare.
-/
namespace Go.Proofs.YteabdlandbmdaaaDoor
open Go.RowKit
set_option linter.unusedVariables false
set_option linter.unusedSimpArgs false

theorem errV_ne {e : Int} (h : ¬ e = 0) : errV e = .iface 54 (.int .i64 e) := by unfold errV; rw [if_neg h]
theorem list_eq {s : ByteArray} {l : List UInt8} (h : s.data.toList = l) : s = ⟨l.toArray⟩ := by
  cases s with | mk d => congr 1; rw [← h]

def nErr (l : List UInt8) : Int := if l = [] then 2 else if 8 < l.length then 2 else if hasP noLet l = true then 2 else 0

set_option maxHeartbeats 2000000 in
set_option maxRecDepth 100000 in
theorem name_any (s : ByteArray) (w : World) (hs : s.size ≤ maxLen) :
    Calls Tryd.prog 21 #[.string s] w fun e w' => e = .returned (errV (nErr s.data.toList)) ∧ w' = w := by
  by_cases hE : s.data.toList = []
  · obtain rfl := list_eq hE
    go_enter Tryd.func21, Tryd.ntmps21
    go_wp2
    go_ret
    exact ⟨rfl, rfl⟩
  · have bE : s.toList.isEmpty = false := nonE s hE
    have bN : ¬ s.toList = [] := by rw [Lib.toList_data]; exact hE
    have hsz := size_len s
    by_cases h8 : 8 < s.size
    · have H1 : Hid (nErr s.data.toList = 2) := by
        show _ = _
        unfold nErr; rw [if_neg hE, if_pos (by omega)]
      clear hE hsz
      unfold maxLen at hs
      go_enter Tryd.func21, Tryd.ntmps21
      go_wp2
      go_ret
      exact ⟨ret_v (by rw [H1.out]; rfl), rfl⟩
    · by_cases hb : hasP noLet s.data.toList = true
      · have H1 : Hid (nErr s.data.toList = 2) := by
          show _ = _
          unfold nErr; rw [if_neg hE, if_neg (by omega), if_pos hb]
        clear hE hsz
        go_enter Tryd.func21, Tryd.ntmps21
        go_wp2_with (go_at_call 30; refine (anyLet s _ hs).mono ?_; rintro e w' ⟨rfl, rfl⟩)
        go_ret
        exact ⟨ret_v (by rw [H1.out]; rfl), rfl⟩
      · have hb' : hasP noLet s.data.toList = false := by simpa using hb
        have H1 : Hid (nErr s.data.toList = 0) := by
          show _ = _
          unfold nErr; rw [if_neg hE, if_neg (by omega), if_neg hb]
        clear hE hsz hb
        go_enter Tryd.func21, Tryd.ntmps21
        go_wp2_with (go_at_call 30; refine (anyLet s _ hs).mono ?_; rintro e w' ⟨rfl, rfl⟩)
        go_ret
        exact ⟨ret_v (by rw [H1.out]; rfl), rfl⟩

end Go.Proofs.YteabdlandbmdaaaDoor
