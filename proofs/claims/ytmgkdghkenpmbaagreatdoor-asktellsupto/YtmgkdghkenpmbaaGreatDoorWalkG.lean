/-
  The walks of package value: Print; Parse of a text in quotes.
-/
import Derived.Test.YtmgkdghkenpmbaaGreatDoorWalkF
namespace Go.Proofs.YtmgkdghkenpmbaaGreatDoor
open Go.RowKit
set_option linter.unusedVariables false
set_option linter.unusedSimpArgs false

/-- What a value is printed as. -/
def showL (t n : Int) (l : List UInt8) : List UInt8 := if t = 1 then Lib.itoa n else if t = 2 then (if n = 0 then [102, 97, 108, 115, 101] else [116, 114, 117, 101]) else quo l

/-- The library's table of powers of ten is as it was laid. -/
abbrev Tab (w : World) : Prop := Lib.TabIs Tryz.prog w "internal/strconv.uint64pow10" .u64 Lib.pow10Tab

theorem below_one {w w' : World} {o : Obj} (hb : Below (w.alloc o).heap.size (w.alloc o) w') : Below w.heap.size w w' :=
  ((Below.refl _ w).alloc (Nat.le_refl _) _).trans (hb.mono (by simp))
theorem below_two {w w' : World} {o o' : Obj} (hb : Below ((w.alloc o).alloc o').heap.size ((w.alloc o).alloc o') w') : Below w.heap.size w w' :=
  below_one (below_one hb)

set_option maxHeartbeats 2000000 in
set_option maxRecDepth 100000 in
theorem print_err (t n : Int) (s : ByteArray) (w : World) (hs : s.size ≤ maxLen) (h0 : ¬ vErr t n s.data.toList = 0) :
    Calls Tryz.prog 44 #[val t n s] w fun e w' => e = .returned (.tuple #[.string ⟨#[]⟩, errV (vErr t n s.data.toList)]) ∧ Below w.heap.size w w' := by
  unfold val
  rcases vErr_cases t n s.data.toList with h | h | h | h | h
  · exact absurd h h0
  all_goals
    clear h0
    go_enter Tryz.func44, Tryz.ntmps44
    go_wp2_with (go_at_call 62; refine (check_any t n s _ hs).mono ?_; rintro e w' ⟨rfl, rfl⟩; rw [h]; first | rw [errV_1] | rw [errV_2] | rw [errV_4] | rw [errV_8])
    go_ret2
    exact ⟨ret_v (by rw [h]; rfl), ((Below.refl _ _).alloc (Nat.le_refl _) _).alloc (by simp) _⟩

theorem vErr_ok {t n : Int} {l : List UInt8} (h : vErr t n l = 0) : (t = 1 ∧ -1000000 ≤ n ∧ n ≤ 1000000 ∧ l = []) ∨ (t = 2 ∧ (n = 0 ∨ n = 1) ∧ l = []) ∨ (t = 3 ∧ n = 0 ∧ l.length ≤ 20 ∧ hasP badB l = false) := by
  unfold vErr at h
  by_cases ht : t = 1 ∨ t = 2 ∨ t = 3
  · rw [if_pos ht] at h
    by_cases hr : inR t n = true
    · rw [if_pos hr] at h
      rcases ht with rfl | rfl | rfl
      · rw [if_neg (by decide)] at h
        by_cases hl : l = []
        · refine Or.inl ⟨rfl, ?_, ?_, hl⟩ <;> · simp [inR] at hr; omega
        · rw [if_neg hl] at h; simp at h
      · rw [if_neg (by decide)] at h
        by_cases hl : l = []
        · refine Or.inr (Or.inl ⟨rfl, ?_, hl⟩); simp [inR] at hr; omega
        · rw [if_neg hl] at h; simp at h
      · rw [if_pos rfl] at h
        unfold tErr at h
        by_cases h20 : 20 < l.length
        · rw [if_pos h20] at h; simp at h
        · rw [if_neg h20] at h
          by_cases hb : hasP badB l = true
          · rw [if_pos hb] at h; simp at h
          · refine Or.inr (Or.inr ⟨rfl, ?_, by omega, by simpa using hb⟩)
            simp [inR] at hr; omega
    · rw [if_neg hr] at h; simp at h
  · rw [if_neg ht] at h; simp at h

set_option maxHeartbeats 2000000 in
set_option maxRecDepth 100000 in
theorem print_text (s : ByteArray) (w : World) (h0 : vErr 3 0 s.data.toList = 0) :
    Calls Tryz.prog 44 #[val 3 0 s] w fun e w' => e = .returned (.tuple #[.string ⟨(quo s.data.toList).toArray⟩, .nilIface]) ∧ Below w.heap.size w w' := by
  have hl : s.size ≤ 20 := by
    rw [size_len]
    rcases vErr_ok h0 with h | h | h
    · omega
    · omega
    · exact h.2.2.1
  have hs : s.size ≤ maxLen := by unfold maxLen; omega
  unfold val
  go_enter Tryz.func44, Tryz.ntmps44
  go_wp2_with (first | (go_at_call 62; refine (check_any 3 0 s _ hs).mono ?_; rintro e w' ⟨rfl, rfl⟩; rw [h0, errV_0]) | (go_at_call 65; refine (quoted_any s _ (by omega)).mono ?_; rintro e w' ⟨rfl, hb⟩))
  go_ret2
  exact ⟨rfl, below_two hb⟩
set_option maxHeartbeats 2000000 in
set_option maxRecDepth 100000 in
theorem print_bool (n : Int) (w : World) (hn : n = 0 ∨ n = 1) :
    Calls Tryz.prog 44 #[val 2 n ⟨#[]⟩] w fun e w' => e = .returned (.tuple #[.string ⟨(showL 2 n []).toArray⟩, .nilIface]) ∧ Below w.heap.size w w' := by
  have hs : (⟨#[]⟩ : ByteArray).size ≤ maxLen := by unfold maxLen; decide
  unfold val
  rcases hn with rfl | rfl
  · have h0 : vErr 2 0 (⟨#[]⟩ : ByteArray).data.toList = 0 := by decide
    go_enter Tryz.func44, Tryz.ntmps44
    go_wp2_with (first | (go_at_call 62; refine (check_any 2 0 _ _ hs).mono ?_; rintro e w' ⟨rfl, rfl⟩; rw [h0, errV_0]) | (go_at_call 64; refine (boolWord_0 _).mono ?_; rintro e w' ⟨rfl, rfl⟩))
    go_ret2
    exact ⟨rfl, ((Below.refl _ _).alloc (Nat.le_refl _) _).alloc (by simp) _⟩
  · have h0 : vErr 2 1 (⟨#[]⟩ : ByteArray).data.toList = 0 := by decide
    go_enter Tryz.func44, Tryz.ntmps44
    go_wp2_with (first | (go_at_call 62; refine (check_any 2 1 _ _ hs).mono ?_; rintro e w' ⟨rfl, rfl⟩; rw [h0, errV_0]) | (go_at_call 64; refine (boolWord_1 _).mono ?_; rintro e w' ⟨rfl, rfl⟩))
    go_ret2
    exact ⟨rfl, ((Below.refl _ _).alloc (Nat.le_refl _) _).alloc (by simp) _⟩
set_option maxHeartbeats 2000000 in
set_option maxRecDepth 100000 in
theorem print_int (n : Int) (w : World) (h1 : -1000000 ≤ n) (h2 : n ≤ 1000000) (hT : Tab w) :
    Calls Tryz.prog 44 #[val 1 n ⟨#[]⟩] w fun e w' => e = .returned (.tuple #[.string ⟨(Lib.itoa n).toArray⟩, .nilIface]) ∧ Below w.heap.size w w' := by
  have hs : (⟨#[]⟩ : ByteArray).size ≤ maxLen := by unfold maxLen; decide
  have h0 : vErr 1 n (⟨#[]⟩ : ByteArray).data.toList = 0 := by
    unfold vErr inR; simp; omega
  unfold val
  go_enter Tryz.func44, Tryz.ntmps44
  go_wp2_with (first | (go_at_call 62; refine (check_any 1 n _ _ hs).mono ?_; rintro e w' ⟨rfl, rfl⟩; rw [h0, errV_0]) | (go_at_call 63; refine (Tryz.strconv_Itoa n (by omega) (by omega) _ (Lib.tabIs_alloc (Lib.tabIs_alloc hT _) _)).mono ?_; rintro e w' ⟨rfl, k, os, rfl⟩))
  go_ret2
  exact ⟨rfl, below_two (Lib.below_grow _ _ (Nat.le_refl _) k os)⟩

/-- Print, whatever the value. -/
theorem print_any (t n : Int) (s : ByteArray) (w : World) (hs : s.size ≤ maxLen) (hT : Tab w) :
    Calls Tryz.prog 44 #[val t n s] w fun e w' => e = .returned (if vErr t n s.data.toList = 0 then .tuple #[.string ⟨(showL t n s.data.toList).toArray⟩, .nilIface] else .tuple #[.string ⟨#[]⟩, errV (vErr t n s.data.toList)]) ∧ Below w.heap.size w w' := by
  by_cases h0 : vErr t n s.data.toList = 0
  · rw [if_pos h0]
    rcases vErr_ok h0 with ⟨rfl, h1, h2, hl⟩ | ⟨rfl, hn, hl⟩ | ⟨rfl, rfl, hl, hb⟩
    · obtain rfl := nil_of_empty s hl
      exact print_int n w h1 h2 hT
    · obtain rfl := nil_of_empty s hl
      exact print_bool n w hn
    · exact print_text s w h0
  · rw [if_neg h0]
    exact print_err t n s w hs h0

theorem ptErr_cases (u : Option (List UInt8)) : ptErr u = 0 ∨ ptErr u = 2 ∨ ptErr u = 4 := by
  cases u with
  | none => simp [ptErr]
  | some r => unfold ptErr tErr; repeat' split
              all_goals simp
theorem head_list (s : ByteArray) (h : 0 < s.size) : s.data.toList = s[0] :: s.data.toList.drop 1 := by
  have := drop_cons s 0 h
  simpa using this

set_option maxHeartbeats 2000000 in
set_option maxRecDepth 100000 in
theorem parse_text (s : ByteArray) (w : World) (hs : s.size ≤ 140737488355328) (hs1 : 0 < s.size) (h0 : s[0] = 39) :
    Calls Tryz.prog 84 #[.string s] w fun e w' => e = .returned (resV (ptErr (unqL s.data.toList)) 3 0 ⟨((unqL s.data.toList).getD []).toArray⟩) ∧ Below w.heap.size w w' := by
  have hpt := fun w => parseText_any s w hs
  generalize unqL s.data.toList = u at hpt ⊢
  have hl := head_list s hs1
  rw [h0] at hl
  have hF : (s.toList == [102, 97, 108, 115, 101]) = false := by rw [Lib.toList_data, hl]; simp
  have hTr : (s.toList == [116, 114, 117, 101]) = false := by rw [Lib.toList_data, hl]; simp
  have hE : s.toList.isEmpty = false := by rw [Lib.toList_data, hl]; simp
  have hN : ¬ s.toList = [] := by rw [Lib.toList_data, hl]; simp
  clear hl
  rcases ptErr_cases u with h | h | h
  · go_enter Tryz.func84, Tryz.ntmps84
    go_wp2_with (go_at_call 91; refine (hpt _).mono ?_; rintro e W1 ⟨rfl, hb⟩; rw [h, show resV 0 3 0 ⟨(u.getD []).toArray⟩ = .tuple #[val 3 0 ⟨(u.getD []).toArray⟩, .nilIface] from rfl]; unfold val; obtain ⟨hc, hf⟩ := bcell hb)
    exact bodyPost_ret (v := .tuple #[val 3 0 ⟨(u.getD []).toArray⟩, .nilIface]) (by simp [results, Tryz.results84, go_sem, val, hc]) rfl ⟨ret_v (by rw [h]; rfl), below3 hb⟩
  all_goals
    go_enter Tryz.func84, Tryz.ntmps84
    go_wp2_with (go_at_call 91; refine (hpt _).mono ?_; rintro e W1 ⟨rfl, hb⟩; rw [h]; (first | rw [show resV 2 3 0 ⟨(u.getD []).toArray⟩ = .tuple #[val 0 0 ⟨#[]⟩, .iface 48 (.int .i64 2)] from rfl] | rw [show resV 4 3 0 ⟨(u.getD []).toArray⟩ = .tuple #[val 0 0 ⟨#[]⟩, .iface 48 (.int .i64 4)] from rfl]); unfold val; obtain ⟨hc, hf⟩ := bcell hb)
    exact bodyPost_ret (v := .tuple #[val 0 0 ⟨#[]⟩, errV (ptErr u)]) (by rw [h]; simp [results, Tryz.results84, go_sem, val, hc, errV]) rfl ⟨ret_v (by rw [h]; rfl), below3 hb⟩
end Go.Proofs.YtmgkdghkenpmbaaGreatDoor
