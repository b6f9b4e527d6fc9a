/-
  The walks of package value: parseText and Print.
-/
import Derived.Test.YteabdlandbmdaaaGreatDoorM03
import Derived.Lib.AppendIntMem
import Derived.Lib.AtoiErrMem
namespace Go.Proofs.YteabdlandbmdaaaGreatDoor
open Go.RowKit
set_option linter.unusedVariables false
set_option linter.unusedSimpArgs false

def ptErr : Option (List UInt8) → Int
  | none => 2
  | some r => if hasP badB r = true then 2 else tErr r

theorem und_len (l : List UInt8) : ∀ r, und l = some r → r.length ≤ l.length := by
  induction l using und.induct with
  | case1 => intro r h; simp [und] at h; subst h; simp
  | case2 => intro r h; simp [und] at h
  | case3 c hc => intro r h; simp [und, hc] at h; subst h; simp
  | case4 r ih => intro q h; simp [und] at h; obtain ⟨x, hx, rfl⟩ := h; have := ih x hx; simp; omega
  | case5 d r hd => intro q h; simp [und, hd] at h
  | case6 c d r hc ih => intro q h; simp [und, hc] at h; obtain ⟨x, hx, rfl⟩ := h; have := ih x hx; simp at this ⊢; omega
theorem unqL_len (l r : List UInt8) (h : unqL l = some r) : r.length ≤ l.length := by
  cases l with
  | nil => simp [unqL] at h
  | cons c q =>
    simp only [unqL] at h
    by_cases hc : c = 39 ∧ q.getLast? = some 39
    · rw [if_pos hc] at h; have := und_len _ _ h; simp at this ⊢; omega
    · rw [if_neg hc] at h; simp at h

theorem vErr_3 (l : List UInt8) : vErr 3 0 l = tErr l := by
  unfold vErr; rw [if_pos (by omega), if_pos (by decide), if_pos rfl]

theorem bcell {W w1 : World} (hb : Below W.heap.size W w1) : (∀ b o, b < W.heap.size → w1.cell? ⟨b, o, none⟩ = W.cell? ⟨b, o, none⟩) ∧ (∀ b o, b < W.heap.size → w1.frozen? ⟨b, o, none⟩ = W.frozen? ⟨b, o, none⟩) :=
  ⟨fun b o h => hb.cell (p := ⟨b, o, none⟩) h, fun b o h => hb.frozen (p := ⟨b, o, none⟩) h⟩

theorem below3 {w W1 : World} {o : Obj} {a b c : Value} (hb : Below (w.alloc o).heap.size (w.alloc o) W1) :
    Below w.heap.size w (((W1.setCell ⟨w.heap.size, 0, none⟩ a).setCell ⟨w.heap.size, 1, none⟩ b).setCell ⟨w.heap.size, 2, none⟩ c) :=
  (((((Below.refl _ w).alloc (Nat.le_refl _) _).trans (hb.mono (by simp))).setCell (p := ⟨w.heap.size, 0, none⟩) (Nat.le_refl _) _).setCell (p := ⟨w.heap.size, 1, none⟩) (Nat.le_refl _) _).setCell (p := ⟨w.heap.size, 2, none⟩) (Nat.le_refl _) _

set_option maxHeartbeats 2000000 in
set_option maxRecDepth 100000 in
theorem parseText_any (s : ByteArray) (w : World) (hs : s.size ≤ 140737488355328) :
    Calls Tryz.prog 96 #[.string s] w fun e w' => e = .returned (resV (ptErr (unqL s.data.toList)) 3 0 ⟨((unqL s.data.toList).getD []).toArray⟩) ∧ Below w.heap.size w w' := by
  have hun := fun w => unquoted_any s w hs
  have hln := unqL_len s.data.toList
  rw [← size_len] at hln
  generalize unqL s.data.toList = u at hun hln ⊢
  cases u with
  | none =>
    go_enter Tryz.func96, Tryz.ntmps96
    go_wp2_with (go_at_call 106; refine (hun _).mono ?_; rintro e W1 ⟨rfl, hb⟩; rw [show unqV none = .tuple #[.string ⟨#[]⟩, .bool false] from rfl]; obtain ⟨hc, hf⟩ := bcell hb)
    exact bodyPost_ret (v := .tuple #[val 0 0 ⟨#[]⟩, errV 2]) (by simp [results, Tryz.results96, go_sem, val, errV, hc]) rfl ⟨rfl, below3 hb⟩
  | some r =>
    have hrl : r.length ≤ 140737488355328 := Nat.le_trans (hln r rfl) hs
    have hrs : (⟨r.toArray⟩ : ByteArray).size ≤ maxLen := by unfold maxLen; show r.toArray.size ≤ _; rw [List.size_toArray]; omega
    have hpr := fun w => isPrintable_any ⟨r.toArray⟩ w hrs
    have hck := fun w => checked_any 3 0 ⟨r.toArray⟩ w hrs
    rw [vErr_3] at hck
    rw [show ((⟨r.toArray⟩ : ByteArray).data.toList) = r from rfl] at hpr hck
    clear hln hs
    by_cases hbad : hasP badB r = true
    · rw [show ptErr (some r) = 2 by simp [ptErr, hbad]]
      go_enter Tryz.func96, Tryz.ntmps96
      go_wp2_with (first | (go_at_call 106; refine (hun _).mono ?_; rintro e W1 ⟨rfl, hb⟩; rw [show unqV (some r) = .tuple #[.string ⟨r.toArray⟩, .bool true] from rfl]; obtain ⟨hc, hf⟩ := bcell hb) | (go_at_call 79; refine (hpr _).mono ?_; rintro e w' ⟨rfl, rfl⟩))
      exact bodyPost_ret (v := .tuple #[val 0 0 ⟨#[]⟩, errV 2]) (by simp [results, Tryz.results96, go_sem, val, errV, hc]) rfl ⟨rfl, below3 hb⟩
    · have hbad' : hasP badB r = false := by simpa using hbad
      rw [show ptErr (some r) = tErr r by simp [ptErr, hbad']]
      have hre : resV (tErr r) 3 0 ⟨((some r).getD []).toArray⟩ = resV (tErr r) 3 0 ⟨r.toArray⟩ := rfl
      rw [hre]
      clear hbad hre
      have hcs : tErr r = 0 ∨ tErr r = 4 := by unfold tErr; rw [hbad']; split <;> simp
      rcases hcs with h | h
      · go_enter Tryz.func96, Tryz.ntmps96
        go_wp2_with (first | (go_at_call 106; refine (hun _).mono ?_; rintro e W1 ⟨rfl, hb⟩; rw [show unqV (some r) = .tuple #[.string ⟨r.toArray⟩, .bool true] from rfl]; obtain ⟨hc, hf⟩ := bcell hb) | (go_at_call 79; refine (hpr _).mono ?_; rintro e w' ⟨rfl, rfl⟩) | (go_at_call 107; refine (hck _).mono ?_; rintro e W2 ⟨rfl, hb2⟩; rw [h, show resV 0 3 0 ⟨r.toArray⟩ = .tuple #[val 3 0 ⟨r.toArray⟩, .nilIface] from rfl]; unfold val; obtain ⟨hc2, hf2⟩ := bcell (hb.trans (hb2.mono hb.size))))
        exact bodyPost_ret (v := .tuple #[val 3 0 ⟨r.toArray⟩, .nilIface]) (by simp [results, Tryz.results96, go_sem, val, errV, hc2]) rfl ⟨ret_v (by rw [h]; rfl), below3 (hb.trans (hb2.mono hb.size))⟩
      · go_enter Tryz.func96, Tryz.ntmps96
        go_wp2_with (first | (go_at_call 106; refine (hun _).mono ?_; rintro e W1 ⟨rfl, hb⟩; rw [show unqV (some r) = .tuple #[.string ⟨r.toArray⟩, .bool true] from rfl]; obtain ⟨hc, hf⟩ := bcell hb) | (go_at_call 79; refine (hpr _).mono ?_; rintro e w' ⟨rfl, rfl⟩) | (go_at_call 107; refine (hck _).mono ?_; rintro e W2 ⟨rfl, hb2⟩; rw [h, show resV 4 3 0 ⟨r.toArray⟩ = .tuple #[val 0 0 ⟨#[]⟩, errV 4] from rfl, errV_4]; unfold val; obtain ⟨hc2, hf2⟩ := bcell (hb.trans (hb2.mono hb.size))))
        exact bodyPost_ret (v := .tuple #[val 0 0 ⟨#[]⟩, errV 4]) (by simp [results, Tryz.results96, go_sem, val, errV, hc2]) rfl ⟨ret_v (by rw [h]; rfl), below3 (hb.trans (hb2.mono hb.size))⟩
end Go.Proofs.YteabdlandbmdaaaGreatDoor

/-
  The walks of package value: Print; Parse of a text in quotes.
-/
namespace Go.Proofs.YteabdlandbmdaaaGreatDoor
open Go.RowKit
set_option linter.unusedVariables false
set_option linter.unusedSimpArgs false

def showL (t n : Int) (l : List UInt8) : List UInt8 := if t = 1 then Lib.itoa n else if t = 2 then (if n = 0 then [102, 97, 108, 115, 101] else [116, 114, 117, 101]) else quo l

abbrev Tab (w : World) : Prop := Lib.TabIs Tryz.prog w "internal/strconv.uint64pow10" .u64 Lib.pow10Tab

theorem below_one {w w' : World} {o : Obj} (hb : Below (w.alloc o).heap.size (w.alloc o) w') : Below w.heap.size w w' :=
  ((Below.refl _ w).alloc (Nat.le_refl _) _).trans (hb.mono (by simp))
theorem below_two {w w' : World} {o o' : Obj} (hb : Below ((w.alloc o).alloc o').heap.size ((w.alloc o).alloc o') w') : Below w.heap.size w w' :=
  below_one (below_one hb)

set_option maxHeartbeats 2000000 in
set_option maxRecDepth 100000 in
theorem print_err (t n : Int) (s : ByteArray) (w : World) (hs : s.size ≤ maxLen) (h0 : ¬ vErr t n s.data.toList = 0) :
    Calls Tryz.prog 28 #[val t n s] w fun e w' => e = .returned (.tuple #[.string ⟨#[]⟩, errV (vErr t n s.data.toList)]) ∧ Below w.heap.size w w' := by
  unfold val
  rcases vErr_cases t n s.data.toList with h | h | h | h | h
  · exact absurd h h0
  all_goals
    clear h0
    go_enter Tryz.func28, Tryz.ntmps28
    go_wp2_with (go_at_call 42; refine (check_any t n s _ hs).mono ?_; rintro e w' ⟨rfl, rfl⟩; rw [h]; first | rw [errV_1] | rw [errV_2] | rw [errV_4] | rw [errV_8])
    go_ret2
    exact ⟨ret_v (by rw [h]; rfl), ((Below.refl _ _).alloc (Nat.le_refl _) _).alloc (by simp) _⟩

theorem vErr_ok {t n : Int} {l : List UInt8} (h : vErr t n l = 0) : (t = 1 ∧ -1000000 ≤ n ∧ n ≤ 1000000 ∧ l = []) ∨ (t = 2 ∧ (n = 0 ∨ n = 1) ∧ l = []) ∨ (t = 3 ∧ n = 0 ∧ l.length ≤ 20 ∧ hasP badB l = false) := by
  unfold vErr at h
  by_cases ht : t = 1 ∨ t = 2 ∨ t = 3
  · rw [if_pos ht] at h
    by_cases hr : inR t n = true
    · rw [if_pos hr] at h
      rcases ht with rfl | rfl | rfl
      · rw [if_neg (by decide)] at h
        by_cases hl : l = []
        · refine Or.inl ⟨rfl, ?_, ?_, hl⟩ <;> · simp [inR] at hr; omega
        · rw [if_neg hl] at h; simp at h
      · rw [if_neg (by decide)] at h
        by_cases hl : l = []
        · refine Or.inr (Or.inl ⟨rfl, ?_, hl⟩); simp [inR] at hr; omega
        · rw [if_neg hl] at h; simp at h
      · rw [if_pos rfl] at h
        unfold tErr at h
        by_cases h20 : 20 < l.length
        · rw [if_pos h20] at h; simp at h
        · rw [if_neg h20] at h
          by_cases hb : hasP badB l = true
          · rw [if_pos hb] at h; simp at h
          · refine Or.inr (Or.inr ⟨rfl, ?_, by omega, by simpa using hb⟩)
            simp [inR] at hr; omega
    · rw [if_neg hr] at h; simp at h
  · rw [if_neg ht] at h; simp at h

set_option maxHeartbeats 2000000 in
set_option maxRecDepth 100000 in
theorem print_text (s : ByteArray) (w : World) (h0 : vErr 3 0 s.data.toList = 0) :
    Calls Tryz.prog 28 #[val 3 0 s] w fun e w' => e = .returned (.tuple #[.string ⟨(quo s.data.toList).toArray⟩, .nilIface]) ∧ Below w.heap.size w w' := by
  have hl : s.size ≤ 20 := by
    rw [size_len]
    rcases vErr_ok h0 with h | h | h
    · omega
    · omega
    · exact h.2.2.1
  have hs : s.size ≤ maxLen := by unfold maxLen; omega
  unfold val
  go_enter Tryz.func28, Tryz.ntmps28
  go_wp2_with (first | (go_at_call 42; refine (check_any 3 0 s _ hs).mono ?_; rintro e w' ⟨rfl, rfl⟩; rw [h0, errV_0]) | (go_at_call 44; refine (quoted_any s _ (by omega)).mono ?_; rintro e w' ⟨rfl, hb⟩))
  go_ret2
  exact ⟨rfl, below_two hb⟩
set_option maxHeartbeats 2000000 in
set_option maxRecDepth 100000 in
theorem print_bool (n : Int) (w : World) (hn : n = 0 ∨ n = 1) :
    Calls Tryz.prog 28 #[val 2 n ⟨#[]⟩] w fun e w' => e = .returned (.tuple #[.string ⟨(showL 2 n []).toArray⟩, .nilIface]) ∧ Below w.heap.size w w' := by
  have hs : (⟨#[]⟩ : ByteArray).size ≤ maxLen := by unfold maxLen; decide
  unfold val
  rcases hn with rfl | rfl
  · have h0 : vErr 2 0 (⟨#[]⟩ : ByteArray).data.toList = 0 := by decide
    go_enter Tryz.func28, Tryz.ntmps28
    go_wp2_with (first | (go_at_call 42; refine (check_any 2 0 _ _ hs).mono ?_; rintro e w' ⟨rfl, rfl⟩; rw [h0, errV_0]) | (go_at_call 43; refine (boolWord_0 _).mono ?_; rintro e w' ⟨rfl, rfl⟩))
    go_ret2
    exact ⟨rfl, ((Below.refl _ _).alloc (Nat.le_refl _) _).alloc (by simp) _⟩
  · have h0 : vErr 2 1 (⟨#[]⟩ : ByteArray).data.toList = 0 := by decide
    go_enter Tryz.func28, Tryz.ntmps28
    go_wp2_with (first | (go_at_call 42; refine (check_any 2 1 _ _ hs).mono ?_; rintro e w' ⟨rfl, rfl⟩; rw [h0, errV_0]) | (go_at_call 43; refine (boolWord_1 _).mono ?_; rintro e w' ⟨rfl, rfl⟩))
    go_ret2
    exact ⟨rfl, ((Below.refl _ _).alloc (Nat.le_refl _) _).alloc (by simp) _⟩
set_option maxHeartbeats 2000000 in
set_option maxRecDepth 100000 in
theorem print_int (n : Int) (w : World) (h1 : -1000000 ≤ n) (h2 : n ≤ 1000000) (hT : Tab w) :
    Calls Tryz.prog 28 #[val 1 n ⟨#[]⟩] w fun e w' => e = .returned (.tuple #[.string ⟨(Lib.itoa n).toArray⟩, .nilIface]) ∧ Below w.heap.size w w' := by
  have hs : (⟨#[]⟩ : ByteArray).size ≤ maxLen := by unfold maxLen; decide
  have h0 : vErr 1 n (⟨#[]⟩ : ByteArray).data.toList = 0 := by
    unfold vErr inR; simp; omega
  unfold val
  go_enter Tryz.func28, Tryz.ntmps28
  go_wp2_with (first | (go_at_call 42; refine (check_any 1 n _ _ hs).mono ?_; rintro e w' ⟨rfl, rfl⟩; rw [h0, errV_0]) | (go_at_call 14; refine (Tryz.strconv_Itoa n (by omega) (by omega) _ (Lib.tabIs_alloc (Lib.tabIs_alloc hT _) _)).mono ?_; rintro e w' ⟨rfl, k, os, rfl⟩))
  go_ret2
  exact ⟨rfl, below_two (Lib.below_grow _ _ (Nat.le_refl _) k os)⟩

theorem print_any (t n : Int) (s : ByteArray) (w : World) (hs : s.size ≤ maxLen) (hT : Tab w) :
    Calls Tryz.prog 28 #[val t n s] w fun e w' => e = .returned (if vErr t n s.data.toList = 0 then .tuple #[.string ⟨(showL t n s.data.toList).toArray⟩, .nilIface] else .tuple #[.string ⟨#[]⟩, errV (vErr t n s.data.toList)]) ∧ Below w.heap.size w w' := by
  by_cases h0 : vErr t n s.data.toList = 0
  · rw [if_pos h0]
    rcases vErr_ok h0 with ⟨rfl, h1, h2, hl⟩ | ⟨rfl, hn, hl⟩ | ⟨rfl, rfl, hl, hb⟩
    · obtain rfl := nil_of_empty s hl
      exact print_int n w h1 h2 hT
    · obtain rfl := nil_of_empty s hl
      exact print_bool n w hn
    · exact print_text s w h0
  · rw [if_neg h0]
    exact print_err t n s w hs h0

theorem ptErr_cases (u : Option (List UInt8)) : ptErr u = 0 ∨ ptErr u = 2 ∨ ptErr u = 4 := by
  cases u with
  | none => simp [ptErr]
  | some r => unfold ptErr tErr; repeat' split
              all_goals simp
theorem head_list (s : ByteArray) (h : 0 < s.size) : s.data.toList = s[0] :: s.data.toList.drop 1 := by
  have := drop_cons s 0 h
  simpa using this

set_option maxHeartbeats 2000000 in
set_option maxRecDepth 100000 in
theorem parse_text (s : ByteArray) (w : World) (hs : s.size ≤ 140737488355328) (hs1 : 0 < s.size) (h0 : s[0] = 39) :
    Calls Tryz.prog 76 #[.string s] w fun e w' => e = .returned (resV (ptErr (unqL s.data.toList)) 3 0 ⟨((unqL s.data.toList).getD []).toArray⟩) ∧ Below w.heap.size w w' := by
  have hpt := fun w => parseText_any s w hs
  generalize unqL s.data.toList = u at hpt ⊢
  have hl := head_list s hs1
  rw [h0] at hl
  have hF : (s.toList == [102, 97, 108, 115, 101]) = false := by rw [Lib.toList_data, hl]; simp
  have hTr : (s.toList == [116, 114, 117, 101]) = false := by rw [Lib.toList_data, hl]; simp
  have hE : s.toList.isEmpty = false := by rw [Lib.toList_data, hl]; simp
  have hN : ¬ s.toList = [] := by rw [Lib.toList_data, hl]; simp
  clear hl
  rcases ptErr_cases u with h | h | h
  · go_enter Tryz.func76, Tryz.ntmps76
    go_wp2_with (go_at_call 96; refine (hpt _).mono ?_; rintro e W1 ⟨rfl, hb⟩; rw [h, show resV 0 3 0 ⟨(u.getD []).toArray⟩ = .tuple #[val 3 0 ⟨(u.getD []).toArray⟩, .nilIface] from rfl]; unfold val; obtain ⟨hc, hf⟩ := bcell hb)
    exact bodyPost_ret (v := .tuple #[val 3 0 ⟨(u.getD []).toArray⟩, .nilIface]) (by simp [results, Tryz.results76, go_sem, val, hc]) rfl ⟨ret_v (by rw [h]; rfl), below3 hb⟩
  all_goals
    go_enter Tryz.func76, Tryz.ntmps76
    go_wp2_with (go_at_call 96; refine (hpt _).mono ?_; rintro e W1 ⟨rfl, hb⟩; rw [h]; (first | rw [show resV 2 3 0 ⟨(u.getD []).toArray⟩ = .tuple #[val 0 0 ⟨#[]⟩, .iface 49 (.int .i64 2)] from rfl] | rw [show resV 4 3 0 ⟨(u.getD []).toArray⟩ = .tuple #[val 0 0 ⟨#[]⟩, .iface 49 (.int .i64 4)] from rfl]); unfold val; obtain ⟨hc, hf⟩ := bcell hb)
    exact bodyPost_ret (v := .tuple #[val 0 0 ⟨#[]⟩, errV (ptErr u)]) (by rw [h]; simp [results, Tryz.results76, go_sem, val, hc, errV]) rfl ⟨ret_v (by rw [h]; rfl), below3 hb⟩
end Go.Proofs.YteabdlandbmdaaaGreatDoor

/-
  The walks of package value: isNumber, parseInt.
-/
namespace Go.Proofs.YteabdlandbmdaaaGreatDoor
open Go.RowKit
set_option linter.unusedVariables false
set_option linter.unusedSimpArgs false

def isNum : List UInt8 → Bool
  | [] => false
  | c :: r => decide (r.length ≤ 8) && (!decide (c = 48) || r.isEmpty) && !hasP noDig (c :: r)
def dec (l : List UInt8) : Int := ((Lib.decFrom 0 l).getD 0 : Nat)

theorem eq48 {c : UInt8} (h : ¬ c = 48) : ¬ (c.toNat : Int) = 48 := by
  intro e
  apply h
  have e2 : c.toNat = 48 := by omega
  exact UInt8.toNat_inj.1 e2

set_option maxHeartbeats 2000000 in
set_option maxRecDepth 100000 in
theorem isNumber_any (s : ByteArray) (w : World) (hs : s.size ≤ maxLen) :
    Calls Tryz.prog 109 #[.string s] w fun e w' => e = .returned (.bool (isNum s.data.toList)) ∧ w' = w := by
  by_cases h0 : 0 < s.size
  · have hl := head_list s h0
    have hsz := size_len s
    have hdl : s.size = (s.data.toList.drop 1).length + 1 := by rw [hsz, List.length_drop]; omega
    have hE : s.toList.isEmpty = false := by rw [Lib.toList_data, hl]; simp
    have hN : ¬ s.toList = [] := by rw [Lib.toList_data, hl]; simp
    by_cases h9 : 9 < s.size
    · have H1 : Hid (isNum s.data.toList = false) := by
        show _ = _
        rw [hl]; simp [isNum]; omega
      clear hl hsz hdl
      unfold maxLen at hs
      go_enter Tryz.func109, Tryz.ntmps109
      go_wp2
      go_ret
      exact ⟨ret_bool (by rw [H1.out]), rfl⟩
    · by_cases hz : s[0] = 48
      · by_cases h1 : 1 < s.size
        · have H1 : Hid (isNum s.data.toList = false) := by
            show _ = _
            have hne : ¬ s.data.toList.drop 1 = [] := by intro e; rw [e] at hdl; simp at hdl; omega
            rw [hl, hz]
            generalize s.data.toList.drop 1 = r at hne
            cases r with
            | nil => exact absurd rfl hne
            | cons a b => simp [isNum]
          clear hl hsz hdl
          go_enter Tryz.func109, Tryz.ntmps109
          go_wp2
          go_ret
          exact ⟨ret_bool (by rw [H1.out]), rfl⟩
        · have H1 : Hid (isNum s.data.toList = !hasP noDig s.data.toList) := by
            show _ = _
            have hne : s.data.toList.drop 1 = [] := by apply List.eq_nil_of_length_eq_zero; omega
            rw [hl, hne]; simp [isNum]
          clear hl hsz hdl
          go_enter Tryz.func109, Tryz.ntmps109
          go_wp2_with (go_at_call 56; refine (anyDig s _ hs).mono ?_; rintro e w' ⟨rfl, rfl⟩)
          go_ret
          exact ⟨ret_bool (by rw [H1.out]), rfl⟩
      · have H1 : Hid (isNum s.data.toList = !hasP noDig s.data.toList) := by
          show _ = _
          have : (s.data.toList.drop 1).length ≤ 8 := by omega
          rw [hl]; simp only [isNum, hz, this]; simp
        have hz' := eq48 hz
        clear hl hsz hdl hz
        go_enter Tryz.func109, Tryz.ntmps109
        go_wp2_with (go_at_call 56; refine (anyDig s _ hs).mono ?_; rintro e w' ⟨rfl, rfl⟩)
        go_ret
        exact ⟨ret_bool (by rw [H1.out]), rfl⟩
  · have hl : s.data.toList = [] := by apply List.eq_nil_of_length_eq_zero; rw [← size_len]; omega
    obtain rfl := nil_of_empty s hl
    go_enter Tryz.func109, Tryz.ntmps109
    go_wp2
    go_ret
    exact ⟨rfl, rfl⟩

theorem dec_of (l : List UInt8) : ∀ acc, hasP noDig l = false → ∃ m, Lib.decFrom acc l = some m := by
  induction l with
  | nil => intro acc _; exact ⟨acc, rfl⟩
  | cons c r ih =>
    intro acc h
    have h1 : noDig c = false ∧ hasP noDig r = false := by simpa [hasP] using h
    have hd : Lib.digitVal c = some (c.toNat - 48) := by
      have := h1.1; unfold noDig at this; simp at this
      unfold Lib.digitVal; rw [if_pos (by omega)]
    obtain ⟨m, hm⟩ := ih (acc * 10 + (c.toNat - 48)) h1.2
    exact ⟨m, by simp only [Lib.decFrom, hd]; exact hm⟩
theorem isNum_dec {l : List UInt8} (h : isNum l = true) : Lib.atoi l = some (dec l) ∧ 0 ≤ dec l ∧ dec l < 1000000000 ∧ l.length ≤ 9 := by
  cases l with
  | nil => simp [isNum] at h
  | cons c r =>
    simp only [isNum, Bool.and_eq_true, Bool.not_eq_true', decide_eq_true_eq] at h
    obtain ⟨⟨h8, _⟩, hd⟩ := h
    obtain ⟨m, hm⟩ := dec_of (c :: r) 0 hd
    have hlt := Lib.decFrom_lt _ _ _ hm
    have hp : 10 ^ (c :: r).length ≤ 10 ^ 9 := Nat.pow_le_pow_right (by decide) (by simp; omega)
    have hdec : dec (c :: r) = (m : Int) := by unfold dec; rw [hm]; rfl
    have hcr : noDig c = false ∧ hasP noDig r = false := by simpa [hasP] using hd
    have hc := hcr.1
    unfold noDig at hc; simp at hc
    have n45 : ¬ c = 45 := by intro e; rw [e] at hc; simp at hc
    have n43 : ¬ c = 43 := by intro e; rw [e] at hc; simp at hc
    refine ⟨?_, by omega, by omega, by simp; omega⟩
    rw [hdec]
    simp [Lib.atoi, n45, n43, Lib.decNat, hm]

def piNeg (l : List UInt8) : Bool := Lib.hasPrefix l [45]
def piDig (l : List UInt8) : List UInt8 := Lib.trimPrefix l [45]
def piBad (l : List UInt8) : Bool := !isNum (piDig l) || (piNeg l && decide (piDig l = [48]))
def piN (l : List UInt8) : Int := if piNeg l = true then -(dec (piDig l)) else dec (piDig l)
def piErr (l : List UInt8) : Int := if piBad l = true then 2 else vErr 1 (piN l) []

theorem vErr_1 (n : Int) : vErr 1 n [] = 0 ∨ vErr 1 n [] = 1 := by
  unfold vErr; rw [if_pos (by omega)]; split <;> simp

set_option maxHeartbeats 2000000 in
set_option maxRecDepth 100000 in
theorem parseInt_any (s : ByteArray) (w : World) (hs : s.size ≤ maxLen) :
    Calls Tryz.prog 97 #[.string s] w fun e w' => e = .returned (resV (piErr s.data.toList) 1 (piN s.data.toList) ⟨#[]⟩) ∧ Below w.heap.size w w' := by
  have hcp := fun w => Tryz.strings_CutPrefix s ⟨#[45]⟩ w
  rw [show (⟨#[45]⟩ : ByteArray).data.toList = [45] from rfl] at hcp
  change ∀ w, Calls Tryz.prog 108 _ w fun e w' => e = .returned (.tuple #[.string ⟨(piDig s.data.toList).toArray⟩, .bool (piNeg s.data.toList)]) ∧ w' = w at hcp
  have hdl : (piDig s.data.toList).length ≤ s.size := by
    rw [size_len]; unfold piDig Lib.trimPrefix; split
    · simp
    · exact Nat.le_refl _
  have hq : (⟨(piDig s.data.toList).toArray⟩ : ByteArray).size ≤ maxLen := by
    show (piDig s.data.toList).toArray.size ≤ _
    rw [List.size_toArray]; omega
  have hin := fun w => isNumber_any ⟨(piDig s.data.toList).toArray⟩ w hq
  rw [show (⟨(piDig s.data.toList).toArray⟩ : ByteArray).data.toList = piDig s.data.toList from rfl] at hin
  by_cases hn : isNum (piDig s.data.toList) = true
  · obtain ⟨ha, hd0, hd1, hd9⟩ := isNum_dec hn
    have hat0 := fun w => Tryz.strconv_Atoi ⟨(piDig s.data.toList).toArray⟩ _ (by show (piDig s.data.toList).toArray.size ≤ _; rw [List.size_toArray]; omega) ha w
    have hsm : (⟨#[]⟩ : ByteArray).size ≤ maxLen := by unfold maxLen; decide
    have hck : ∀ n w, Calls Tryz.prog 107 #[.agg #[.int .i64 1, .int .i64 n, .string ⟨#[]⟩]] w fun e w' => e = .returned (resV (vErr 1 n []) 1 n ⟨#[]⟩) ∧ Below w.heap.size w w' := fun n w => checked_any 1 n ⟨#[]⟩ w hsm
    have hat : ∀ w, Calls Tryz.prog 52 #[.string ⟨(piDig s.data.toList).toArray⟩] w fun e w' => e = .returned (.tuple #[.int .i64 (dec (piDig s.data.toList)), .nilIface]) ∧ Below w.heap.size w w' := fun w => (hat0 w).mono fun e w' ⟨he, u, hu⟩ => ⟨he, by rw [hu]; exact Lib.bytesWorld_below _ _ _⟩
    clear hat0 hsm
    by_cases hg : piNeg s.data.toList = true
    · by_cases h48 : piDig s.data.toList = [48]
      · have H1 : Hid (piErr s.data.toList = 2) := by
          show _ = _
          unfold piErr piBad; simp [hg, h48]
        rw [h48] at hcp hin hn
        rw [hg] at hcp
        clear ha hd0 hd1 hd9 hat hck hq hdl hg h48
        go_enter Tryz.func97, Tryz.ntmps97
        go_wp2_with (first | (go_at_call 108; refine (hcp _).mono ?_; rintro e w' ⟨rfl, rfl⟩) | (go_at_call 109; refine (hin _).mono ?_; rintro e w' ⟨rfl, rfl⟩))
        exact bodyPost_ret (v := .tuple #[val 0 0 ⟨#[]⟩, errV 2]) (by simp [results, Tryz.results97, go_sem, val, errV]) rfl ⟨ret_v (by rw [H1.out]; rfl), (Below.refl _ _).alloc (Nat.le_refl _) _⟩
      · have H1 : Hid (piErr s.data.toList = vErr 1 (-(dec (piDig s.data.toList))) [] ∧ piN s.data.toList = -(dec (piDig s.data.toList))) := by
          show _ ∧ _
          unfold piErr piBad piN; simp [hg, hn, h48]
        have hB48 : ((⟨(piDig s.data.toList).toArray⟩ : ByteArray).toList == [48]) = false := by
          rw [Lib.toList_data]; simpa using h48
        rw [hg] at hcp
        rw [H1.out.1, H1.out.2]
        clear H1 ha hd9 hq hdl hg h48
        generalize (⟨(piDig s.data.toList).toArray⟩ : ByteArray) = q at hcp hin hat hB48
        generalize isNum (piDig s.data.toList) = bn at hin hn
        subst hn
        generalize dec (piDig s.data.toList) = m at hd0 hd1 hat ⊢
        have hc2 := hck (-m)
        clear hck
        rcases vErr_1 (-m) with h | h
        · rw [h, show resV 0 1 (-m) ⟨#[]⟩ = .tuple #[.agg #[.int .i64 1, .int .i64 (-m), .string ⟨#[]⟩], .nilIface] from rfl] at hc2 ⊢
          go_enter Tryz.func97, Tryz.ntmps97
          go_wp2_with (first | (go_at_call 108; refine (hcp _).mono ?_; rintro e w' ⟨rfl, rfl⟩) | (go_at_call 109; refine (hin _).mono ?_; rintro e w' ⟨rfl, rfl⟩) | (go_at_call 52; refine (hat _).mono ?_; rintro e W1 ⟨rfl, hb1⟩) | (go_at_call 107; refine (hc2 _).mono ?_; rintro e W2 ⟨rfl, hb2⟩; obtain ⟨hc, hf⟩ := bcell (hb1.trans (hb2.mono hb1.size))))
          exact bodyPost_ret (v := .tuple #[val 1 (-m) ⟨#[]⟩, .nilIface]) (by simp [results, Tryz.results97, go_sem, val, hc]) rfl ⟨rfl, below3 (hb1.trans (hb2.mono hb1.size))⟩
        · rw [h, show resV 1 1 (-m) ⟨#[]⟩ = .tuple #[.agg #[.int .i64 0, .int .i64 0, .string ⟨#[]⟩], .iface 49 (.int .i64 1)] from rfl] at hc2 ⊢
          go_enter Tryz.func97, Tryz.ntmps97
          go_wp2_with (first | (go_at_call 108; refine (hcp _).mono ?_; rintro e w' ⟨rfl, rfl⟩) | (go_at_call 109; refine (hin _).mono ?_; rintro e w' ⟨rfl, rfl⟩) | (go_at_call 52; refine (hat _).mono ?_; rintro e W1 ⟨rfl, hb1⟩) | (go_at_call 107; refine (hc2 _).mono ?_; rintro e W2 ⟨rfl, hb2⟩; obtain ⟨hc, hf⟩ := bcell (hb1.trans (hb2.mono hb1.size))))
          exact bodyPost_ret (v := .tuple #[val 0 0 ⟨#[]⟩, .iface 49 (.int .i64 1)]) (by simp [results, Tryz.results97, go_sem, val, hc]) rfl ⟨rfl, below3 (hb1.trans (hb2.mono hb1.size))⟩
    · have hg' : piNeg s.data.toList = false := by simpa using hg
      have H1 : Hid (piErr s.data.toList = vErr 1 (dec (piDig s.data.toList)) [] ∧ piN s.data.toList = dec (piDig s.data.toList)) := by
        show _ ∧ _
        unfold piErr piBad piN; simp [hg', hn]
      rw [hg'] at hcp
      rw [H1.out.1, H1.out.2]
      clear H1 ha hd9 hq hdl hg hg'
      generalize (⟨(piDig s.data.toList).toArray⟩ : ByteArray) = q at hcp hin hat
      generalize isNum (piDig s.data.toList) = bn at hin hn
      subst hn
      generalize dec (piDig s.data.toList) = m at hd0 hd1 hat ⊢
      have hc2 := hck m
      clear hck
      rcases vErr_1 m with h | h
      · rw [h, show resV 0 1 m ⟨#[]⟩ = .tuple #[.agg #[.int .i64 1, .int .i64 m, .string ⟨#[]⟩], .nilIface] from rfl] at hc2 ⊢
        go_enter Tryz.func97, Tryz.ntmps97
        go_wp2_with (first | (go_at_call 108; refine (hcp _).mono ?_; rintro e w' ⟨rfl, rfl⟩) | (go_at_call 109; refine (hin _).mono ?_; rintro e w' ⟨rfl, rfl⟩) | (go_at_call 52; refine (hat _).mono ?_; rintro e W1 ⟨rfl, hb1⟩) | (go_at_call 107; refine (hc2 _).mono ?_; rintro e W2 ⟨rfl, hb2⟩; obtain ⟨hc, hf⟩ := bcell (hb1.trans (hb2.mono hb1.size))))
        exact bodyPost_ret (v := .tuple #[val 1 m ⟨#[]⟩, .nilIface]) (by simp [results, Tryz.results97, go_sem, val, hc]) rfl ⟨rfl, below3 (hb1.trans (hb2.mono hb1.size))⟩
      · rw [h, show resV 1 1 m ⟨#[]⟩ = .tuple #[.agg #[.int .i64 0, .int .i64 0, .string ⟨#[]⟩], .iface 49 (.int .i64 1)] from rfl] at hc2 ⊢
        go_enter Tryz.func97, Tryz.ntmps97
        go_wp2_with (first | (go_at_call 108; refine (hcp _).mono ?_; rintro e w' ⟨rfl, rfl⟩) | (go_at_call 109; refine (hin _).mono ?_; rintro e w' ⟨rfl, rfl⟩) | (go_at_call 52; refine (hat _).mono ?_; rintro e W1 ⟨rfl, hb1⟩) | (go_at_call 107; refine (hc2 _).mono ?_; rintro e W2 ⟨rfl, hb2⟩; obtain ⟨hc, hf⟩ := bcell (hb1.trans (hb2.mono hb1.size))))
        exact bodyPost_ret (v := .tuple #[val 0 0 ⟨#[]⟩, .iface 49 (.int .i64 1)]) (by simp [results, Tryz.results97, go_sem, val, hc]) rfl ⟨rfl, below3 (hb1.trans (hb2.mono hb1.size))⟩
  · have hn' : isNum (piDig s.data.toList) = false := by simpa using hn
    have H1 : Hid (piErr s.data.toList = 2) := by
      show _ = _
      unfold piErr piBad; simp [hn']
    generalize piDig s.data.toList = d at hcp hin hn' hdl
    generalize piNeg s.data.toList = g at hcp
    clear hn hdl
    go_enter Tryz.func97, Tryz.ntmps97
    go_wp2_with (first | (go_at_call 108; refine (hcp _).mono ?_; rintro e w' ⟨rfl, rfl⟩) | (go_at_call 109; refine (hin _).mono ?_; rintro e w' ⟨rfl, rfl⟩))
    exact bodyPost_ret (v := .tuple #[val 0 0 ⟨#[]⟩, errV 2]) (by simp [results, Tryz.results97, go_sem, val, errV]) rfl ⟨ret_v (by rw [H1.out]; rfl), (Below.refl _ _).alloc (Nat.le_refl _) _⟩
end Go.Proofs.YteabdlandbmdaaaGreatDoor
