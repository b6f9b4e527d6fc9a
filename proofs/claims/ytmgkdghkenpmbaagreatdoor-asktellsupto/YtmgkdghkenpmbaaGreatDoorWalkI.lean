/-
  The walks of package value: Parse at every text, Name, Compare.
-/
import Derived.Test.YtmgkdghkenpmbaaGreatDoorWalkH
namespace Go.Proofs.YtmgkdghkenpmbaaGreatDoor
open Go.RowKit
set_option linter.unusedVariables false
set_option linter.unusedSimpArgs false

theorem errV_ne {e : Int} (h : ¬ e = 0) : errV e = .iface 48 (.int .i64 e) := by unfold errV; rw [if_neg h]
theorem resV_ne {e : Int} (h : ¬ e = 0) (t n : Int) (s : ByteArray) : resV e t n s = .tuple #[.agg #[.int .i64 0, .int .i64 0, .string ⟨#[]⟩], .iface 48 (.int .i64 e)] := by
  unfold resV; rw [if_neg h, errV_ne h]; rfl
theorem resV_0 (t n : Int) (s : ByteArray) : resV 0 t n s = .tuple #[.agg #[.int .i64 t, .int .i64 n, .string s], .nilIface] := rfl

/-- What Parse gives: the fault, and the value. -/
def parseL (l : List UInt8) : Int × Int × Int × List UInt8 :=
  if l = [102, 97, 108, 115, 101] then (0, 2, 0, [])
  else if l = [116, 114, 117, 101] then (0, 2, 1, [])
  else if l.head? = some 39 then (ptErr (unqL l), 3, 0, (unqL l).getD [])
  else (piErr l, 1, piN l, [])

theorem list_eq {s : ByteArray} {l : List UInt8} (h : s.data.toList = l) : s = ⟨l.toArray⟩ := by
  cases s with | mk d => congr 1; rw [← h]

set_option maxHeartbeats 2000000 in
set_option maxRecDepth 100000 in
theorem parse_any (s : ByteArray) (w : World) (hs : s.size ≤ 140737488355328) :
    Calls Tryz.prog 84 #[.string s] w fun e w' => e = .returned (resV (parseL s.data.toList).1 (parseL s.data.toList).2.1 (parseL s.data.toList).2.2.1 ⟨(parseL s.data.toList).2.2.2.toArray⟩) ∧ Below w.heap.size w w' := by
  by_cases hF : s.data.toList = [102, 97, 108, 115, 101]
  · obtain rfl := list_eq hF
    clear hF hs
    go_enter Tryz.func84, Tryz.ntmps84
    go_wp2
    exact bodyPost_ret (v := .tuple #[val 2 0 ⟨#[]⟩, .nilIface]) (by simp [results, Tryz.results84, go_sem, val]) rfl ⟨rfl, (Below.refl _ _).alloc (Nat.le_refl _) _⟩
  by_cases hT : s.data.toList = [116, 114, 117, 101]
  · obtain rfl := list_eq hT
    clear hT hs hF
    go_enter Tryz.func84, Tryz.ntmps84
    go_wp2
    exact bodyPost_ret (v := .tuple #[val 2 1 ⟨#[]⟩, .nilIface]) (by simp [results, Tryz.results84, go_sem, val]) rfl ⟨rfl, (Below.refl _ _).alloc (Nat.le_refl _) _⟩
  by_cases hQ : s.data.toList.head? = some 39
  · have hp : parseL s.data.toList = (ptErr (unqL s.data.toList), 3, 0, (unqL s.data.toList).getD []) := by
      unfold parseL; rw [if_neg hF, if_neg hT, if_pos hQ]
    rw [hp]
    have hsz : 0 < s.size := by
      rw [size_len]; cases h : s.data.toList with
      | nil => rw [h] at hQ; simp at hQ
      | cons a b => simp
    have h0 : s[0] = 39 := by
      rw [head_list s hsz] at hQ; simpa using hQ
    exact parse_text s w hs hsz h0
  · have hp : parseL s.data.toList = (piErr s.data.toList, 1, piN s.data.toList, []) := by
      unfold parseL; rw [if_neg hF, if_neg hT, if_neg hQ]
    rw [hp]
    have hpi := fun w => parseInt_any s w (Nat.le_trans hs (by unfold maxLen; decide))
    have bF : (s.toList == [102, 97, 108, 115, 101]) = false := by rw [Lib.toList_data]; simpa using hF
    have bT : (s.toList == [116, 114, 117, 101]) = false := by rw [Lib.toList_data]; simpa using hT
    by_cases hE : s.data.toList = []
    · obtain rfl := list_eq hE
      clear hF hT hQ hp bF bT hE
      generalize piErr (⟨[].toArray⟩ : ByteArray).data.toList = ee at hpi ⊢
      generalize piN (⟨[].toArray⟩ : ByteArray).data.toList = nn at hpi ⊢
      by_cases h : ee = 0
      · subst h
        dsimp only at *
        rw [resV_0] at hpi ⊢
        go_enter Tryz.func84, Tryz.ntmps84
        go_wp2_with (go_at_call 92; refine (hpi _).mono ?_; rintro e W1 ⟨rfl, hb⟩; obtain ⟨hc, hf⟩ := bcell hb)
        exact bodyPost_ret (v := .tuple #[val 1 nn ⟨#[]⟩, .nilIface]) (by simp [results, Tryz.results84, go_sem, val, hc]) rfl ⟨rfl, below3 hb⟩
      · dsimp only at *
        rw [resV_ne h] at hpi ⊢
        go_enter Tryz.func84, Tryz.ntmps84
        go_wp2_with (go_at_call 92; refine (hpi _).mono ?_; rintro e W1 ⟨rfl, hb⟩; obtain ⟨hc, hf⟩ := bcell hb)
        exact bodyPost_ret (v := .tuple #[val 0 0 ⟨#[]⟩, .iface 48 (.int .i64 ee)]) (by simp [results, Tryz.results84, go_sem, val, hc]) rfl ⟨rfl, below3 hb⟩
    · have bE : s.toList.isEmpty = false := nonE s hE
      have bN : ¬ s.toList = [] := by rw [Lib.toList_data]; exact hE
      have hsz : 0 < s.size := by
        rw [size_len]; exact List.length_pos_iff.2 hE
      have h0 : ¬ s[0] = 39 := by
        intro e; apply hQ; rw [head_list s hsz, e]; rfl
      have h0' := ne39 h0
      clear hF hT hQ hp hE h0
      generalize piErr s.data.toList = ee at hpi ⊢
      generalize piN s.data.toList = nn at hpi ⊢
      by_cases h : ee = 0
      · subst h
        dsimp only at *
        rw [resV_0] at hpi ⊢
        go_enter Tryz.func84, Tryz.ntmps84
        go_wp2_with (go_at_call 92; refine (hpi _).mono ?_; rintro e W1 ⟨rfl, hb⟩; obtain ⟨hc, hf⟩ := bcell hb)
        exact bodyPost_ret (v := .tuple #[val 1 nn ⟨#[]⟩, .nilIface]) (by simp [results, Tryz.results84, go_sem, val, hc]) rfl ⟨rfl, below3 hb⟩
      · dsimp only at *
        rw [resV_ne h] at hpi ⊢
        go_enter Tryz.func84, Tryz.ntmps84
        go_wp2_with (go_at_call 92; refine (hpi _).mono ?_; rintro e W1 ⟨rfl, hb⟩; obtain ⟨hc, hf⟩ := bcell hb)
        exact bodyPost_ret (v := .tuple #[val 0 0 ⟨#[]⟩, .iface 48 (.int .i64 ee)]) (by simp [results, Tryz.results84, go_sem, val, hc]) rfl ⟨rfl, below3 hb⟩

/-- The fault of a name. -/
def nErr (l : List UInt8) : Int := if l = [] then 2 else if 8 < l.length then 2 else if hasP noLet l = true then 2 else 0

set_option maxHeartbeats 2000000 in
set_option maxRecDepth 100000 in
theorem name_any (s : ByteArray) (w : World) (hs : s.size ≤ maxLen) :
    Calls Tryz.prog 33 #[.string s] w fun e w' => e = .returned (errV (nErr s.data.toList)) ∧ w' = w := by
  by_cases hE : s.data.toList = []
  · obtain rfl := list_eq hE
    go_enter Tryz.func33, Tryz.ntmps33
    go_wp2
    go_ret
    exact ⟨rfl, rfl⟩
  · have bE : s.toList.isEmpty = false := nonE s hE
    have bN : ¬ s.toList = [] := by rw [Lib.toList_data]; exact hE
    have hsz := size_len s
    by_cases h8 : 8 < s.size
    · have H1 : Hid (nErr s.data.toList = 2) := by
        show _ = _
        unfold nErr; rw [if_neg hE, if_pos (by omega)]
      clear hE hsz
      unfold maxLen at hs
      go_enter Tryz.func33, Tryz.ntmps33
      go_wp2
      go_ret
      exact ⟨ret_v (by rw [H1.out]; rfl), rfl⟩
    · by_cases hb : hasP noLet s.data.toList = true
      · have H1 : Hid (nErr s.data.toList = 2) := by
          show _ = _
          unfold nErr; rw [if_neg hE, if_neg (by omega), if_pos hb]
        clear hE hsz
        go_enter Tryz.func33, Tryz.ntmps33
        go_wp2_with (go_at_call 52; refine (anyLet s _ hs).mono ?_; rintro e w' ⟨rfl, rfl⟩)
        go_ret
        exact ⟨ret_v (by rw [H1.out]; rfl), rfl⟩
      · have hb' : hasP noLet s.data.toList = false := by simpa using hb
        have H1 : Hid (nErr s.data.toList = 0) := by
          show _ = _
          unfold nErr; rw [if_neg hE, if_neg (by omega), if_neg hb]
        clear hE hsz hb
        go_enter Tryz.func33, Tryz.ntmps33
        go_wp2_with (go_at_call 52; refine (anyLet s _ hs).mono ?_; rintro e w' ⟨rfl, rfl⟩)
        go_ret
        exact ⟨ret_v (by rw [H1.out]; rfl), rfl⟩

end Go.Proofs.YtmgkdghkenpmbaaGreatDoor
