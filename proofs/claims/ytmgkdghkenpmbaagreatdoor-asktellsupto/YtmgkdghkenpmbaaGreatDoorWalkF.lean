/-
  The walks of package value: parseText and Print.
-/
import Derived.Test.YtmgkdghkenpmbaaGreatDoorWalkE
import Derived.Lib.AppendIntMem
namespace Go.Proofs.YtmgkdghkenpmbaaGreatDoor
open Go.RowKit
set_option linter.unusedVariables false
set_option linter.unusedSimpArgs false

/-- The fault of a text in quotes, by what is in them. -/
def ptErr : Option (List UInt8) → Int
  | none => 2
  | some r => if hasP badB r = true then 2 else tErr r

theorem und_len (l : List UInt8) : ∀ r, und l = some r → r.length ≤ l.length := by
  induction l using und.induct with
  | case1 => intro r h; simp [und] at h; subst h; simp
  | case2 => intro r h; simp [und] at h
  | case3 c hc => intro r h; simp [und, hc] at h; subst h; simp
  | case4 r ih => intro q h; simp [und] at h; obtain ⟨x, hx, rfl⟩ := h; have := ih x hx; simp; omega
  | case5 d r hd => intro q h; simp [und, hd] at h
  | case6 c d r hc ih => intro q h; simp [und, hc] at h; obtain ⟨x, hx, rfl⟩ := h; have := ih x hx; simp at this ⊢; omega
theorem unqL_len (l r : List UInt8) (h : unqL l = some r) : r.length ≤ l.length := by
  cases l with
  | nil => simp [unqL] at h
  | cons c q =>
    simp only [unqL] at h
    by_cases hc : c = 39 ∧ q.getLast? = some 39
    · rw [if_pos hc] at h; have := und_len _ _ h; simp at this ⊢; omega
    · rw [if_neg hc] at h; simp at h

theorem vErr_3 (l : List UInt8) : vErr 3 0 l = tErr l := by
  unfold vErr; rw [if_pos (by omega), if_pos (by decide), if_pos rfl]

theorem bcell {W w1 : World} (hb : Below W.heap.size W w1) : (∀ b o, b < W.heap.size → w1.cell? ⟨b, o, none⟩ = W.cell? ⟨b, o, none⟩) ∧ (∀ b o, b < W.heap.size → w1.frozen? ⟨b, o, none⟩ = W.frozen? ⟨b, o, none⟩) :=
  ⟨fun b o h => hb.cell (p := ⟨b, o, none⟩) h, fun b o h => hb.frozen (p := ⟨b, o, none⟩) h⟩

theorem below3 {w W1 : World} {o : Obj} {a b c : Value} (hb : Below (w.alloc o).heap.size (w.alloc o) W1) :
    Below w.heap.size w (((W1.setCell ⟨w.heap.size, 0, none⟩ a).setCell ⟨w.heap.size, 1, none⟩ b).setCell ⟨w.heap.size, 2, none⟩ c) :=
  (((((Below.refl _ w).alloc (Nat.le_refl _) _).trans (hb.mono (by simp))).setCell (p := ⟨w.heap.size, 0, none⟩) (Nat.le_refl _) _).setCell (p := ⟨w.heap.size, 1, none⟩) (Nat.le_refl _) _).setCell (p := ⟨w.heap.size, 2, none⟩) (Nat.le_refl _) _

set_option maxHeartbeats 2000000 in
set_option maxRecDepth 100000 in
theorem parseText_any (s : ByteArray) (w : World) (hs : s.size ≤ 140737488355328) :
    Calls Tryz.prog 91 #[.string s] w fun e w' => e = .returned (resV (ptErr (unqL s.data.toList)) 3 0 ⟨((unqL s.data.toList).getD []).toArray⟩) ∧ Below w.heap.size w w' := by
  have hun := fun w => unquoted_any s w hs
  have hln := unqL_len s.data.toList
  rw [← size_len] at hln
  generalize unqL s.data.toList = u at hun hln ⊢
  cases u with
  | none =>
    go_enter Tryz.func91, Tryz.ntmps91
    go_wp2_with (go_at_call 99; refine (hun _).mono ?_; rintro e W1 ⟨rfl, hb⟩; rw [show unqV none = .tuple #[.string ⟨#[]⟩, .bool false] from rfl]; obtain ⟨hc, hf⟩ := bcell hb)
    exact bodyPost_ret (v := .tuple #[val 0 0 ⟨#[]⟩, errV 2]) (by simp [results, Tryz.results91, go_sem, val, errV, hc]) rfl ⟨rfl, below3 hb⟩
  | some r =>
    have hrl : r.length ≤ 140737488355328 := Nat.le_trans (hln r rfl) hs
    have hrs : (⟨r.toArray⟩ : ByteArray).size ≤ maxLen := by unfold maxLen; show r.toArray.size ≤ _; rw [List.size_toArray]; omega
    have hpr := fun w => isPrintable_any ⟨r.toArray⟩ w hrs
    have hck := fun w => checked_any 3 0 ⟨r.toArray⟩ w hrs
    rw [vErr_3] at hck
    rw [show ((⟨r.toArray⟩ : ByteArray).data.toList) = r from rfl] at hpr hck
    clear hln hs
    by_cases hbad : hasP badB r = true
    · rw [show ptErr (some r) = 2 by simp [ptErr, hbad]]
      go_enter Tryz.func91, Tryz.ntmps91
      go_wp2_with (first | (go_at_call 99; refine (hun _).mono ?_; rintro e W1 ⟨rfl, hb⟩; rw [show unqV (some r) = .tuple #[.string ⟨r.toArray⟩, .bool true] from rfl]; obtain ⟨hc, hf⟩ := bcell hb) | (go_at_call 85; refine (hpr _).mono ?_; rintro e w' ⟨rfl, rfl⟩))
      exact bodyPost_ret (v := .tuple #[val 0 0 ⟨#[]⟩, errV 2]) (by simp [results, Tryz.results91, go_sem, val, errV, hc]) rfl ⟨rfl, below3 hb⟩
    · have hbad' : hasP badB r = false := by simpa using hbad
      rw [show ptErr (some r) = tErr r by simp [ptErr, hbad']]
      have hre : resV (tErr r) 3 0 ⟨((some r).getD []).toArray⟩ = resV (tErr r) 3 0 ⟨r.toArray⟩ := rfl
      rw [hre]
      clear hbad hre
      have hcs : tErr r = 0 ∨ tErr r = 4 := by unfold tErr; rw [hbad']; split <;> simp
      rcases hcs with h | h
      · go_enter Tryz.func91, Tryz.ntmps91
        go_wp2_with (first | (go_at_call 99; refine (hun _).mono ?_; rintro e W1 ⟨rfl, hb⟩; rw [show unqV (some r) = .tuple #[.string ⟨r.toArray⟩, .bool true] from rfl]; obtain ⟨hc, hf⟩ := bcell hb) | (go_at_call 85; refine (hpr _).mono ?_; rintro e w' ⟨rfl, rfl⟩) | (go_at_call 100; refine (hck _).mono ?_; rintro e W2 ⟨rfl, hb2⟩; rw [h, show resV 0 3 0 ⟨r.toArray⟩ = .tuple #[val 3 0 ⟨r.toArray⟩, .nilIface] from rfl]; unfold val; obtain ⟨hc2, hf2⟩ := bcell (hb.trans (hb2.mono hb.size))))
        exact bodyPost_ret (v := .tuple #[val 3 0 ⟨r.toArray⟩, .nilIface]) (by simp [results, Tryz.results91, go_sem, val, errV, hc2]) rfl ⟨ret_v (by rw [h]; rfl), below3 (hb.trans (hb2.mono hb.size))⟩
      · go_enter Tryz.func91, Tryz.ntmps91
        go_wp2_with (first | (go_at_call 99; refine (hun _).mono ?_; rintro e W1 ⟨rfl, hb⟩; rw [show unqV (some r) = .tuple #[.string ⟨r.toArray⟩, .bool true] from rfl]; obtain ⟨hc, hf⟩ := bcell hb) | (go_at_call 85; refine (hpr _).mono ?_; rintro e w' ⟨rfl, rfl⟩) | (go_at_call 100; refine (hck _).mono ?_; rintro e W2 ⟨rfl, hb2⟩; rw [h, show resV 4 3 0 ⟨r.toArray⟩ = .tuple #[val 0 0 ⟨#[]⟩, errV 4] from rfl, errV_4]; unfold val; obtain ⟨hc2, hf2⟩ := bcell (hb.trans (hb2.mono hb.size))))
        exact bodyPost_ret (v := .tuple #[val 0 0 ⟨#[]⟩, errV 4]) (by simp [results, Tryz.results91, go_sem, val, errV, hc2]) rfl ⟨ret_v (by rw [h]; rfl), below3 (hb.trans (hb2.mono hb.size))⟩
end Go.Proofs.YtmgkdghkenpmbaaGreatDoor
