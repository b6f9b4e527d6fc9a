/-
  What conforms is right node by node: the mathematics of CheckHolds.
-/
import Derived.Test.YtjjnfnlkfojehaaChkL
namespace Go.Proofs.Ytjjnfnlkfojehaa
open Go.RowKit
set_option linter.unusedVariables false
set_option linter.unusedSimpArgs false

theorem fieldF_grow (id : Int) (rc : List Pr) (fs : List Fd) : ∀ S : List Ft × Tk, (fs.foldl (fieldS id rc) S).1 = [] → S.1 = [] := by
  induction fs with
  | nil => intro S h; exact h
  | cons f r ih =>
    intro S h
    have h1 := ih _ h
    unfold fieldS at h1
    split at h1
    · simp at h1
    · split at h1
      · simp at h1
      · split at h1 <;> exact h1
/-- Less is taken. -/
def leT (T' T : Tk) : Prop := ∀ x, (T' x).getD 0 ≠ 0 → (T x).getD 0 ≠ 0
theorem leT_upd {T' T : Tk} (h : leT T' T) (x : KeyV) (id : Int) : leT (upd T' x id) (upd T x id) := fun y hy => by
  unfold upd at hy ⊢
  split
  · rename_i e
    rw [if_pos e] at hy
    exact hy
  · rename_i e
    rw [if_neg e] at hy
    exact h y hy
theorem fieldF_less (id : Int) (rc : List Pr) (fs : List Fd) : ∀ S S' : List Ft × Tk, S'.1 = [] → leT S'.2 S.2 → (fs.foldl (fieldS id rc) S).1 = [] → (fs.foldl (fieldS id rc) S').1 = [] := by
  induction fs with
  | nil => intro S S' h1 _ _; exact h1
  | cons f r ih =>
    intro S S' h1 h2 h3
    simp only [List.foldl_cons] at h3 ⊢
    have h4 := fieldF_grow id rc r _ h3
    cases hn : noF rc f
    · cases hs : sameF rc S.2 f
      · have hs' : sameF rc S'.2 f = false := by
          cases hs' : sameF rc S'.2 f
          · rfl
          · exfalso
            unfold sameF at hs hs'
            rw [Bool.and_eq_true] at hs'
            rw [hs'.1, Bool.true_and] at hs
            have h5 : (S'.2 (keyP rc f)).getD 0 ≠ 0 := by simpa using hs'.2
            have h6 := h2 _ h5
            have h7 : (S.2 (keyP rc f)).getD 0 = 0 := by simpa using hs
            exact h6 h7
        cases hk : f.key
        · rw [fieldS_none hn hk] at h3 ⊢
          exact ih S S' h1 h2 h3
        · rw [fieldS_put hn hs hk] at h3
          rw [fieldS_put hn hs' hk]
          exact ih _ _ h1 (leT_upd h2 _ _) h3
      · rw [fieldS_same hn hs] at h4
        simp at h4
    · rw [fieldS_no hn] at h4
      simp at h4
theorem ownF_less {h : Option Sh} {n : Nd} {T : Tk} (he : (ownF h n T).1 = []) : (ownF h n (fun _ => none)).1 = [] := by
  cases h with
  | none => simp [ownF] at he
  | some s =>
    simp only [ownF, List.append_eq_nil_iff] at he ⊢
    refine ⟨he.1, fieldF_less _ _ _ ([], T) ([], fun _ => none) rfl (fun x hx => absurd rfl hx) he.2⟩
theorem nodeF_grow (H : ByteArray → Option Sh) (O : Ou) (N : List Nd) : ∀ S : List Ft × Tk, (N.foldl (nodeS H O) S).1 = [] → S.1 = [] := by
  induction N with
  | nil => intro S h; exact h
  | cons n r ih =>
    intro S h
    have h1 := ih _ h
    simp only [nodeS, List.append_eq_nil_iff] at h1
    exact h1.1.1
theorem nodeF_each (H : ByteArray → Option Sh) (O : Ou) (N : List Nd) : ∀ S : List Ft × Tk, (N.foldl (nodeS H O) S).1 = [] → ∀ n ∈ N, (ownF (H n.kd) n (fun _ => none)).1 = [] := by
  induction N with
  | nil => intro S _ n hn; simp at hn
  | cons m r ih =>
    intro S h n hn
    simp only [List.foldl_cons] at h
    rcases List.mem_cons.1 hn with rfl | hn
    · have h1 := nodeF_grow H O r _ h
      simp only [nodeS, List.append_eq_nil_iff] at h1
      exact ownF_less h1.1.2
    · exact ih _ h n hn
theorem conf_each {L : List Kd} {B : List Bd} {N : List Nd} {T : List Te} (h : confB L B N T = true) : ∀ n ∈ N, (ownF (shO L B L n.kd) n (fun _ => none)).1 = [] := by
  unfold confB at h
  rw [Bool.and_eq_true] at h
  have h1 : (allF L B N T).length = 0 := by simpa using h.2
  have h2 := List.eq_nil_of_length_eq_zero h1
  unfold allF at h2
  rw [List.append_eq_nil_iff] at h2
  exact nodeF_each _ _ N _ h2.1
theorem inE_parts {L : List Kd} {B : List Bd} {N : List Nd} {T : List Te} (h : inE L B N T = 0) : (sErr L B).2 = 0 ∧ gErr N T = 0 := by
  unfold inE at h
  split at h
  · rename_i h1; exact ⟨h1, h⟩
  · rename_i h1; exact absurd h h1
theorem conf_none {L : List Kd} {B : List Bd} {N : List Nd} {T : List Te} (h : inE L B N T = 0) : inE L B [] [] = 0 ∧ confB L B [] [] = true := by
  have h1 : inE L B [] [] = 0 := by unfold inE; rw [if_pos (inE_parts h).1]; rfl
  refine ⟨h1, ?_⟩
  unfold confB
  rw [h1]
  rfl
theorem ndE_none {o : Option Nd} {n : Nd} (h : ndE o n = 0) : ndE none n = 0 := by
  obtain ⟨h1, _, h3, h4⟩ := ndE_zero h
  unfold ndE
  rw [if_pos h1, if_neg (by simp [Nd.low]), if_pos h3, h4]
theorem one_ok {L : List Kd} {B : List Bd} {N : List Nd} {T : List Te} (h : inE L B N T = 0) {n : Nd} (hn : n ∈ N) : oneE L B n = 0 := by
  obtain ⟨h1, h2⟩ := inE_parts h
  obtain ⟨o, ho⟩ := chkN_all N none (gErr_parts h2).2.2.1 n hn
  unfold oneE
  rw [if_pos h1]
  exact ndE_none ho
/-- The node of no kind. -/
abbrev ndA : Nd := ⟨1, ⟨#[97]⟩, .slice none 0 0, []⟩
theorem fact_in : inE [] [] [ndA] [] = 0 := by
  have h1 : (sErr [] []).2 = 0 := by decide
  rw [inE_g h1, gErr_one]
  unfold ndE
  rw [if_pos (by decide), if_neg (by simp [Nd.low])]
  have h2 : nErr ndA.kd.data.toList = 0 := by decide
  rw [if_pos h2]
  rfl
theorem fact_all : allF [] [] [ndA] [] = [⟨1, 1, ⟨#[97]⟩⟩] := by rfl
end Go.Proofs.Ytjjnfnlkfojehaa
