/-
  The walk of kinref1.Kin: the least closed set of names, by marks.
-/
import Derived.Test.YtholhlibcofojabDoorRefA
import Derived.Deep.LoopGhost
import Derived.Deep.OwnRows
namespace Go.Proofs.YtholhlibcofojabDoor
open Go.RowKit
set_option linter.unusedVariables false
set_option linter.unusedSimpArgs false

/-- What is marked belongs there. -/
def Snd (L : List Kd) (a : Nm) (B : Nat → Bool) : Prop := ∀ i k, L[i]? = some k → B i = true → k.nm ∈ names L a
/-- The first of what one comes of are marked. -/
def ClsAt (L : List Kd) (B : Nat → Bool) (k : Kd) (m : Nat) : Prop := ∀ (t : Nat) (n : Nm), t < m → k.of[t]? = some n → ∀ (j : Nat) (x : Kd), L[j]? = some x → x.nm = n → B j = true
/-- .. of each of the first ones. -/
def Cls (L : List Kd) (B : Nat → Bool) (i : Nat) : Prop := ∀ (i' : Nat) (k : Kd), i' < i → L[i']? = some k → B i' = true → ClsAt L B k k.of.length
/-- How many are not marked. -/
def cnt (n : Nat) (B : Nat → Bool) : Nat := ((List.range n).filter fun i => !B i).length
/-- One mark more. -/
def mark (B : Nat → Bool) (j : Nat) : Nat → Bool := fun i => if i = j then true else B i
theorem cnt_mark {n j : Nat} {B : Nat → Bool} (hj : j < n) (h : B j = false) : cnt n (mark B j) < cnt n B := by
  unfold cnt
  induction n with
  | zero => omega
  | succ n ih =>
    rw [List.range_succ, List.filter_append, List.filter_append, List.length_append, List.length_append]
    by_cases hjn : j = n
    · subst hjn
      have e1 : ((List.range j).filter fun i => !mark B j i) = (List.range j).filter fun i => !B i := by
        apply List.filter_congr
        intro i hi
        have : ¬ i = j := by have := List.mem_range.1 hi; omega
        simp [mark, this]
      rw [e1]
      simp [mark, h]
    · have := ih (by omega)
      have e2 : ([n].filter fun i => !mark B j i) = [n].filter fun i => !B i := by simp only [List.filter_cons, List.filter_nil, mark, show ¬ n = j by omega, if_false]
      rw [e2]
      omega
theorem cnt_le (n : Nat) (B : Nat → Bool) : cnt n B ≤ n := by
  unfold cnt
  have := List.length_filter_le (fun i => !B i) (List.range n)
  simpa using this
/-- Marked just where the name belongs. -/
theorem marks_done {L : List Kd} {a : Nm} {B : Nat → Bool} (h : Right L) (hs : Snd L a B) (hc : Cls L B L.length) {ja : Nat} {q : Kd} (hq : L[ja]? = some q) (hqa : q.nm = a) (ha : B ja = true) :
    ∀ i k, L[i]? = some k → B i = hasN (names L a) k.nm := by
  intro i k hk
  have hall : ∀ n ∈ names L a, (∀ j x, L[j]? = some x → x.nm = n → B j = true) := by
    refine names_least L a (fun n => ∀ j x, L[j]? = some x → x.nm = n → B j = true) ?_ ?_
    · intro x hx hT n hn j y hy hyn
      obtain ⟨i', hi'⟩ := List.mem_iff_getElem?.1 hx
      have hB := hT i' x hi' rfl
      obtain ⟨t, ht⟩ := List.mem_iff_getElem?.1 hn
      have hlt := (List.getElem?_eq_some_iff.1 hi').1
      exact hc i' x hlt hi' hB t n (List.getElem?_eq_some_iff.1 ht).1 ht j y hy hyn
    · intro j x hx hxn
      have := right_names h j ja x q hx hq (hxn.trans hqa.symm)
      rw [this]; exact ha
  cases hB : B i with
  | true => exact ((hasN_iff _ _).2 (hs i k hk hB)).symm
  | false =>
    cases hN : hasN (names L a) k.nm with
    | false => rfl
    | true =>
      have := hall k.nm ((hasN_iff _ _).1 hN) i k hk rfl
      rw [hB] at this; exact absurd this (by decide)
theorem snd_mark {L : List Kd} {a : Nm} {B : Nat → Bool} (h : Right L) (hs : Snd L a B) {i j : Nat} {k x : Kd} {n : Nm} (hk : L[i]? = some k) (hB : B i = true) (hn : n ∈ k.of) (hx : L[j]? = some x) (hxn : x.nm = n) : Snd L a (mark B j) := by
  intro i' k' hk' hB'
  unfold mark at hB'
  split at hB'
  · rename_i e
    subst e
    rw [hx] at hk'
    obtain rfl := Option.some.inj hk'
    rw [hxn]
    exact names_closed h a (List.mem_of_getElem? hk) (hs i k hk hB) n hn
  · exact hs i' k' hk' hB'
end Go.Proofs.YtholhlibcofojabDoor
