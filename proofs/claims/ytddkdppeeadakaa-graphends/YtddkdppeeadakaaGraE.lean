/-
  The ends of ties: as many go out as come in.
-/
import Derived.Test.YtddkdppeeadakaaGraG
namespace Go.Proofs.Ytddkdppeeadakaa
open Go.RowKit
set_option linter.unusedVariables false
set_option linter.unusedSimpArgs false

/-- Of a bond. -/
def Te.hit (bd : ByteArray) (t : Te) : Bool := t.bd.toList == bd.toList
/-- The ends of ties that go out, and of those that come in. -/
def outs (T : List Te) (bd : ByteArray) (a : Int) : List Int := (T.filter fun t => t.hit bd && t.fr == a).map (·.tt)
def inns (T : List Te) (bd : ByteArray) (a : Int) : List Int := (T.filter fun t => t.hit bd && t.tt == a).map (·.fr)
/-- How many of a list are none of these. -/
def gone (A : List Int) (L : List Int) : Int := ((L.filter fun x => !A.contains x).length : Nat)

theorem filter_sum {T : List Te} {f : Te → Int} {P : Te → Bool} : ∀ {A : List Int}, A.Nodup →
    (A.map fun a => (((T.filter fun t => P t && f t == a).length : Nat) : Int)).sum = ((T.filter fun t => P t && A.contains (f t)).length : Nat) := by
  intro A hA
  induction A with
  | nil => 
    simp only [List.map_nil, List.sum_nil, List.contains_nil, Bool.and_false]
    rw [show T.filter (fun _ => false) = [] from List.filter_eq_nil_iff.2 (fun _ _ => Bool.false_ne_true)]; rfl
  | cons a r ih =>
    obtain ⟨h1, h2⟩ := List.nodup_cons.1 hA
    rw [List.map_cons, List.sum_cons, ih h2]
    clear ih hA h2
    induction T with
    | nil => simp
    | cons t T it =>
      simp only [List.filter_cons]
      by_cases hp : P t = true
      · by_cases he : f t = a
        · have hn : r.contains (f t) = false := by simpa [he] using h1
          have e1 : (P t && f t == a) = true := by simp [hp, he]
          have e2 : (P t && r.contains (f t)) = false := by rw [hn, Bool.and_false]
          have e3 : (P t && (a :: r).contains (f t)) = true := by simp [hp, he]
          rw [if_pos e1, if_neg (by rw [e2]; exact Bool.false_ne_true), if_pos e3]
          simp only [List.length_cons]; omega
        · have e1 : (P t && f t == a) = false := by simp [he]
          have e3 : (P t && (a :: r).contains (f t)) = (P t && r.contains (f t)) := by simp [he]
          rw [if_neg (by rw [e1]; exact Bool.false_ne_true), e3]
          by_cases h4 : (P t && r.contains (f t)) = true
          · rw [if_pos h4, if_pos h4]; simp only [List.length_cons]; omega
          · rw [if_neg h4, if_neg h4]; omega
      · have e : P t = false := by simpa using hp
        simp only [e, Bool.false_and, Bool.false_eq_true, if_false]
        exact it
theorem outs_len (T : List Te) (bd : ByteArray) (a : Int) : ((outs T bd a).length : Int) = ((T.filter fun t => t.hit bd && t.fr == a).length : Nat) := by unfold outs; rw [List.length_map]
theorem inns_len (T : List Te) (bd : ByteArray) (a : Int) : ((inns T bd a).length : Int) = ((T.filter fun t => t.hit bd && t.tt == a).length : Nat) := by unfold inns; rw [List.length_map]
theorem outs_gone (A : List Int) (T : List Te) (bd : ByteArray) (a : Int) : gone A (outs T bd a) = ((T.filter fun t => (t.hit bd && !A.contains t.tt) && t.fr == a).length : Nat) := by
  unfold gone outs
  rw [List.filter_map, List.length_map, List.filter_filter]
  congr 2
  apply List.filter_congr; intro t _; simp only [Function.comp]
  cases t.hit bd <;> cases A.contains t.tt <;> cases (t.fr == a) <;> rfl
theorem inns_gone (A : List Int) (T : List Te) (bd : ByteArray) (a : Int) : gone A (inns T bd a) = ((T.filter fun t => (t.hit bd && !A.contains t.fr) && t.tt == a).length : Nat) := by
  unfold gone inns
  rw [List.filter_map, List.length_map, List.filter_filter]
  congr 2
  apply List.filter_congr; intro t _; simp only [Function.comp]
  cases t.hit bd <;> cases A.contains t.fr <;> cases (t.tt == a) <;> rfl
theorem count_parts (T : List Te) (F G H : Te → Bool) : ((T.filter fun t => H t && F t).length : Int) - (T.filter fun t => H t && G t).length = (T.filter fun t => (H t && !G t) && F t).length - (T.filter fun t => (H t && !F t) && G t).length := by
  induction T with
  | nil => rfl
  | cons t T ih =>
    simp only [List.filter_cons]
    cases H t <;> cases F t <;> cases G t <;> simp <;> omega
/-- As many ties go out as come in, but for those whose other end is none. -/
theorem ends_sum (T : List Te) (bd : ByteArray) {A : List Int} (hA : A.Nodup) :
    (A.map fun a => ((outs T bd a).length : Int)).sum - (A.map fun a => ((inns T bd a).length : Int)).sum = (A.map fun a => gone A (outs T bd a)).sum - (A.map fun a => gone A (inns T bd a)).sum := by
  simp only [outs_len, inns_len, outs_gone, inns_gone]
  rw [filter_sum (T := T) (f := fun t => t.fr) (P := fun t => t.hit bd) hA, filter_sum (T := T) (f := fun t => t.tt) (P := fun t => t.hit bd) hA,
    filter_sum (T := T) (f := fun t => t.fr) (P := fun t => t.hit bd && !A.contains t.tt) hA, filter_sum (T := T) (f := fun t => t.tt) (P := fun t => t.hit bd && !A.contains t.fr) hA]
  exact count_parts T (fun t => A.contains t.fr) (fun t => A.contains t.tt) (fun t => t.hit bd)
theorem there_back {T : List Te} {bd : ByteArray} {a x : Int} (h : x ∈ outs T bd a) : a ∈ inns T bd x := by
  unfold outs at h; unfold inns
  obtain ⟨t, ht, rfl⟩ := List.mem_map.1 h
  obtain ⟨h1, h2⟩ := List.mem_filter.1 ht
  simp only [Bool.and_eq_true, beq_iff_eq] at h2
  exact List.mem_map.2 ⟨t, List.mem_filter.2 ⟨h1, by simp [h2.1]⟩, h2.2⟩
theorem back_there {T : List Te} {bd : ByteArray} {a x : Int} (h : x ∈ inns T bd a) : a ∈ outs T bd x := by
  unfold inns at h; unfold outs
  obtain ⟨t, ht, rfl⟩ := List.mem_map.1 h
  obtain ⟨h1, h2⟩ := List.mem_filter.1 ht
  simp only [Bool.and_eq_true, beq_iff_eq] at h2
  exact List.mem_map.2 ⟨t, List.mem_filter.2 ⟨h1, by simp [h2.1]⟩, h2.2⟩
end Go.Proofs.Ytddkdppeeadakaa
