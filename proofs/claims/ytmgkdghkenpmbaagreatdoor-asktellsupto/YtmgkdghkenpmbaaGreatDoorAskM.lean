/-
  A path as text, in plain functions of lists of bytes: how it is printed, how it is read, and what is wrong with it.
-/
import Derived.Test.YtmgkdghkenpmbaaGreatDoorBackM
import Derived.Lib.Join
namespace Go.Proofs.YtmgkdghkenpmbaaGreatDoor
open Go.RowKit
set_option linter.unusedVariables false
set_option linter.unusedSimpArgs false

/-- A text as a list. -/
abbrev Nm := List UInt8
/-- It as a string. -/
def bs (l : Nm) : ByteArray := ⟨l.toArray⟩
theorem bs_toList (l : Nm) : (bs l).toList = l := by rw [Lib.toList_data]; simp [bs]
theorem bs_data (l : Nm) : (bs l).data.toList = l := by simp [bs]
theorem bs_self (s : ByteArray) : bs s.toList = s := by rw [Lib.toList_data]; cases s; simp [bs]
theorem bs_size (l : Nm) : (bs l).size = l.length := by simp [bs, ByteArray.size]
attribute [simp, go_sem] bs_toList bs_data
/-- A test. -/
structure Tst where
  nm : Nm
  hw : Int
  t : Int
  n : Int
  s : Nm
deriving DecidableEq
/-- A step. -/
structure St where
  bd : Nm
  back : Bool
  kd : Nm
  ts : List Tst
deriving DecidableEq

/-- What is wrong with how a test asks. -/
def howE (x : Tst) : Int := if x.hw = 1 ∨ x.hw = 2 ∨ x.hw = 3 then vErr x.t x.n x.s else if x.hw = 4 then (if x.t = 0 ∧ x.n = 0 ∧ x.s = [] then 0 else 3) else 1
/-- What is wrong with a test. -/
def tstP (x : Tst) : Int := if nErr x.nm = 0 then howE x else nErr x.nm
def tsP : List Tst → Int
  | [] => 0
  | x :: r => if tstP x = 0 then tsP r else tstP x
/-- What is wrong with how a step comes from the one ahead. -/
def bdP (first : Bool) (p : St) : Int := if first = true then (if p.bd = [] ∧ p.back = false then 0 else 3) else nErr p.bd
/-- What is wrong with a step. -/
def stP (first : Bool) (p : St) : Int :=
  if nErr p.kd = 0 then (if bdP first p = 0 then (if 8 < p.ts.length then 4 else tsP p.ts) else bdP first p) else nErr p.kd
def stsP : Bool → List St → Int
  | _, [] => 0
  | f, p :: r => if stP f p = 0 then stsP false r else stP f p
/-- What is wrong with a path by itself. -/
def askE (l : List St) : Int := if l = [] then 5 else if 6 < l.length then 4 else stsP true l

/-- The sign of a test. -/
def sg (h : Int) : UInt8 := if h = 1 then 61 else if h = 2 then 33 else 60
/-- A test as text. -/
def tstT (x : Tst) : Nm := if x.hw = 4 then x.nm else x.nm ++ sg x.hw :: showL x.t x.n x.s
/-- Tests as text. -/
def tsT (l : List Tst) : Nm := if l = [] then [] else 91 :: (Lib.join (l.map tstT) [44] ++ [93])
/-- The arrow. -/
def ar0 (back : Bool) : Nm := if back = true then [60, 45] else [45]
def ar1 (back : Bool) : Nm := if back = true then [45] else [45, 62]
def bdT (p : St) : Nm := ar0 p.back ++ p.bd ++ ar1 p.back
def kdT (p : St) : Nm := p.kd ++ tsT p.ts
/-- The words of the steps behind the first. -/
def wdsT : List St → List Nm
  | [] => []
  | p :: r => bdT p :: kdT p :: wdsT r
def wds : List St → List Nm
  | [] => []
  | p :: r => kdT p :: wdsT r
/-- A path as text. -/
def askT (l : List St) : Nm := Lib.join (wds l) [32]

/-- Is the next byte this one? -/
def seesB (r : List UInt8) (c : UInt8) : Bool := match r with
  | [] => false
  | x :: _ => x == c
/-- A word that is read, or as much of it as there is. -/
def takeR : Nm → Nm → Nm × Bool
  | [], r => (r, true)
  | _ :: _, [] => ([], false)
  | c :: ws, x :: r => if x = c then takeR ws r else (x :: r, false)
def isL (c : UInt8) : Bool := !noLet c
def nameT (r : Nm) : Nm := r.takeWhile isL
def nameD (r : Nm) : Nm := r.dropWhile isL
/-- The word that is a value. -/
def vw : Bool → Nm → Nm
  | _, [] => []
  | q, c :: r => if c = 39 then c :: vw (!q) r else if (c = 44 ∨ c = 93) ∧ q = false then [] else c :: vw q r
def pVal (r : Nm) : Nm × Option (Int × Int × Nm) :=
  if (parseL (vw false r)).1 = 0 then (r.drop (vw false r).length, some (parseL (vw false r)).2) else (r, none)
def howR : Nm → Nm × Int
  | [] => ([], 4)
  | c :: r => if c = 61 then (r, 1) else if c = 33 then (r, 2) else if c = 60 then (r, 3) else (c :: r, 4)
/-- A test that is read. -/
def pTest (r : Nm) : Nm × Option Tst :=
  if nameT r = [] then (r, none)
  else if (howR (nameD r)).2 = 4 then (nameD r, some ⟨nameT r, 4, 0, 0, []⟩)
  else ((pVal (howR (nameD r)).1).1, (pVal (howR (nameD r)).1).2.map fun v => ⟨nameT r, (howR (nameD r)).2, v.1, v.2.1, v.2.2⟩)
theorem name_cat (r : Nm) : nameT r ++ nameD r = r := List.takeWhile_append_dropWhile
theorem nameD_len (r : Nm) : (nameT r).length + (nameD r).length = r.length := by rw [← List.length_append, name_cat]
theorem nameD_lt {r : Nm} (h : ¬ nameT r = []) : (nameD r).length < r.length := by
  have := nameD_len r
  have : 0 < (nameT r).length := List.length_pos_iff.2 h
  omega
theorem howR_len (r : Nm) : (howR r).1.length ≤ r.length := by
  cases r with
  | nil => simp [howR]
  | cons c q => simp only [howR]; repeat' split
                all_goals simp
theorem pVal_len (r : Nm) : (pVal r).1.length ≤ r.length := by
  unfold pVal; split <;> simp
theorem pTest_len {r : Nm} (h : (pTest r).2.isSome = true) : (pTest r).1.length < r.length := by
  unfold pTest at h ⊢
  by_cases h1 : nameT r = []
  · rw [if_pos h1] at h; simp at h
  · rw [if_neg h1] at h ⊢
    have := nameD_lt h1
    have := howR_len (nameD r)
    have := pVal_len (howR (nameD r)).1
    split
    · exact nameD_lt h1
    · simp only; omega
/-- The tests up to the bracket that shuts them. -/
def testsR (r : Nm) : Nm × Option (List Tst) :=
  if h : (pTest r).2.isSome = true then
    if seesB (pTest r).1 44 = true then ((testsR (pTest r).1.tail).1, (testsR (pTest r).1.tail).2.map ((pTest r).2.get h :: ·))
    else if seesB (pTest r).1 93 = true then ((pTest r).1.tail, some [(pTest r).2.get h])
    else ((pTest r).1, none)
  else ((pTest r).1, none)
termination_by r.length
decreasing_by
  all_goals
    have := pTest_len h
    have := List.length_tail (l := (pTest r).1)
    omega
theorem testsR_no {r : Nm} (h : (pTest r).2 = none) : testsR r = ((pTest r).1, none) := by
  rw [testsR, dif_neg (by rw [h]; simp)]
theorem testsR_on {r : Nm} {x : Tst} (h : (pTest r).2 = some x) (h1 : seesB (pTest r).1 44 = true) : testsR r = ((testsR (pTest r).1.tail).1, (testsR (pTest r).1.tail).2.map (x :: ·)) := by
  have hs : (pTest r).2.isSome = true := by rw [h]; rfl
  have hg : (pTest r).2.get hs = x := Option.get_of_eq_some hs h
  rw [testsR, dif_pos hs, if_pos h1, hg]
theorem testsR_shut {r : Nm} {x : Tst} (h : (pTest r).2 = some x) (h1 : seesB (pTest r).1 44 = false) (h2 : seesB (pTest r).1 93 = true) : testsR r = ((pTest r).1.tail, some [x]) := by
  have hs : (pTest r).2.isSome = true := by rw [h]; rfl
  have hg : (pTest r).2.get hs = x := Option.get_of_eq_some hs h
  rw [testsR, dif_pos hs, if_neg (by rw [h1]; simp), if_pos h2, hg]
theorem testsR_bad {r : Nm} {x : Tst} (h : (pTest r).2 = some x) (h1 : seesB (pTest r).1 44 = false) (h2 : seesB (pTest r).1 93 = false) : testsR r = ((pTest r).1, none) := by
  have hs : (pTest r).2.isSome = true := by rw [h]; rfl
  rw [testsR, dif_pos hs, if_neg (by rw [h1]; simp), if_neg (by rw [h2]; simp)]
def pTests (r : Nm) : Nm × Option (List Tst) := if seesB r 91 = true then testsR r.tail else (r, some [])
/-- A bond in its arrow that is read. -/
def pBond (r : Nm) : Nm × Option (Nm × Bool) :=
  if (takeR [32] r).2 = false then ((takeR [32] r).1, none)
  else let r1 := (takeR [32] r).1; let b := seesB r1 60
    if (takeR (ar0 b) r1).2 = false then ((takeR (ar0 b) r1).1, none)
    else let r2 := (takeR (ar0 b) r1).1
      if nameT r2 = [] then (r2, none)
      else if (takeR (ar1 b ++ [32]) (nameD r2)).2 = false then ((takeR (ar1 b ++ [32]) (nameD r2)).1, none)
      else ((takeR (ar1 b ++ [32]) (nameD r2)).1, some (nameT r2, b))
/-- A kind and its tests. -/
def pKind (n : Nm) (b : Bool) (r : Nm) : Nm × Option St :=
  if nameT r = [] then (r, none) else ((pTests (nameD r)).1, (pTests (nameD r)).2.map fun ts => ⟨n, b, nameT r, ts⟩)
def pStep (first : Bool) (r : Nm) : Nm × Option St :=
  if first = true then pKind [] false r else match pBond r with
    | (r1, none) => (r1, none)
    | (r1, some (n, b)) => pKind n b r1
theorem takeR_len (ws r : Nm) : (takeR ws r).1.length ≤ r.length := by
  induction ws generalizing r with
  | nil => simp [takeR]
  | cons c ws ih =>
    cases r with
    | nil => simp [takeR]
    | cons x q =>
      simp only [takeR]; split
      · exact Nat.le_succ_of_le (ih q)
      · simp
theorem pTest_le (r : Nm) : (pTest r).1.length ≤ r.length := by
  unfold pTest
  have := nameD_len r
  have := howR_len (nameD r)
  have := pVal_len (howR (nameD r)).1
  split
  · simp
  · split <;> simp only <;> omega
theorem testsR_len (n : Nat) : ∀ r : Nm, r.length ≤ n → (testsR r).1.length ≤ r.length := by
  induction n with
  | zero =>
    intro r hr
    have hr0 : r = [] := List.eq_nil_of_length_eq_zero (by omega)
    subst hr0
    rw [testsR_no (by rfl)]; exact pTest_le []
  | succ n ih =>
    intro r hr
    have hle := pTest_le r
    have htl := List.length_tail (l := (pTest r).1)
    cases h : (pTest r).2 with
    | none => rw [testsR_no h]; exact hle
    | some x =>
      have hlt := pTest_len (r := r) (by rw [h]; rfl)
      by_cases h1 : seesB (pTest r).1 44 = true
      · rw [testsR_on h h1]; have := ih (pTest r).1.tail (by omega); simp only; omega
      · have h1' : seesB (pTest r).1 44 = false := by simpa using h1
        by_cases h2 : seesB (pTest r).1 93 = true
        · rw [testsR_shut h h1' h2]; simp only; omega
        · rw [testsR_bad h h1' (by simpa using h2)]; exact hle
theorem pTests_len (r : Nm) : (pTests r).1.length ≤ r.length := by
  unfold pTests; split
  · have := testsR_len _ r.tail (Nat.le_refl _); have := List.length_tail (l := r); omega
  · simp
theorem pBond_len (r : Nm) : (pBond r).1.length ≤ r.length := by
  unfold pBond
  have l1 := takeR_len [32] r
  split
  · exact l1
  · have l2 := takeR_len (ar0 (seesB (takeR [32] r).1 60)) (takeR [32] r).1
    simp only; split
    · exact Nat.le_trans l2 l1
    · have l3 := nameD_len (takeR (ar0 (seesB (takeR [32] r).1 60)) (takeR [32] r).1).1
      have l4 := takeR_len (ar1 (seesB (takeR [32] r).1 60) ++ [32]) (nameD (takeR (ar0 (seesB (takeR [32] r).1 60)) (takeR [32] r).1).1)
      split
      · exact Nat.le_trans l2 l1
      · split <;> (simp only; omega)
theorem pKind_le (n : Nm) (b : Bool) (r : Nm) : (pKind n b r).1.length ≤ r.length := by
  unfold pKind
  have := nameD_len r
  have := pTests_len (nameD r)
  split
  · simp
  · simp only; omega
theorem pKind_len {n : Nm} {b : Bool} {r : Nm} (h : (pKind n b r).2.isSome = true) : (pKind n b r).1.length < r.length := by
  unfold pKind at h ⊢
  by_cases h1 : nameT r = []
  · rw [if_pos h1] at h; simp at h
  · rw [if_neg h1]
    have := nameD_lt h1
    have := pTests_len (nameD r)
    simp only; omega
theorem pStep_len {f : Bool} {r : Nm} (h : (pStep f r).2.isSome = true) : (pStep f r).1.length < r.length := by
  unfold pStep at h ⊢
  by_cases hf : f = true
  · rw [if_pos hf] at h ⊢; exact pKind_len h
  · rw [if_neg hf] at h ⊢
    have hl := pBond_len r
    rcases hb : pBond r with ⟨r1, _ | ⟨n, b⟩⟩
    · rw [hb] at h; simp at h
    · rw [hb] at h hl; simp only at h hl ⊢; have := pKind_len h; omega
/-- All steps. -/
def stepsR (f : Bool) (r : Nm) : Nm × Option (List St) :=
  if h : (pStep f r).2.isSome = true then
    if (pStep f r).1 = [] then ([], some [(pStep f r).2.get h])
    else ((stepsR false (pStep f r).1).1, (stepsR false (pStep f r).1).2.map ((pStep f r).2.get h :: ·))
  else ((pStep f r).1, none)
termination_by r.length
decreasing_by
  all_goals
    have := pStep_len h
    omega
theorem stepsR_no {f : Bool} {r : Nm} (h : (pStep f r).2 = none) : stepsR f r = ((pStep f r).1, none) := by
  rw [stepsR, dif_neg (by rw [h]; simp)]
theorem stepsR_end {f : Bool} {r : Nm} {x : St} (h : (pStep f r).2 = some x) (h1 : (pStep f r).1 = []) : stepsR f r = ([], some [x]) := by
  have hs : (pStep f r).2.isSome = true := by rw [h]; rfl
  have hg : (pStep f r).2.get hs = x := Option.get_of_eq_some hs h
  rw [stepsR, dif_pos hs, if_pos h1, hg]
theorem stepsR_on {f : Bool} {r : Nm} {x : St} (h : (pStep f r).2 = some x) (h1 : ¬ (pStep f r).1 = []) : stepsR f r = ((stepsR false (pStep f r).1).1, (stepsR false (pStep f r).1).2.map (x :: ·)) := by
  have hs : (pStep f r).2.isSome = true := by rw [h]; rfl
  have hg : (pStep f r).2.get hs = x := Option.get_of_eq_some hs h
  rw [stepsR, dif_pos hs, if_neg h1, hg]
end Go.Proofs.YtmgkdghkenpmbaaGreatDoor
