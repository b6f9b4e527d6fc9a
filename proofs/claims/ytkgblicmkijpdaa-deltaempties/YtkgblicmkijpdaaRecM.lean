/-
  What package record says, in plain functions: the fault of a record, two records joined; and how a record lies in memory.
-/
import Derived.Test.YtkgblicmkijpdaaWalkI
import Derived.Deep.QuietTactic
import Derived.BigQuiet
import Derived.Laws.Cover1
namespace Go.Proofs.Ytkgblicmkijpdaa
open Go.RowKit
set_option linter.unusedVariables false
set_option linter.unusedSimpArgs false

/-- A property. -/
structure Pr where
  nm : ByteArray
  t : Int
  n : Int
  s : ByteArray

/-- Its cells. -/
def Pr.cells (p : Pr) : List Value := [.string p.nm, .int .i64 p.t, .int .i64 p.n, .string p.s]
/-- It as one value. -/
abbrev Pr.one (p : Pr) : Value := .agg #[.string p.nm, .int .i64 p.t, .int .i64 p.n, .string p.s]
/-- The bytes of its name. -/
def Pr.l (p : Pr) : List UInt8 := p.nm.data.toList
/-- The fault of its value. -/
def Pr.bad (p : Pr) : Int := vErr p.t p.n p.s.data.toList
/-- It is ahead of another one by name. -/
def Pr.lt (p q : Pr) : Bool := Op.bytesLess p.nm.toList q.nm.toList
/-- It does not rise above another one. -/
def Pr.low (p q : Pr) : Bool := Op.bytesLess p.nm.toList q.nm.toList || p.nm.toList == q.nm.toList

/-- The first fault, behind what came ahead. -/
def chk : Option Pr → List Pr → Int
  | _, [] => 0
  | none, p :: r => if nErr p.l = 0 then (if p.bad = 0 then chk (some p) r else p.bad) else nErr p.l
  | some q, p :: r => if nErr p.l = 0 then (if p.bad = 0 then (if p.low q = true then 7 else chk (some p) r) else p.bad) else nErr p.l
/-- The fault of a record. -/
def rErr (L : List Pr) : Int := if 8 < L.length then 4 else chk none L

/-- The one ahead of a place. -/
def prv (L : List Pr) (k : Nat) : Option Pr := if k = 0 then none else L[k - 1]?

/-- Texts are not too long for memory. -/
def Sz (L : List Pr) : Prop := ∀ p ∈ L, p.nm.size ≤ maxLen ∧ p.s.size ≤ maxLen

/-- The properties lie there. -/
def Lies (w : World) (b off : Nat) (L : List Pr) : Prop :=
  ∀ k p, L[k]? = some p → w.cell? ⟨b, off + k * 4, none⟩ = some (.string p.nm) ∧ w.cell? ⟨b, off + k * 4 + 1, none⟩ = some (.int .i64 p.t) ∧ w.cell? ⟨b, off + k * 4 + 2, none⟩ = some (.int .i64 p.n) ∧ w.cell? ⟨b, off + k * 4 + 3, none⟩ = some (.string p.s)

theorem chk_end (o : Option Pr) : chk o [] = 0 := by cases o <;> rfl
theorem drop_at {L : List Pr} {k : Nat} {p : Pr} (h : L[k]? = some p) : L.drop k = p :: L.drop (k + 1) := by
  obtain ⟨hk, rfl⟩ := List.getElem?_eq_some_iff.1 h
  exact List.drop_eq_getElem_cons hk
theorem chk_name {o : Option Pr} {p : Pr} {r : List Pr} (h : ¬ nErr p.l = 0) : chk o (p :: r) = nErr p.l := by cases o <;> simp [chk, h]
theorem chk_bad {o : Option Pr} {p : Pr} {r : List Pr} (h : nErr p.l = 0) (h2 : ¬ p.bad = 0) : chk o (p :: r) = p.bad := by cases o <;> simp [chk, h, h2]
theorem chk_first {p : Pr} {r : List Pr} (h : nErr p.l = 0) (h2 : p.bad = 0) : chk none (p :: r) = chk (some p) r := by simp [chk, h, h2]
theorem chk_low {q p : Pr} {r : List Pr} (h : nErr p.l = 0) (h2 : p.bad = 0) (h3 : p.low q = true) : chk (some q) (p :: r) = 7 := by simp [chk, h, h2, h3]
theorem chk_up {q p : Pr} {r : List Pr} (h : nErr p.l = 0) (h2 : p.bad = 0) (h3 : p.low q = false) : chk (some q) (p :: r) = chk (some p) r := by simp [chk, h, h2, h3]
theorem low_parts {p q : Pr} (h : p.low q = true) : Op.bytesLess p.nm.toList q.nm.toList = true ∨ (Op.bytesLess p.nm.toList q.nm.toList = false ∧ (p.nm.toList == q.nm.toList) = true) := by
  unfold Pr.low at h
  cases h1 : Op.bytesLess p.nm.toList q.nm.toList
  · right; rw [h1, Bool.false_or] at h; exact ⟨rfl, h⟩
  · left; rfl
theorem up_parts {p q : Pr} (h : ¬ p.low q = true) : Op.bytesLess p.nm.toList q.nm.toList = false ∧ (p.nm.toList == q.nm.toList) = false := by
  unfold Pr.low at h
  cases h1 : Op.bytesLess p.nm.toList q.nm.toList
  · refine ⟨rfl, ?_⟩
    cases h2 : (p.nm.toList == q.nm.toList)
    · rfl
    · rw [h1, h2] at h; exact absurd rfl h
  · rw [h1] at h; exact absurd rfl h
end Go.Proofs.Ytkgblicmkijpdaa
