/-
  What package graph says, in plain functions: the fault of a graph, the ends of ties at a node; and how a graph lies in memory.
-/
import Derived.Test.YtkgblicmkijpdaaRecB
import Derived.Lib.Small
import Derived.Lib.Slices
import Derived.Lib.Walk
import Derived.Lib.Bytealg
namespace Go.Proofs.Ytkgblicmkijpdaa
open Go.RowKit
set_option linter.unusedVariables false
set_option linter.unusedSimpArgs false

/-- A node: its id, its kind, its record's slice and what lies there. -/
structure Nd where
  id : Int
  kd : ByteArray
  rv : Value
  rc : List Pr
/-- A tie. -/
structure Te where
  bd : ByteArray
  fr : Int
  tt : Int
abbrev Nd.one (n : Nd) : Value := .agg #[.int .i64 n.id, .string n.kd, n.rv]
abbrev Te.one (t : Te) : Value := .agg #[.string t.bd, .int .i64 t.fr, .int .i64 t.tt]

/-- May it be an id? -/
def idOk (i : Int) : Bool := decide (1 ≤ i) && decide (i ≤ 1000)
/-- It does not rise behind another one. -/
def Nd.low (n : Nd) (o : Option Nd) : Bool := match o with | none => false | some q => decide (n.id ≤ q.id)
/-- The fault of a node behind another one. -/
def ndE (o : Option Nd) (n : Nd) : Int :=
  if idOk n.id = true then (if n.low o = true then 7 else if nErr n.kd.data.toList = 0 then rErr n.rc else nErr n.kd.data.toList) else 1
/-- The first fault of nodes, behind what came ahead. -/
def chkN : Option Nd → List Nd → Int
  | _, [] => 0
  | o, n :: r => if ndE o n = 0 then chkN (some n) r else ndE o n
/-- The first that is not nought. -/
def or3 (a b c : Int) : Int := if a = 0 then (if b = 0 then c else b) else a
/-- Two ties by bond, from, to. -/
def tCmp (a b : Te) : Int := or3 (Lib.compareBytes a.bd.data.toList b.bd.data.toList) (Lib.compareInt a.fr b.fr) (Lib.compareInt a.tt b.tt)
def Te.low (t : Te) (o : Option Te) : Bool := match o with | none => false | some q => decide (tCmp t q ≤ 0)
/-- The fault of a tie behind another one. -/
def teE (o : Option Te) (t : Te) : Int :=
  if nErr t.bd.data.toList = 0 then (if (idOk t.fr && idOk t.tt) = true then (if t.low o = true then 7 else 0) else 1) else nErr t.bd.data.toList
def chkT : Option Te → List Te → Int
  | _, [] => 0
  | o, t :: r => if teE o t = 0 then chkT (some t) r else teE o t
/-- The fault of a graph. -/
def gErr (N : List Nd) (T : List Te) : Int :=
  if 60 < N.length ∨ 120 < T.length then 4 else if chkN none N = 0 then chkT none T else chkN none N

/-- The one ahead of a place. -/
def prvN (L : List Nd) (k : Nat) : Option Nd := if k = 0 then none else L[k - 1]?
def prvT (L : List Te) (k : Nat) : Option Te := if k = 0 then none else L[k - 1]?

/-- A record's slice; one that has nothing may lie anywhere. -/
def IsR (w : World) (v : Value) (L : List Pr) : Prop :=
  ∃ ao c, v = .slice ao L.length c ∧ (L = [] ∨ ∃ b off, ao = some ⟨b, off, none⟩ ∧ b < w.heap.size ∧ Lies w b off L)
theorem IsR.on {w w' : World} {v : Value} {L : List Pr} (h : IsR w v L) (hB : Below w.heap.size w w') : IsR w' v L := by
  obtain ⟨ao, c, rfl, h0 | ⟨b, off, rfl, hb, hL⟩⟩ := h
  · exact ⟨ao, c, rfl, .inl h0⟩
  · refine ⟨_, c, rfl, .inr ⟨b, off, rfl, Nat.lt_of_lt_of_le hb hB.size, fun k p hp => ?_⟩⟩
    obtain ⟨c0, c1, c2, c3⟩ := hL k p hp
    exact ⟨(hB.cell hb).trans c0, (hB.cell hb).trans c1, (hB.cell hb).trans c2, (hB.cell hb).trans c3⟩

theorem rcheck_r {v : Value} {L : List Pr} {w : World} (h : IsR w v L) (hs : Sz L) (hm : L.length ≤ maxLen) : Calls Try.prog 49 #[v] w fun e w' => e = .returned (errV (rErr L)) ∧ Below w.heap.size w w' := by
  obtain ⟨ao, c, rfl, rfl | ⟨b, off, rfl, hb, hl⟩⟩ := h
  · exact rcheck_nil _ _ w
  · by_cases h8 : 8 < L.length
    · have e : rErr L = 4 := by unfold rErr; rw [if_pos h8]
      rw [e]; exact rcheck_many _ _ _ _ h8 hm
    · have e : rErr L = chk none L := by unfold rErr; rw [if_neg h8]
      rw [e]; exact rcheck_some b off c L w hb hl hs (by omega)

/-- The nodes lie there. -/
def LiesN (w : World) (b off : Nat) (N : List Nd) : Prop :=
  ∀ k n, N[k]? = some n → w.cell? ⟨b, off + k * 3, none⟩ = some (.int .i64 n.id) ∧ w.cell? ⟨b, off + k * 3 + 1, none⟩ = some (.string n.kd) ∧ w.cell? ⟨b, off + k * 3 + 2, none⟩ = some n.rv ∧ IsR w n.rv n.rc
def LiesT (w : World) (b off : Nat) (T : List Te) : Prop :=
  ∀ k t, T[k]? = some t → w.cell? ⟨b, off + k * 3, none⟩ = some (.string t.bd) ∧ w.cell? ⟨b, off + k * 3 + 1, none⟩ = some (.int .i64 t.fr) ∧ w.cell? ⟨b, off + k * 3 + 2, none⟩ = some (.int .i64 t.tt)
def IsN (w : World) (v : Value) (N : List Nd) : Prop :=
  ∃ ao c, v = .slice ao N.length c ∧ N.length ≤ c ∧ (N = [] ∨ ∃ b off, ao = some ⟨b, off, none⟩ ∧ b < w.heap.size ∧ LiesN w b off N)
def IsT (w : World) (v : Value) (T : List Te) : Prop :=
  ∃ ao c, v = .slice ao T.length c ∧ T.length ≤ c ∧ (T = [] ∨ ∃ b off, ao = some ⟨b, off, none⟩ ∧ b < w.heap.size ∧ LiesT w b off T)
theorem LiesN.on {w w' : World} {b off : Nat} {N : List Nd} (h : LiesN w b off N) (hb : b < w.heap.size) (hB : Below w.heap.size w w') : LiesN w' b off N := fun k n hn => by
  obtain ⟨c0, c1, c2, c3⟩ := h k n hn
  exact ⟨(hB.cell hb).trans c0, (hB.cell hb).trans c1, (hB.cell hb).trans c2, c3.on hB⟩
theorem LiesT.on {w w' : World} {b off : Nat} {T : List Te} (h : LiesT w b off T) (hb : b < w.heap.size) (hB : Below w.heap.size w w') : LiesT w' b off T := fun k n hn => by
  obtain ⟨c0, c1, c2⟩ := h k n hn
  exact ⟨(hB.cell hb).trans c0, (hB.cell hb).trans c1, (hB.cell hb).trans c2⟩
theorem IsN.on {w w' : World} {v : Value} {N : List Nd} (h : IsN w v N) (hB : Below w.heap.size w w') : IsN w' v N := by
  obtain ⟨ao, c, rfl, hc, h0 | ⟨b, off, rfl, hb, hL⟩⟩ := h
  · exact ⟨ao, c, rfl, hc, .inl h0⟩
  · exact ⟨_, c, rfl, hc, .inr ⟨b, off, rfl, Nat.lt_of_lt_of_le hb hB.size, hL.on hb hB⟩⟩
theorem IsT.on {w w' : World} {v : Value} {T : List Te} (h : IsT w v T) (hB : Below w.heap.size w w') : IsT w' v T := by
  obtain ⟨ao, c, rfl, hc, h0 | ⟨b, off, rfl, hb, hL⟩⟩ := h
  · exact ⟨ao, c, rfl, hc, .inl h0⟩
  · exact ⟨_, c, rfl, hc, .inr ⟨b, off, rfl, Nat.lt_of_lt_of_le hb hB.size, hL.on hb hB⟩⟩
/-- Texts are not too long for memory. -/
def SzN (N : List Nd) : Prop := ∀ n ∈ N, n.kd.size ≤ maxLen ∧ Sz n.rc ∧ n.rc.length ≤ maxLen
def SzT (T : List Te) : Prop := ∀ t ∈ T, t.bd.size ≤ maxLen

theorem dropN {α : Type} {L : List α} {k : Nat} {p : α} (h : L[k]? = some p) : L.drop k = p :: L.drop (k + 1) := by
  obtain ⟨hk, rfl⟩ := List.getElem?_eq_some_iff.1 h
  exact List.drop_eq_getElem_cons hk
theorem prvN_s {L : List Nd} {k : Nat} {q : Nd} (h : L[k]? = some q) : prvN L (k + 1) = some q := by unfold prvN; rw [if_neg (by omega)]; simpa using h
theorem prvT_s {L : List Te} {k : Nat} {q : Te} (h : L[k]? = some q) : prvT L (k + 1) = some q := by unfold prvT; rw [if_neg (by omega)]; simpa using h
theorem chkN_end (o : Option Nd) : chkN o [] = 0 := by cases o <;> rfl
theorem chkT_end (o : Option Te) : chkT o [] = 0 := by cases o <;> rfl
theorem chkN_ok {o : Option Nd} {n : Nd} {r : List Nd} (h : ndE o n = 0) : chkN o (n :: r) = chkN (some n) r := by simp [chkN, h]
theorem chkN_bad {o : Option Nd} {n : Nd} {r : List Nd} (h : ¬ ndE o n = 0) : chkN o (n :: r) = ndE o n := by simp [chkN, h]
theorem chkT_ok {o : Option Te} {n : Te} {r : List Te} (h : teE o n = 0) : chkT o (n :: r) = chkT (some n) r := by simp [chkT, h]
theorem chkT_bad {o : Option Te} {n : Te} {r : List Te} (h : ¬ teE o n = 0) : chkT o (n :: r) = teE o n := by simp [chkT, h]
end Go.Proofs.Ytkgblicmkijpdaa
