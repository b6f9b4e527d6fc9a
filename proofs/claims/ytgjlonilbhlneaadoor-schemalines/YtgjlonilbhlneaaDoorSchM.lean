/-
  What package schema says, in plain functions: the fault of a schema, and its text; and how bonds lie in memory.
-/
import Derived.Test.YtgjlonilbhlneaaDoorKinK
import Derived.Lib.ItoaLen
import Derived.Lib.Join
namespace Go.Proofs.YtgjlonilbhlneaaDoor
open Go.RowKit
set_option linter.unusedVariables false
set_option linter.unusedSimpArgs false

/-- A bond. -/
structure Bd where
  nm : Nm
  fr : Nm
  to : Nm
  mn : Int
  mx : Int
/-- Its cells. -/
def Bd.cells (x : Bd) : List Value := [.string (bs x.nm), .string (bs x.fr), .string (bs x.to), .int .i64 x.mn, .int .i64 x.mx]
/-- It as one value. -/
abbrev Bd.one (x : Bd) : Value := .agg #[.string (bs x.nm), .string (bs x.fr), .string (bs x.to), .int .i64 x.mn, .int .i64 x.mx]
/-- Bonds lie there. -/
def LiesB (w : World) (b off : Nat) (l : List Bd) : Prop := ∀ i x, l[i]? = some x →
  w.cell? ⟨b, off + i * 5, none⟩ = some (.string (bs x.nm)) ∧ w.cell? ⟨b, off + i * 5 + 1, none⟩ = some (.string (bs x.fr)) ∧ w.cell? ⟨b, off + i * 5 + 2, none⟩ = some (.string (bs x.to)) ∧ w.cell? ⟨b, off + i * 5 + 3, none⟩ = some (.int .i64 x.mn) ∧ w.cell? ⟨b, off + i * 5 + 4, none⟩ = some (.int .i64 x.mx)
/-- The value is this list of bonds. -/
def IsB (w : World) (v : Value) (l : List Bd) : Prop :=
  (v = .slice none 0 0 ∧ l = []) ∨ ∃ b off cap, v = .slice (some ⟨b, off, none⟩) l.length cap ∧ l.length ≤ cap ∧ cap ≤ maxLen ∧ b < w.heap.size ∧ LiesB w b off l
/-- Their words are no longer than may be. -/
def SzB (l : List Bd) : Prop := ∀ x ∈ l, x.nm.length ≤ maxLen
theorem LiesB.on {w w' : World} {b off : Nat} {l : List Bd} (h : LiesB w b off l) (hb : b < w.heap.size) (hB : Below w.heap.size w w') : LiesB w' b off l := fun k p hp => by
  obtain ⟨c0, c1, c2, c3, c4⟩ := h k p hp
  exact ⟨(hB.cell hb).trans c0, (hB.cell hb).trans c1, (hB.cell hb).trans c2, (hB.cell hb).trans c3, (hB.cell hb).trans c4⟩
theorem IsB.on {w w' : World} {v : Value} {l : List Bd} (h : IsB w v l) (hB : Below w.heap.size w w') : IsB w' v l := by
  rcases h with h | ⟨b, off, cap, hv, hc, hm, hb, hl⟩
  · exact .inl h
  · exact .inr ⟨b, off, cap, hv, hc, hm, Nat.lt_of_lt_of_le hb hB.size, hl.on hb hB⟩
theorem LiesB.take {w : World} {b off : Nat} {l : List Bd} (h : LiesB w b off l) (i : Nat) : LiesB w b off (l.take i) := fun k n hn => by
  rw [List.getElem?_take] at hn
  split at hn
  · exact h k n hn
  · cases hn
theorem IsB.sln {w : World} {v : Value} {l : List Bd} (h : IsB w v l) : ∃ ao c, v = .slice ao l.length c ∧ l.length ≤ maxLen := by
  rcases h with ⟨rfl, rfl⟩ | ⟨b, off, cap, rfl, h1, h2, _⟩
  · exact ⟨_, _, rfl, by unfold maxLen; simp⟩
  · exact ⟨_, _, rfl, by omega⟩
theorem IsK.sln {w : World} {v : Value} {l : List Kd} (h : IsK w v l) : ∃ ao c, v = .slice ao l.length c ∧ l.length ≤ maxLen := by
  rcases h with ⟨rfl, rfl⟩ | ⟨b, off, cap, rfl, h1, h2, _⟩
  · exact ⟨_, _, rfl, by unfold maxLen; simp⟩
  · exact ⟨_, _, rfl, by omega⟩

/-- The first of a name. -/
def idxB (nm : Nm) : List Bd → Nat → Int
  | [], _ => -1
  | p :: r, k => if (p.nm == nm) = true then k else idxB nm r (k + 1)
theorem idxB_spec (nm : Nm) (L : List Bd) : ∀ k, idxB nm L k = -1 ∨ ∃ j q, idxB nm L k = ((k + j : Nat) : Int) ∧ L[j]? = some q ∧ q.nm = nm := by
  induction L with
  | nil => intro k; left; rfl
  | cons p r ih =>
    intro k
    by_cases h : (p.nm == nm) = true
    · right; exact ⟨0, p, by unfold idxB; rw [if_pos h]; simp, rfl, by simpa using h⟩
    · have e : idxB nm (p :: r) k = idxB nm r (k + 1) := by
        conv => lhs; unfold idxB
        rw [if_neg h]
      rw [e]
      rcases ih (k + 1) with h1 | ⟨j, q, h1, h2, h3⟩
      · exact .inl h1
      · exact .inr ⟨j + 1, q, by rw [h1]; congr 1; omega, by simpa using h2, h3⟩
/-- May a bond have them? -/
def inR (mn mx : Int) : Bool := decide (0 ≤ mn ∧ mn ≤ 20 ∧ (mx = -1 ∨ (mn ≤ mx ∧ mx ≤ 20)))
/-- A kind has the name. -/
def hasK (L : List Kd) (n : Nm) : Bool := decide (0 ≤ idxK n L 0)
/-- The fault of a bond, behind others. -/
def bErr (L : List Kd) (A : List Bd) (x : Bd) : Int :=
  if nErr x.nm = 0 then (if idxB x.nm A 0 = -1 then (if hasK L x.fr = true then (if hasK L x.to = true then (if inR x.mn x.mx = true then 0 else 1) else 5) else 5) else 7) else nErr x.nm
/-- The first that is wrong; its fault. -/
def bsGo (L : List Kd) : List Bd → List Bd → Nm × Int
  | _, [] => ([], 0)
  | A, x :: r => if bErr L A x = 0 then bsGo L (A ++ [x]) r else (x.nm, bErr L A x)
/-- The fault of a schema. -/
def sErr (L : List Kd) (B : List Bd) : Nm × Int := if (ksErr L).2 = 0 then (if 12 < B.length then ([], 4) else bsGo L [] B) else ksErr L

/-- The word of a type. -/
def tyW (t : Int) : Nm := if t = 1 then [105, 110, 116] else if t = 2 then [98, 111, 111, 108] else if t = 3 then [116, 101, 120, 116] else []
/-- A field's word. -/
def fText (f : Fd) : Nm := f.nm ++ [58] ++ tyW f.t ++ (if f.key = true then [42] else if f.must = true then [33] else [])
/-- A kind's words. -/
def kWords (k : Kd) : List Nm := [[107, 105, 110, 100], k.nm] ++ (if k.of = [] then [] else [[111, 102], Lib.join k.of [44]]) ++ k.fs.map fText
/-- The word of a Max. -/
def mxW (n : Int) : Nm := if n = -1 then [97, 110, 121] else Lib.itoa n
/-- A bond's words. -/
def bWords (x : Bd) : List Nm := [[98, 111, 110, 100], x.nm, x.fr, x.to, Lib.itoa x.mn, mxW x.mx]
/-- A line. -/
def lineL (ws : List Nm) : Nm := Lib.join ws [32] ++ [10]
/-- A schema's text. -/
def kText (L : List Kd) : Nm := L.flatMap fun k => lineL (kWords k)
def bText (B : List Bd) : Nm := B.flatMap fun x => lineL (bWords x)
def sText (L : List Kd) (B : List Bd) : Nm := kText L ++ bText B

/-- All bonds without a fault. -/
def GoodB (L : List Kd) (B : List Bd) : Prop := ∀ i x, B[i]? = some x → bErr L (B.take i) x = 0
theorem bsGo_good (L : List Kd) (B : List Bd) : ∀ A, (bsGo L A B).2 = 0 ↔ ∀ i x, B[i]? = some x → bErr L (A ++ B.take i) x = 0 := by
  induction B with
  | nil => intro A; simp [bsGo]
  | cons k r ih =>
    intro A
    constructor
    · intro h i x hx
      unfold bsGo at h
      split at h
      · rename_i h0
        cases i with
        | zero =>
          obtain rfl : k = x := by simpa using hx
          simpa using h0
        | succ i =>
          have := (ih (A ++ [k])).1 h i x (by simpa using hx)
          simpa [List.append_assoc] using this
      · rename_i h0; exact absurd h h0
    · intro h
      have h0 : bErr L A k = 0 := by simpa using h 0 k rfl
      unfold bsGo
      rw [if_pos h0]
      refine (ih (A ++ [k])).2 fun i x hx => ?_
      have := h (i + 1) x (by simpa using hx)
      simpa [List.append_assoc] using this
theorem sErr_good {L : List Kd} {B : List Bd} : (sErr L B).2 = 0 ↔ (ksErr L).2 = 0 ∧ GoodB L B ∧ B.length ≤ 12 := by
  unfold sErr
  by_cases h1 : (ksErr L).2 = 0
  · rw [if_pos h1]
    by_cases h2 : 12 < B.length
    · rw [if_pos h2]
      exact ⟨fun h => by simp at h, fun ⟨_, _, h⟩ => by omega⟩
    · rw [if_neg h2, bsGo_good]
      constructor
      · intro h; exact ⟨h1, fun i x hx => by simpa using h i x hx, by omega⟩
      · rintro ⟨_, h, _⟩ i x hx; simpa using h i x hx
  · rw [if_neg h1]
    exact ⟨fun h => absurd h h1, fun ⟨h, _⟩ => absurd h h1⟩
theorem bErr_zero {L : List Kd} {A : List Bd} {x : Bd} (h : bErr L A x = 0) : nErr x.nm = 0 ∧ idxB x.nm A 0 = -1 ∧ hasK L x.fr = true ∧ hasK L x.to = true ∧ inR x.mn x.mx = true := by
  unfold bErr at h
  split at h
  · rename_i h1
    split at h
    · rename_i h2
      split at h
      · rename_i h3
        split at h
        · rename_i h4
          split at h
          · rename_i h5; exact ⟨h1, h2, h3, h4, h5⟩
          · exact absurd h (by decide)
        · exact absurd h (by decide)
      · exact absurd h (by decide)
    · exact absurd h (by decide)
  · rename_i h1; exact absurd h h1
theorem inR_iff {mn mx : Int} : inR mn mx = true ↔ 0 ≤ mn ∧ mn ≤ 20 ∧ (mx = -1 ∨ (mn ≤ mx ∧ mx ≤ 20)) := by unfold inR; simp
theorem hasK_iff {L : List Kd} {n : Nm} : hasK L n = true ↔ ∃ x ∈ L, x.nm = n := by
  unfold hasK
  rw [decide_eq_true_iff]
  constructor
  · intro h
    rcases idxK_spec n L 0 with h1 | ⟨j, q, _, h2, h3⟩
    · omega
    · exact ⟨q, List.mem_of_getElem? h2, h3⟩
  · rintro ⟨x, hx, hn⟩
    rcases idxK_spec n L 0 with h1 | ⟨j, q, h1, _, _⟩
    · exact absurd hn (idxK_neg_iff.1 h1 x hx)
    · omega
end Go.Proofs.YtgjlonilbhlneaaDoor
