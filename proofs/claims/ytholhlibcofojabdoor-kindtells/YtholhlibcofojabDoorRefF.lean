/-
  The walk of kinref1.Fields.
-/
import Derived.Test.YtholhlibcofojabDoorRefE
namespace Go.Proofs.YtholhlibcofojabDoor
open Go.RowKit
set_option linter.unusedVariables false
set_option linter.unusedSimpArgs false

/-- What Fields gives. -/
def RFPost (w : World) (o : Option (List Fd)) (e : Ending) (w' : World) : Prop :=
  ∃ v, e = .returned (.tuple #[v, .bool o.isSome]) ∧ (∀ l, o = some l → w'.ownsRow w.heap.size 59 4 v l.length (cellsF l)) ∧ (o = none → v = .slice none 0 0) ∧ Below w.heap.size w w'
/-- Between two rounds of the outer loop. -/
def FR2 (w1 : World) (K : List Kd) (o : Option (List Fd)) (s6 s8 : Value) (wr : World) : Prop :=
  ∃ (i : Nat) (al : List Fd), i ≤ K.length ∧ s8 = .int .i64 i ∧ o = fOf al ((K.drop i).flatMap Kd.fs) ∧ Srt al ∧ al.length ≤ 8 * i ∧ wr.ownsRow w1.heap.size 59 4 s6 al.length (cellsF al) ∧ Below w1.heap.size w1 wr
/-- .. of the inner one. -/
def FI2 (w1 : World) (K : List Kd) (o : Option (List Fd)) (i : Nat) (p : Kd) (s6 s10 : Value) (wr : World) : Prop :=
  ∃ (m : Nat) (al : List Fd), m ≤ p.fs.length ∧ s10 = .int .i64 m ∧ o = fOf al (p.fs.drop m ++ (K.drop (i + 1)).flatMap Kd.fs) ∧ Srt al ∧ al.length ≤ 8 * i + m ∧ wr.ownsRow w1.heap.size 59 4 s6 al.length (cellsF al) ∧ Below w1.heap.size w1 wr
theorem own_view {w : World} {base : Nat} {v : Value} {l : List Fd} (h : w.ownsRow base 59 4 v l.length (cellsF l)) : (v = .slice none 0 0 ∧ l = []) ∨ ∃ g c, v = .slice (some ⟨g, 0, none⟩) l.length c ∧ l.length ≤ c ∧ c ≤ maxLen ∧ base ≤ g ∧ g < w.heap.size ∧ LiesF w g 0 l := by
  have hF := own_isF h
  rcases h.2 with ⟨rfl, h0⟩ | ⟨g, c, cur, rfl, hb, hg, hle, hcm, _⟩
  · exact .inl ⟨rfl, List.eq_nil_of_length_eq_zero h0⟩
  · right
    rcases hF with ⟨ao, c', e, rfl, _⟩ | ⟨b', o', c', e, _, _, hlt, hl⟩
    · refine ⟨g, c, rfl, hle, hcm, hb, (Array.getElem?_eq_some_iff.1 hg).1, fun k f hf => by simp at hf⟩
    · injection e with e1 e2 e3
      injection e1 with e1
      injection e1 with e4 e5 _
      subst e4; subst e5
      exact ⟨g, c, rfl, hle, hcm, hb, hlt, hl⟩
theorem liesF_take {w : World} {b off : Nat} {l : List Fd} (h : LiesF w b off l) (t : Nat) : LiesF w b off (l.take t) := fun k f hf => by
  rw [List.getElem?_take] at hf
  split at hf
  · exact h k f hf
  · cases hf
theorem liesF_drop {w : World} {b off : Nat} {l : List Fd} (h : LiesF w b off l) (t : Nat) : LiesF w b (off + t * 4) (l.drop t) := fun k f hf => by
  rw [List.getElem?_drop] at hf
  have := h (t + k) f hf
  rw [show off + (t + k) * 4 = off + t * 4 + k * 4 by rw [Nat.add_mul]; omega] at this
  exact this
theorem LiesF.grown {w w' : World} {b off : Nat} {l : List Fd} {row : Option Nat} (h : LiesF w b off l) (hb : b < w.heap.size) (hg : w.grownBy w' row) (hne : some b ≠ row) : LiesF w' b off l := fun k f hf => by
  have e : w'.heap[b]? = w.heap[b]? := hg.block b hb hne
  obtain ⟨c0, c1, c2, c3⟩ := h k f hf
  exact ⟨(World.cell?_of_block (a := ⟨b, _, none⟩) e).trans c0, (World.cell?_of_block (a := ⟨b, _, none⟩) e).trans c1, (World.cell?_of_block (a := ⟨b, _, none⟩) e).trans c2, (World.cell?_of_block (a := ⟨b, _, none⟩) e).trans c3⟩
end Go.Proofs.YtholhlibcofojabDoor
