/-
  The walk of record.Unset.
-/
import Derived.Test.YtghlncdnnmpikaaGreatDoorUnA
import Derived.Deep.RegionWith
namespace Go.Proofs.YtghlncdnnmpikaaGreatDoor
open Go.RowKit
set_option linter.unusedVariables false
set_option linter.unusedSimpArgs false

theorem take_lies {w : World} {b off : Nat} {L : List Pr} (h : Lies w b off L) (i : Nat) : Lies w b off (L.take i) := fun k p hp => by
  refine h k p ?_
  rw [List.getElem?_take] at hp
  split at hp
  · exact hp
  · cases hp

/-- The call of slices.Concat. -/
theorem cat_call {w W1 : World} {b off cap j o2 c2 : Nat} {L : List Pr} (hL : Lies w b off L) (hb : b < w.heap.size) (hB : Below w.heap.size w W1) (ho : L.length = j + 1 ∨ o2 = off + (j + 1) * 4) (e1 : Hid ((L.take j).length = j ∧ (L.drop (j + 1)).length = L.length - (j + 1))) (hn : L.length ≤ 8) :
    Calls Tryz.prog 25 #[.slice (some ⟨W1.heap.size, 0, none⟩) 2 2] ((W1.alloc (.cells #[.slice (some ⟨b, off, none⟩) j cap, .slice (some ⟨b, o2, none⟩) (L.length - (j + 1)) c2] 23)).drew) fun e w' => ∃ v, e = .returned v ∧
      w'.ownsRow (W1.heap.size + 1) 27 4 v (L.take j ++ L.drop (j + 1)).length (cellsOf (L.take j ++ L.drop (j + 1))) ∧ Below (W1.heap.size + 1) ((W1.alloc (.cells #[.slice (some ⟨b, off, none⟩) j cap, .slice (some ⟨b, o2, none⟩) (L.length - (j + 1)) c2] 23)).drew) w' := by
  obtain ⟨h1, h2⟩ := e1.out
  have hbW : b < W1.heap.size := Nat.lt_of_lt_of_le hb hB.size
  have hBd := (b_alloc hB (.cells #[.slice (some ⟨b, off, none⟩) j cap, .slice (some ⟨b, o2, none⟩) (L.length - (j + 1)) c2] 23)).drew
  have := concat_two W1.heap.size ⟨b, off, none⟩ ⟨b, o2, none⟩ cap c2 (L.take j) (L.drop (j + 1)) ((W1.alloc (.cells #[.slice (some ⟨b, off, none⟩) j cap, .slice (some ⟨b, o2, none⟩) (L.length - (j + 1)) c2] 23)).drew)
    (by rw [List.length_take]; omega) (by omega) (by simp) (by simp; omega) (by simp; omega) (by rw [h1]; simp) (by rw [h2]; simp)
    (lies_cells ((take_lies hL j).on hb hBd))
    (by
      rcases ho with ho | rfl
      · intro i u hu
        rw [List.drop_eq_nil_of_le (by omega)] at hu
        simp [cellsOf] at hu
      · exact lies_cells ((hL.drop (j + 1)).on hb hBd))
  simpa using this
theorem un_below {w W1 W2 : World} {o : Obj} (hB1 : Below w.heap.size w W1) (hB2 : Below (W1.heap.size + 1) (W1.alloc o).drew W2) : Below w.heap.size w W2 :=
  ((b_alloc hB1 o).drew).trans (hB2.mono (by have := hB1.size; omega))

end Go.Proofs.YtghlncdnnmpikaaGreatDoor
