/-
  The walk of the law ValueTells, case by case.
-/
import Derived.Test.YtmgkdghkenpmbaaGreatDoorTellsH
import Derived.Test.YtmgkdghkenpmbaaGreatDoorTellsC
namespace Go.Proofs.YtmgkdghkenpmbaaGreatDoor
open Go.RowKit
set_option linter.unusedVariables false
set_option linter.unusedSimpArgs false

theorem hndOn {w w' : World} (hg : Hnd w) (hb : Below w.heap.size w w') : Hnd w' := by
  have hlt : 1 < w.heap.size := by
    rcases Nat.lt_or_ge 1 w.heap.size with h | h
    · exact h
    · have hg' : w.cell? ⟨1, 0, none⟩ = _ := hg
      simp [World.cell?, Array.getElem?_eq_none h] at hg'
  show w'.cell? ⟨1, 0, none⟩ = _
  rw [hb.cell (p := ⟨1, 0, none⟩) hlt]; exact hg
theorem base2 {w W : World} {a b : Obj} (h : Below ((w.alloc a).alloc b).heap.size ((w.alloc a).alloc b) W) : Below w.heap.size w W := below_two h
theorem base2a {w W : World} {a b o : Obj} (h : Below ((w.alloc a).alloc b).heap.size ((w.alloc a).alloc b) W) : Below w.heap.size w (W.alloc o) := (base2 h).alloc (base2 h).size _
/-- Error's answer where the number is the told one. -/
abbrev Same (x : Int) : Prop := ∀ w, Hnd w → Calls Tryz.prog 9 #[errV x, .int .i64 x] w fun e w' => e = .returned (.bool true) ∧ Below w.heap.size w w'

end Go.Proofs.YtmgkdghkenpmbaaGreatDoor
