/-
  The walk of the law ValueTells, case by case.
-/
import Derived.Test.YtbcfecjhgmljcaaDoorTellsH
import Derived.Test.YtbcfecjhgmljcaaDoorTellsC
namespace Go.Proofs.YtbcfecjhgmljcaaDoor
open Go.RowKit
set_option linter.unusedVariables false
set_option linter.unusedSimpArgs false

theorem hndOn {w w' : World} (hg : Hnd w) (hb : Below w.heap.size w w') : Hnd w' := by
  have hlt : 0 < w.heap.size := by
    rcases Nat.eq_zero_or_pos w.heap.size with h0 | h
    · have hg' : w.cell? ⟨0, 0, none⟩ = _ := hg
      simp [World.cell?, h0] at hg'
    · exact h
  show w'.cell? ⟨0, 0, none⟩ = _
  rw [hb.cell (p := ⟨0, 0, none⟩) hlt]; exact hg
theorem base2 {w W : World} {a b : Obj} (h : Below ((w.alloc a).alloc b).heap.size ((w.alloc a).alloc b) W) : Below w.heap.size w W := below_two h
theorem base2a {w W : World} {a b o : Obj} (h : Below ((w.alloc a).alloc b).heap.size ((w.alloc a).alloc b) W) : Below w.heap.size w (W.alloc o) := (base2 h).alloc (base2 h).size _
/-- Error's answer where the number is the told one. -/
abbrev Same (x : Int) : Prop := ∀ w, Hnd w → Calls Tryd.prog 7 #[errV x, .int .i64 x] w fun e w' => e = .returned (.bool true) ∧ Below w.heap.size w w'

end Go.Proofs.YtbcfecjhgmljcaaDoor
