/-
  What the walk of the law ValueBack says of its calls and of memory.
-/
import Derived.Test.YtmgkdghkenpmbaaGreatDoorBackM
namespace Go.Proofs.YtmgkdghkenpmbaaGreatDoor
open Go.RowKit
set_option linter.unusedVariables false
set_option linter.unusedSimpArgs false

/-- Returns this, and nothing that was there turns. -/
abbrev Gives (f : Nat) (args : Array Value) (v : Value) : Prop := ∀ w, Calls Tryz.prog f args w fun e w' => e = .returned v ∧ Below w.heap.size w w'
/-- Returns this where the library's table is as it was laid, and nothing that was there turns. -/
abbrev GivesT (f : Nat) (args : Array Value) (v : Value) : Prop := ∀ w, Tab w → Calls Tryz.prog f args w fun e w' => e = .returned v ∧ Below w.heap.size w w'
/-- A value. -/
abbrev agg (t n : Int) (s : ByteArray) : Value := .agg #[.int .i64 t, .int .i64 n, .string s]

theorem tabOn {w w' : World} (hT : Tab w) (hb : Below w.heap.size w w') : Tab w' := Lib.tabBelow_of_tabIs hT w' hb
theorem on1 {W0 W W' : World} (hK : Below W0.heap.size W0 W) (hb : Below W.heap.size W W') : Below W0.heap.size W0 W' := hK.trans (hb.mono hK.size)
theorem on2 {W0 W W' : World} {o : Obj} (hK : Below W0.heap.size W0 W) (hb : Below (W.alloc o).heap.size (W.alloc o) W') : Below W0.heap.size W0 W' :=
  on1 hK (below_one hb)
theorem base3 {w W : World} {a b c : Obj} (h : Below (((w.alloc a).alloc b).alloc c).heap.size (((w.alloc a).alloc b).alloc c) W) : Below w.heap.size w W := below_one (below_two h)
theorem base3a {w W : World} {a b c o : Obj} (h : Below (((w.alloc a).alloc b).alloc c).heap.size (((w.alloc a).alloc b).alloc c) W) : Below w.heap.size w (W.alloc o) := (base3 h).alloc (base3 h).size _
theorem lt_three {w W1 : World} {a b c : Obj} (h : Below (((w.alloc a).alloc b).alloc c).heap.size (((w.alloc a).alloc b).alloc c) W1) : w.heap.size < W1.heap.size ∧ w.heap.size + 1 < W1.heap.size ∧ w.heap.size + 1 + 1 < W1.heap.size := by
  have := h.size
  simp at this
  omega
theorem fact_any : Gives 84 #[.string ⟨#[39, 105, 116, 39, 39, 115, 39]⟩] (.tuple #[agg 3 0 ⟨#[105, 116, 39, 115]⟩, .nilIface]) := fun w =>
  parse_any ⟨#[39, 105, 116, 39, 39, 115, 39]⟩ w (by decide)

end Go.Proofs.YtmgkdghkenpmbaaGreatDoor
