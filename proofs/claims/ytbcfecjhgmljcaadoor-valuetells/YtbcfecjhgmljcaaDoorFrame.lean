/-
  What the rows of this program have in common: a value as a parameter, and what the library's table of powers of ten holds.
-/
import Derived.Test.YtbcfecjhgmljcaaDoorRows
import Derived.Test.YtbcfecjhgmljcaaDoorBackD
import Derived.ProofKit
import Derived.LaidMore
import Derived.OpenShut
import Derived.ShutString
import Derived.ChangeMaps5
import Derived.Stop.Joined
import Derived.Stop.LaidErr
import Derived.Lib.SmallJoins
import Derived.Carry
import Derived.SizedLaws
import Derived.MakeChecks
namespace Go.Proofs.YtbcfecjhgmljcaaDoor
open Go.ChangeShapes Go.WideShapes Go.ChangeAt Go.RowKit Go.Joins
open Go.ChangeMaps (open_string shut_string)
set_option linter.unusedVariables false
set_option linter.unusedSimpArgs false

theorem own : ownKnob Tryd.prog.godebug = none := by kernel_rfl
theorem tabNamed : Tryd.prog.globalNamed "internal/strconv.uint64pow10" = some 2 := by kernel_rfl
theorem tabType : (Tryd.prog.globals[2]?).map (·.type) = some 115 := by kernel_rfl
theorem cells23 : Tryd.prog.cellsOf 23 = 3 := by kernel_rfl
theorem tabData_eq : (Rows.laid_internal_strconv_uint64pow10 : DataW Unit) = Lib.tabData .u64 Lib.pow10Tab := by kernel_rfl
/-- The table, where it stands first on the list. -/
theorem tab_of {W : World} {rest : List (String × DataW Unit)} (h : laidMet Tryd.prog (("internal/strconv.uint64pow10", Rows.laid_internal_strconv_uint64pow10) :: rest) W) : Tab W := by
  rw [tabData_eq] at h
  exact Lib.tabIs_of_head tabNamed tabType Tryd.underlying115 Tryd.underlying100 (by kernel_rfl) (by kernel_rfl) h

section
variable {H : Type} {enc : TypeId × Value → H}
/-- A value as a datum. -/
def valD {H : Type} (t n : Int) (l : List UInt8) : DataW H := .agg [.lit (.int .i64 t), .lit (.int .i64 n), .lit (.string l)]
set_option maxRecDepth 100000 in
/-- A value, read. -/
theorem valReads (W : World) (b : Nat) (sp : Nat → Bool) (hd : Bool) (t n : Int) (s : ByteArray) (wt : (Lit.int .i64 t).wf = true) (wn : (Lit.int .i64 n).wf = true) (ws : s.size ≤ maxLen) :
    DataW.Trod enc Tryd.prog W b sp hd 23 (agg t n s) (valD t n s.data.toList) [] := by
  have hS : ∃ m, DataW.trod enc Tryd.prog W b sp hd m 9 [.string s] = some (.lit (.string s.data.toList), []) := by
    obtain ⟨m, hm⟩ := (shut_string (enc := enc) (w := W) (base := b) (sp := sp) (held := hd) Tryd.underlying9 ws)
    exact ⟨m, by simpa [Value.cells] using hm⟩
  simpa [valD] using shut_agg3 (enc := enc) (w := W) (base := b) (spare := sp) (held := hd) (y0 := (.lit (.int .i64 t), [])) (y1 := (.lit (.int .i64 n), [])) (y2 := (.lit (.string s.data.toList), [])) Tryd.underlying23 (by kernel_rfl) cells23 ⟨1, by simp [DataW.trod, Tryd.underlying3, wt]⟩ ⟨1, by simp [DataW.trod, Tryd.underlying3, wn]⟩ hS
set_option maxRecDepth 100000 in
/-- A value that came in. -/
theorem open_val {W : World} {r : Reach} {b0 b : Nat} {sp : Nat → Bool} {hd : Bool} {v : Value} {d : DataW H} {p : List MemPlace} (hv : Value.okWide Tryd.prog W r b0 23 v) (h : DataW.Trod enc Tryd.prog W b sp hd 23 v d p) :
    ∃ (t n : Int) (s : ByteArray), v = agg t n s ∧ d = valD t n s.data.toList ∧ p = [] ∧ (Lit.int .i64 t).wf = true ∧ (Lit.int .i64 n).wf = true ∧ s.size ≤ maxLen := by
  obtain ⟨c0, c1, c2, y0, y1, y2, m, rfl, rfl, rfl, hy0, hy1, hy2⟩ := open_agg3 Tryd.underlying23 (by kernel_rfl) cells23 hv h
  obtain ⟨x, e0, rfl, wx⟩ := DataW.trod_int Tryd.underlying3 hy0
  obtain ⟨y, e1, rfl, wy⟩ := DataW.trod_int Tryd.underlying3 hy1
  obtain ⟨s, e2, rfl, ws⟩ := DataW.trod_string Tryd.underlying9 hy2
  simp at e0 e1 e2
  subst e0 e1 e2
  exact ⟨x, y, s, rfl, rfl, rfl, wx, wy, ws⟩
end
end Go.Proofs.YtbcfecjhgmljcaaDoor
