/-
  The document's text of a path, in plain functions.
-/
import Derived.Test.YtmgkdghkenpmbaaGreatDoorKpB
namespace Go.Proofs.YtmgkdghkenpmbaaGreatDoor
open Go.RowKit
set_option linter.unusedVariables false
set_option linter.unusedSimpArgs false

/-- Tests, one behind the other, up to the last. -/
def tq : Bool → List Tst → Nm
  | _, [] => []
  | f, x :: r => (if f = true then 91 else 44) :: (tstT x ++ tq false r)
/-- What stands ahead of a step. -/
def tb (f : Bool) (p : St) : Nm := if f = true then [] else 32 :: (bdT p ++ [32])
def txs : Bool → List St → Nm
  | _, [] => []
  | f, p :: l => tb f p ++ kdT p ++ txs false l
/-- What stands behind the tests. -/
def tend (l : List Tst) : Nm := if l = [] then [] else [93]
theorem tq_join (l : List Tst) : ∀ x, Lib.join ((x :: l).map tstT) [44] = tstT x ++ tq false l := by
  induction l with
  | nil => intro x; simp [Lib.join, tq]
  | cons y r ih =>
    intro x
    have := ih y
    simp only [List.map_cons] at this ⊢
    rw [join_two, this]; simp [tq]
theorem tsT_tq (l : List Tst) : tsT l = tq true l ++ tend l := by
  cases l with
  | nil => rfl
  | cons x r => rw [tsT_ne (by simp), tq_join]; simp [tq, tend]
theorem restT_txs (l : List St) : restT l = txs false l := by
  induction l with
  | nil => rfl
  | cons p l ih => rw [restT, ih]; simp [txs, tb]
theorem askT_txs (l : List St) : askT l = txs true l := by
  cases l with
  | nil => rfl
  | cons p l => rw [askT_cons, restT_txs]; simp [txs, tb]
theorem tq_drop {L : List Tst} {k : Nat} {x : Tst} (hx : L[k]? = some x) (f : Bool) : tq f (L.drop k) = (if f = true then 91 else 44) :: (tstT x ++ tq false (L.drop (k + 1))) := by
  rw [tsP_drop hx]; rfl
theorem txs_drop {L : List Sp} {k : Nat} {x : Sp} (hx : L[k]? = some x) (f : Bool) : txs f ((L.map Sp.st).drop k) = tb f x.st ++ kdT x.st ++ txs false ((L.map Sp.st).drop (k + 1)) := by
  obtain ⟨h1, h2⟩ := List.getElem?_eq_some_iff.1 hx
  rw [← h2, List.drop_eq_getElem_cons (by simpa using h1), List.getElem_map, txs]
theorem showB (t n : Int) (l : Nm) (h : vErr t n l = 0) (w : World) : Calls Tryz.prog 21 #[.agg #[.int .i64 t, .int .i64 n, .string (bs l)]] w fun e w' => e = .returned (.string (bs (showL t n l))) ∧ Below w.heap.size w w' := by
  have := show_any t n (bs l) (by rw [bs_data]; exact h) w
  rw [bs_data] at this
  exact this
end Go.Proofs.YtmgkdghkenpmbaaGreatDoor
