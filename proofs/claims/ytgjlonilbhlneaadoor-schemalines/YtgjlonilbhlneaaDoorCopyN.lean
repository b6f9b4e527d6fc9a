/-
  copy between slices whose elements have several cells; a row with one element more: laws of no program.
-/
import Derived.WalkKit
import Derived.Lib.Walk
import Derived.Laws.AppendOwn
import Derived.Laws.CopyOwn
import Derived.Lib.AppendZerosOnto
import Derived.Lib.Overlaps
import Derived.Laws.NewBlocks
namespace Go.Proofs.YtgjlonilbhlneaaDoor
open Go.RowKit Go.Lib
set_option linter.unusedVariables false
set_option linter.unusedSimpArgs false

theorem run_copy_rowN {P : Program} (w : World) (dT sT ty elem : TypeId) (size g o dLen dCap : Nat) (a : Addr) (sLen sCap : Nat) (cur : Array Value) (t : TypeId) (cs : List Value) (k : Nat)
    (hu : P.underlying dT = some (.slice elem)) (hs : (P.info? elem).map (·.size) = some size)
    (hg : w.heap[g]? = some (.cells cur t (0, 0))) (hk : Nat.min sLen dLen = k) (hn : cs.length = k * size)
    (hsrc : ∀ j v, cs[j]? = some v → w.cell? (a.add j) = some v) (hfit : o + cs.length ≤ cur.size) (h1 : ∀ v ∈ cs, v.oneCell' = true) :
    (Builtin.copy_ #[dT, sT] ty #[.slice (some ⟨g, o, none⟩) dLen dCap, .slice (some a) sLen sCap]).run P w =
      .ok (goInt k) (w.setRow g (cur.toList.take o ++ cs ++ cur.toList.drop (o + cs.length)).toArray) := by
  have hl := run_loadCells_list (P := P) w a cs hsrc
  have hst := run_storeCells_at P g o t cs 0 cur w hg (by simpa using hfit) h1
  cases hq : P.info? elem with
  | none => simp [hq] at hs
  | some i =>
    have hi : i.size = size := by simpa [hq] using hs
    simp [Builtin.copy_, run_underlying hu, Builtin.lenOf, Builtin.firstCells, sizeOf, typeInfo, hq, hi, hk, ← hn, hl, hst]

theorem wp_copy_runN {P : Program} (w : World) {o : Oper} {a : Act} {K : Act → World → Prop} {Q : Exit → Act → World → Prop} (d s : Operand) (t t' : TypeId)
    (ho : o.op = .call { callee := .builtin .copy, args := #[d, s], argTypes := #[t, t'] }) (v u : Value) (hd : a.eval d = v) (hs : a.eval s = u) {v' : Value} {w' : World}
    (hr : (Builtin.copy_ #[t, t'] o.type #[v, u]).run P w = .ok v' w') (h : K (a.put o.dst v') w') : o.wp P a w K Q := by
  unfold Oper.wp execOp
  simp only [ho, resolve, invoke, builtin, Sem.run_bind, Sem.run_pure, Result.andThen_ok, List.map_toArray, List.map_cons, List.map_nil, hd, hs, hr]
  exact h
theorem wpList_copy_runN {P : Program} (w : World) {ops : Array Oper} {rest : List Oper} {o : Oper} {a : Act} {Q : Exit → Act → World → Prop} (hgd : o.guard = none) (d s : Operand) (t t' : TypeId)
    (ho : o.op = .call { callee := .builtin .copy, args := #[d, s], argTypes := #[t, t'] }) (v u : Value) (hd : a.eval d = v) (hs : a.eval s = u) {v' : Value} {w' : World}
    (hr : (Builtin.copy_ #[t, t'] o.type #[v, u]).run P w = .ok v' w') (h : wpList P ops Q rest (a.put o.dst v') w') : wpList P ops Q (o :: rest) a w :=
  wpList_plain hgd fun _ hK => wp_copy_runN w d s t t' ho v u hd hs hr (hK _ _ h)
theorem step_copy_runN {P : Program} {ops : Array Oper} {o : Oper} {a : Act} {w : World} {K : Act → World → Prop} {Q : Exit → Act → World → Prop} {E : Prop}
    (hg : o.guard = none) (d x : Operand) (dT sT : TypeId) (hop : o.op = Op.call { callee := Callee.builtin Builtin.copy, args := #[d, x], argTypes := #[dT, sT] })
    (v u : Value) (hd : a.eval d = v) (hx : a.eval x = u) {v' : Value} {w' : World} (hr : (Builtin.copy_ #[dT, sT] o.type #[v, u]).run P w = .ok v' w') (hK : K (a.put o.dst v') w') :
    if Region.wanted o (yielded ops a.tmps) = true then Oper.wp P o a w K Q else E := by
  have hw : Region.wanted o (yielded ops a.tmps) = true := by simp [Region.wanted, hg]
  rw [if_pos hw]
  exact wp_copy_runN w d x dT sT hop v u hd hx hr hK

/-- The row behind one copy. -/
def lay (l : List Value) (o : Nat) (cs : List Value) : List Value := l.take o ++ cs ++ l.drop (o + cs.length)
theorem lay_len {l : List Value} {o : Nat} {cs : List Value} (h : o + cs.length ≤ l.length) : (lay l o cs).length = l.length := by simp [lay]; omega
/-- Room is there: what stands behind moves up, then the new one is laid. -/
theorem lay_room (l xs ys zs new : List Value) (hl : l = xs ++ ys ++ zs) (hz : new.length ≤ zs.length) :
    (lay (lay l (xs.length + new.length) ys) xs.length new).take (xs.length + new.length + ys.length) = xs ++ new ++ ys := by
  subst hl
  have e1 : (lay (xs ++ ys ++ zs) (xs.length + new.length) ys) = (xs ++ (ys ++ zs)).take (xs.length + new.length) ++ (ys ++ (xs ++ (ys ++ zs)).drop (xs.length + new.length + ys.length)) := by simp [lay]
  obtain ⟨u, hu, hul⟩ : ∃ u, (xs ++ (ys ++ zs)).take (xs.length + new.length) = xs ++ u ∧ u.length = new.length := ⟨(ys ++ zs).take new.length, by rw [List.take_append, List.take_of_length_le (by omega)]; congr 2; omega, by simp; omega⟩
  obtain ⟨t, ht⟩ : ∃ t, (xs ++ (ys ++ zs)).drop (xs.length + new.length + ys.length) = t := ⟨_, rfl⟩
  rw [e1, hu, ht]
  have e3 : lay (xs ++ u ++ (ys ++ t)) xs.length new = (xs ++ new ++ ys) ++ t := by
    unfold lay
    have h1 : (xs ++ u ++ (ys ++ t)).take xs.length = xs := by rw [show xs ++ u ++ (ys ++ t) = xs ++ (u ++ (ys ++ t)) by simp]; exact List.take_left
    have h2 : (xs ++ u ++ (ys ++ t)).drop (xs.length + new.length) = ys ++ t := List.drop_left' (by simp; omega)
    rw [h1, h2]; simp
  rw [e3]
  exact List.take_left' (by simp; omega)
/-- A new row: the new one, then what stood behind. -/
theorem lay_grow (xs ys new zs : List Value) (hz : zs.length = new.length + ys.length) (t : List Value) :
    (lay (lay (xs ++ zs ++ t) xs.length new) (xs.length + new.length) ys).take (xs.length + new.length + ys.length) = xs ++ new ++ ys := by
  have e1 : lay (xs ++ zs ++ t) xs.length new = (xs ++ new) ++ (zs ++ t).drop new.length := by
    unfold lay
    rw [show xs ++ zs ++ t = xs ++ (zs ++ t) by simp, List.take_left, List.drop_append, List.drop_of_length_le (by omega)]
    simp
  rw [e1]
  unfold lay
  rw [show (xs ++ new ++ (zs ++ t).drop new.length).take (xs.length + new.length) = xs ++ new from List.take_left' (by simp)]
  exact List.take_left' (by simp; omega)

end Go.Proofs.YtgjlonilbhlneaaDoor
