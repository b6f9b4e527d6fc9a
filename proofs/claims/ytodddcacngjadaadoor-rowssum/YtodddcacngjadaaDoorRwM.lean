/-
  The nodes of rows: the walk of nodesAt, along a row of nodes.
-/
import Derived.Test.YtodddcacngjadaaDoorRwC
import Derived.Test.YtodddcacngjadaaDoorMapM
import Derived.Test.YtodddcacngjadaaDoorFulB
namespace Go.Proofs.YtodddcacngjadaaDoor
open Go.RowKit
open Go.Maps (Keyed)
set_option linter.unusedVariables false
set_option linter.unusedSimpArgs false

def encI (n : Int) : Value := .int .i64 n
theorem encI_inj : ∀ x y, encI x = encI y → x = y := fun x y h => by simpa [encI] using h
theorem keyedI : Keyed Tryd.prog 3 := Go.Maps.int_keyed Tryd.underlying3
theorem zero47 (w : World) : (zeroValue 47).run Tryd.prog w = .ok (.agg #[.int .i64 0, .string ⟨#[]⟩, .slice none 0 0]) w := by kernel_rfl
theorem keyI {n : Int} (h1 : -9223372036854775808 ≤ n) (h2 : n ≤ 9223372036854775807) : ∃ l, keyOf Tryd.prog 3 (encI n) = some l := by
  refine ⟨_, Go.Maps.keyOf_int_mk Tryd.underlying3 ?_⟩
  have e1 : IntKind.i64.min = -9223372036854775808 := by decide
  have e2 : IntKind.i64.max = 9223372036854775807 := by decide
  simp [Lit.wf, e1, e2]
  omega
/-- The map of a row of nodes, of the first k. -/
def mapN (N : List Nd) (k : Nat) : Int → Option Value := fun x => if 1 ≤ x ∧ x ≤ (k : Int) then (N[(x - 1).toNat]?).map Nd.one else none
theorem mapN_zero (N : List Nd) : mapN N 0 = fun _ => none := by
  funext x; unfold mapN; rw [if_neg (by omega)]
theorem mapN_up {N : List Nd} {k : Nat} {x : Nd} (hx : N[k]? = some x) : upd (mapN N k) ((k : Int) + 1) x.one = mapN N (k + 1) := by
  funext y
  unfold upd mapN
  by_cases h : y = (k : Int) + 1
  · rw [if_pos h, if_pos (by omega), h, show ((k : Int) + 1 - 1).toNat = k by omega, hx]; rfl
  · rw [if_neg h]
    by_cases h2 : 1 ≤ y ∧ y ≤ (k : Int)
    · rw [if_pos h2, if_pos (by omega)]
    · rw [if_neg h2, if_neg (by omega)]
theorem mapN_at {N : List Nd} {k : Nat} {x : Nd} (hx : N[k]? = some x) : mapN N N.length ((k : Int) + 1) = some x.one := by
  have := (List.getElem?_eq_some_iff.1 hx).1
  unfold mapN
  rw [if_pos (by omega), show ((k : Int) + 1 - 1).toNat = k by omega, hx]; rfl
theorem Kt.of_map {t : TypeId} {κ : Type} {k : TypeId} {enc : κ → Value} {b : Nat} {F : κ → Option Value} {w w' : World} (h : OwnM w Tryd.prog k enc b F) (hg : w.grownBy w' (some b)) : Kt t w w' := by
  obtain ⟨es, c, hm, _⟩ := h
  exact ⟨hg.size, fun x cs hx => (hg.block x (Array.getElem?_eq_some_iff.1 hx).1 (fun e => by injection e with e; subst e; rw [hm] at hx; cases hx)).trans hx⟩

/-- Rows of a node twice, one by one. -/
def LiesW (w : World) (b off n : Nat) : Prop := ∀ k, k < n → ∃ g, w.cell? ⟨b, off + k, none⟩ = some (.slice (some ⟨g, 0, none⟩) 2 2) ∧ g < w.heap.size ∧ w.cell? ⟨g, 0, none⟩ = some (.int .i64 ((k : Int) + 1)) ∧ w.cell? ⟨g, 1, none⟩ = some (.int .i64 ((k : Int) + 1))
def IsW (w : World) (v : Value) (n : Nat) : Prop := ∃ ao c, v = .slice ao n c ∧ (n = 0 ∨ ∃ b off, ao = some ⟨b, off, none⟩ ∧ b < w.heap.size ∧ LiesW w b off n)
theorem LiesW.on {w w' : World} {b off n : Nat} (h : LiesW w b off n) (hb : b < w.heap.size) (hB : Below w.heap.size w w') : LiesW w' b off n := fun k hk => by
  obtain ⟨g, c0, hg, c1, c2⟩ := h k hk
  exact ⟨g, (hB.cell hb).trans c0, Nat.lt_of_lt_of_le hg hB.size, (hB.cell hg).trans c1, (hB.cell hg).trans c2⟩
theorem IsW.on {w w' : World} {v : Value} {n : Nat} (h : IsW w v n) (hB : Below w.heap.size w w') : IsW w' v n := by
  obtain ⟨ao, c, rfl, h0 | ⟨b, off, rfl, hb, hL⟩⟩ := h
  · exact ⟨ao, c, rfl, .inl h0⟩
  · exact ⟨_, c, rfl, .inr ⟨b, off, rfl, Nat.lt_of_lt_of_le hb hB.size, hL.on hb hB⟩⟩
/-- Below the map all stays. -/
theorem below_map {w wr : World} {b : Nat} (hb : w.heap.size ≤ b) (h : (w.alloc (.map #[] 0)).grownBy wr (some b)) : Below w.heap.size w wr :=
  ⟨h.os, h.tape, h.output, by have := h.size; simp at this; omega, fun k hk => (h.block k (by simp; omega) (fun e => by injection e with e; omega)).trans (heap_alloc_old _ _ hk)⟩

/-- Between two rounds of the first loop. -/
def NaI (w : World) (N : List Nd) (i : Value) (wr : World) : Prop := ∃ k : Nat, k ≤ N.length ∧ i = .int .i64 (k : Int) ∧ OwnM wr Tryd.prog 3 encI w.heap.size (mapN N k) ∧ (w.alloc (.map #[] 0)).grownBy wr (some w.heap.size)
theorem naI_on {w : World} {N : List Nd} {k : Nat} {wr W w7 : World} {x : Nd} (hx : N[k]? = some x) (hk : k < N.length) (hM : OwnM W Tryd.prog 3 encI w.heap.size (mapN N k)) (hg : (w.alloc (.map #[] 0)).grownBy wr (some w.heap.size)) (hB : Below wr.heap.size wr W)
    (r2 : OwnM w7 Tryd.prog 3 encI w.heap.size (upd (mapN N k) ((k : Int) + 1) x.one)) (r3 : W.grownBy w7 (some w.heap.size)) : NaI w N (.int .i64 ((k : Int) + 1)) w7 :=
  ⟨k + 1, hk, by simp, by rw [← mapN_up hx]; exact r2, grown_trans (grown_trans hg (grown_of_below hB _)) r3⟩
end Go.Proofs.YtodddcacngjadaaDoor
