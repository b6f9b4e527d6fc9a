/-
  Small laws on memory, of no program: what lay stays; rows that a call made.
-/
import Derived.WalkKit
import Derived.Lib.Walk
import Derived.Laws.OwnMore
import Derived.Laws.AppendOwn
import Derived.Laws.NewBlocks
import Derived.OwnWalk
import Derived.Deep.QuietTactic
namespace Go.Proofs.Ytkgblicmkijpdaa
open Go.RowKit
set_option linter.unusedVariables false
set_option linter.unusedSimpArgs false

theorem b_allocK {B : Nat} {w w' : World} (h : Below B w w') (hB : B ≤ w.heap.size) (o : Obj) : Below B w (w'.alloc o) := h.alloc (Nat.le_trans hB h.size) o
theorem on1K {B : Nat} {w w1 w2 : World} (h1 : Below B w w1) (h2 : Below w1.heap.size w1 w2) (hB : B ≤ w.heap.size) : Below B w w2 := h1.trans (h2.mono (Nat.le_trans hB h1.size))
theorem b_drewK {B : Nat} {a w : World} (h : Below B a w) : ∀ n, Below B a (w.drewN n) := fun n => ⟨h.os, h.tape, h.output, h.size, h.block⟩
theorem own_slice {w : World} {base : Nat} {e : TypeId} {size : Nat} {v : Value} {n : Nat} {xs : List Value} (h : w.ownsRow base e size v n xs) : ∃ ao cp, v = .slice ao n cp := by
  rcases h.2 with ⟨rfl, rfl⟩ | ⟨g, cap, cur, rfl, _⟩
  · exact ⟨none, 0, rfl⟩
  · exact ⟨_, _, rfl⟩
theorem own_base {w : World} {base base' : Nat} {e : TypeId} {size : Nat} {v : Value} {n : Nat} {xs : List Value} (h : w.ownsRow base e size v n xs) (hb : base' ≤ base) : w.ownsRow base' e size v n xs := by
  refine ⟨h.1, ?_⟩
  rcases h.2 with h | ⟨g, cap, cur, hv, hg, rest⟩
  · exact .inl h
  · exact .inr ⟨g, cap, cur, hv, Nat.le_trans hb hg, rest⟩
/-- Rows of other elements lie in other blocks. -/
theorem own_apart {w : World} {base base' : Nat} {e e' : TypeId} {size size' : Nat} {v v' : Value} {n n' : Nat} {xs xs' : List Value} (h : w.ownsRow base e size v n xs) (h' : w.ownsRow base' e' size' v' n' xs') (hne : e ≠ e') :
    v.ownBlock = none ∨ v.ownBlock ≠ v'.ownBlock := by
  rcases h.2 with ⟨rfl, _⟩ | ⟨g, cap, cur, rfl, hb, hg, _⟩
  · exact .inl rfl
  · right
    rcases h'.2 with ⟨rfl, _⟩ | ⟨g', cap', cur', rfl, hb', hg', _⟩
    · intro h; cases h
    · intro e1
      have e2 : g = g' := by simpa [Value.ownBlock] using e1
      subst e2
      rw [hg] at hg'
      injection hg' with e3
      injection e3 with _ e4
      exact hne e4
theorem new_at (w : World) (l : List Value) (e : TypeId) : ∀ j u, l[j]? = some u → (w.alloc (.cells l.toArray e)).cell? ((⟨w.heap.size, 0, none⟩ : Addr).add j) = some u := by
  intro j u hu
  rw [Addr.add_lit, Nat.zero_add, World.cell?_alloc_at (w := w) l.toArray e w.heap.size j rfl]
  simpa using hu
theorem cell_at {w : World} {b i : Nat} {cs : Array Value} {t : TypeId} {u : Value} (h : w.heap[b]? = some (.cells cs t (0, 0))) (hu : cs[i]? = some u) : w.cell? ⟨b, i, none⟩ = some u := by simp [World.cell?, h, hu]
theorem frz_at {w : World} {b i : Nat} {cs : Array Value} {t : TypeId} (h : w.heap[b]? = some (.cells cs t (0, 0))) : w.frozen? ⟨b, i, none⟩ = false := by simp [World.frozen?, h]
theorem cell_lt {w : World} {a : Addr} {v : Value} (h : w.cell? a = some v) : a.block < w.heap.size := by
  unfold World.cell? at h
  rcases hb : w.heap[a.block]? with _ | o
  · rw [hb] at h; cases h
  · exact (Array.getElem?_eq_some_iff.1 hb).1

/-- The blocks of one element stay. -/
def Kt (t : TypeId) (w w' : World) : Prop := w.heap.size ≤ w'.heap.size ∧ ∀ (b : Nat) (cs : Array Value), w.heap[b]? = some (.cells cs t (0, 0)) → w'.heap[b]? = some (.cells cs t (0, 0))
theorem Kt.refl (t : TypeId) (w : World) : Kt t w w := ⟨Nat.le_refl _, fun _ _ h => h⟩
theorem Kt.trans {t : TypeId} {a b c : World} (h : Kt t a b) (k : Kt t b c) : Kt t a c := ⟨Nat.le_trans h.1 k.1, fun x cs hx => k.2 x cs (h.2 x cs hx)⟩
theorem Kt.of_below {t : TypeId} {w w' : World} (h : Below w.heap.size w w') : Kt t w w' := ⟨h.size, fun b cs hb => (h.block b (Array.getElem?_eq_some_iff.1 hb).1).trans hb⟩
/-- A block of another element was written to. -/
theorem Kt.of_grown {t t' : TypeId} {w w' : World} {g : Nat} {cs : Array Value} (hg : w.heap[g]? = some (.cells cs t' (0, 0))) (hne : t' ≠ t) (h : w.grownBy w' (some g)) : Kt t w w' :=
  ⟨h.size, fun b ds hb => (h.block b (Array.getElem?_eq_some_iff.1 hb).1 (fun e => by
    injection e with e; subst e; rw [hg] at hb; injection hb with e3; injection e3 with _ e4; exact hne e4)).trans hb⟩
theorem Kt.of_row {t : TypeId} {w w' : World} (h : w.grownBy w' none) : Kt t w w' := ⟨h.size, fun b ds hb => (h.block b (Array.getElem?_eq_some_iff.1 hb).1 (by simp)).trans hb⟩
/-- A row of another element was written to. -/
theorem Kt.of_own {t e : TypeId} {w w' : World} {base size n : Nat} {v : Value} {xs : List Value} (ho : w.ownsRow base e size v n xs) (hne : e ≠ t) (h : w.grownBy w' v.ownBlock) : Kt t w w' := by
  rcases ho.2 with ⟨rfl, _⟩ | ⟨g, cap, cur, rfl, _, hg, _⟩
  · exact .of_row h
  · exact .of_grown hg hne h
theorem Kt.drew {t : TypeId} {a w : World} (h : Kt t a w) : Kt t a w.drew := h
theorem Kt.alloc {t : TypeId} {a w : World} (h : Kt t a w) (o : Obj) : Kt t a (w.alloc o) := h.trans (.of_below ((Below.refl _ w).alloc (Nat.le_refl _) o))
theorem Kt.set {t t' : TypeId} {a w : World} (h : Kt t a w) {g : Nat} {cs : Array Value} (hg : w.heap[g]? = some (.cells cs t' (0, 0))) (hne : t' ≠ t) (i : Nat) (u : Value) : Kt t a (w.setCell ⟨g, i, none⟩ u) :=
  h.trans ⟨by simp, fun b ds hb => (heap_setCell_other w ⟨g, i, none⟩ b u (fun e => by
    simp only at e; subst e; rw [hg] at hb; injection hb with e3; injection e3 with _ e4; exact hne e4)).trans hb⟩
theorem own_kt {w w' : World} {base : Nat} {e : TypeId} {size : Nat} {v : Value} {n : Nat} {xs : List Value} (h : w.ownsRow base e size v n xs) (hk : Kt e w w') : w'.ownsRow base e size v n xs := by
  refine ⟨h.1, ?_⟩
  rcases h.2 with h | ⟨g, cap, cur, hv, hg, hh, rest⟩
  · exact .inl h
  · exact .inr ⟨g, cap, cur, hv, hg, hk.2 g cur hh, rest⟩
theorem grown_trans {a b c : World} {r : Option Nat} (h : a.grownBy b r) (k : b.grownBy c r) : a.grownBy c r :=
  ⟨k.os.trans h.os, k.tape.trans h.tape, k.output.trans h.output, Nat.le_trans h.size k.size, fun x hx hne => (k.block x (Nat.lt_of_lt_of_le hx h.size) hne).trans (h.block x hx hne)⟩
theorem grown_of_below {a b : World} (h : Below a.heap.size a b) (r : Option Nat) : a.grownBy b r := ⟨h.os, h.tape, h.output, h.size, fun k hk _ => h.block k hk⟩
theorem below_grown {B : Nat} {w0 w w' : World} {r : Option Nat} (h : Below B w0 w) (hg : w.grownBy w' r) (hB : B ≤ w.heap.size) (hr : ∀ k, r = some k → B ≤ k) : Below B w0 w' :=
  ⟨hg.os.trans h.os, hg.tape.trans h.tape, hg.output.trans h.output, Nat.le_trans h.size hg.size, fun k hk => (hg.block k (Nat.lt_of_lt_of_le hk hB) (fun e => by have := hr k e.symm; omega)).trans (h.block k hk)⟩
/-- A block of one element. -/
def Ty (w : World) (g : Nat) (t : TypeId) : Prop := ∃ cs : Array Value, w.heap[g]? = some (.cells cs t (0, 0))
theorem Ty.set {w : World} {g : Nat} {t : TypeId} (h : Ty w g t) (b i : Nat) (u : Value) : Ty (w.setCell ⟨b, i, none⟩ u) g t := by
  obtain ⟨cs, hc⟩ := h
  by_cases e : g = b
  · subst e
    exact ⟨_, heap_setCell_same w g i cs t u hc⟩
  · exact ⟨cs, (heap_setCell_other w ⟨b, i, none⟩ g u e).trans hc⟩
theorem Ty.below {w w' : World} {g : Nat} {t : TypeId} (h : Ty w g t) (hB : Below w.heap.size w w') : Ty w' g t := by
  obtain ⟨cs, hc⟩ := h
  exact ⟨cs, (hB.block g (Array.getElem?_eq_some_iff.1 hc).1).trans hc⟩
theorem Kt.ty {t t' : TypeId} {a w : World} (h : Kt t a w) {g : Nat} (hg : Ty w g t') (hne : t' ≠ t) (i : Nat) (u : Value) : Kt t a (w.setCell ⟨g, i, none⟩ u) := by
  obtain ⟨cs, hc⟩ := hg
  exact h.set hc hne i u
theorem Kt.ty3 {t t' : TypeId} {a w : World} (h : Kt t a w) {g : Nat} (hg : Ty w g t') (hne : t' ≠ t) (i j k : Nat) (u v x : Value) : Kt t a (((w.setCell ⟨g, i, none⟩ u).setCell ⟨g, j, none⟩ v).setCell ⟨g, k, none⟩ x) :=
  ((h.ty hg hne i u).ty (hg.set _ _ _) hne j v).ty ((hg.set _ _ _).set _ _ _) hne k x
theorem below_set3 {B : Nat} {a w : World} (h : Below B a w) {g : Nat} (hg : B ≤ g) (i j k : Nat) (u v x : Value) : Below B a (((w.setCell ⟨g, i, none⟩ u).setCell ⟨g, j, none⟩ v).setCell ⟨g, k, none⟩ x) :=
  ((h.setCell hg u).setCell hg v).setCell hg x
end Go.Proofs.Ytkgblicmkijpdaa
