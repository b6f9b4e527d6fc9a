/-
  Rows that a call made: what keeps them; appending to nothing; rows of elements of several cells.
-/
import Derived.Test.YtkmkhadacppdnaaGreatDoorM09
import Derived.WalkKit
import Derived.Lib.Walk
import Derived.Laws.OwnMore
import Derived.Laws.AppendOwn
import Derived.Laws.NewBlocks
import Derived.OwnWalk
import Derived.Deep.QuietTactic
import Derived.Lib.AppendZeros
import Derived.Deep.DeepCutAuto
import Derived.Laws.AppendOwnNone
import Derived.Laws.ResultCell
import Derived.Lib.Hide
import Derived.Deep.RegionLaw
import Derived.Deep.RegionHeld
import Derived.Deep.RegionHeld3
import Derived.Deep.RegionHeldLaw
import Derived.Lib.SliceRun
namespace Go.Proofs.YtkmkhadacppdnaaGreatDoor
open Go.RowKit
set_option linter.unusedVariables false
set_option linter.unusedSimpArgs false

theorem b_alloc {w wr : World} (h : Below w.heap.size w wr) (o : Obj) : Below w.heap.size w (wr.alloc o) := h.alloc h.size _
theorem b_drewN {B : Nat} {a w : World} (h : Below B a w) : ∀ n, Below B a (w.drewN n) := fun n => ⟨h.os, h.tape, h.output, h.size, h.block⟩

theorem cell_at {w : World} {b i : Nat} {cs : Array Value} {t : TypeId} {u : Value} (h : w.heap[b]? = some (.cells cs t (0, 0))) (hu : cs[i]? = some u) : w.cell? ⟨b, i, none⟩ = some u := by simp [World.cell?, h, hu]
theorem frz_at {w : World} {b i : Nat} {cs : Array Value} {t : TypeId} (h : w.heap[b]? = some (.cells cs t (0, 0))) : w.frozen? ⟨b, i, none⟩ = false := by simp [World.frozen?, h]
theorem cell_lt {w : World} {a : Addr} {v : Value} (h : w.cell? a = some v) : a.block < w.heap.size := by
  unfold World.cell? at h
  rcases hb : w.heap[a.block]? with _ | o
  · rw [hb] at h; cases h
  · exact (Array.getElem?_eq_some_iff.1 hb).1

/-- The blocks of one element stay. -/
def Kt (t : TypeId) (w w' : World) : Prop := w.heap.size ≤ w'.heap.size ∧ ∀ (b : Nat) (cs : Array Value), w.heap[b]? = some (.cells cs t (0, 0)) → w'.heap[b]? = some (.cells cs t (0, 0))
theorem Kt.refl (t : TypeId) (w : World) : Kt t w w := ⟨Nat.le_refl _, fun _ _ h => h⟩
theorem Kt.trans {t : TypeId} {a b c : World} (h : Kt t a b) (k : Kt t b c) : Kt t a c := ⟨Nat.le_trans h.1 k.1, fun x cs hx => k.2 x cs (h.2 x cs hx)⟩
theorem Kt.of_below {t : TypeId} {w w' : World} (h : Below w.heap.size w w') : Kt t w w' := ⟨h.size, fun b cs hb => (h.block b (Array.getElem?_eq_some_iff.1 hb).1).trans hb⟩
/-- A block of another element was written to. -/
theorem Kt.of_grown {t t' : TypeId} {w w' : World} {g : Nat} {cs : Array Value} (hg : w.heap[g]? = some (.cells cs t' (0, 0))) (hne : t' ≠ t) (h : w.grownBy w' (some g)) : Kt t w w' :=
  ⟨h.size, fun b ds hb => (h.block b (Array.getElem?_eq_some_iff.1 hb).1 (fun e => by
    injection e with e; subst e; rw [hg] at hb; injection hb with e3; injection e3 with _ e4; exact hne e4)).trans hb⟩
theorem Kt.of_row {t : TypeId} {w w' : World} (h : w.grownBy w' none) : Kt t w w' := ⟨h.size, fun b ds hb => (h.block b (Array.getElem?_eq_some_iff.1 hb).1 (by simp)).trans hb⟩
/-- A row of another element was written to. -/
theorem Kt.of_own {t e : TypeId} {w w' : World} {base size n : Nat} {v : Value} {xs : List Value} (ho : w.ownsRow base e size v n xs) (hne : e ≠ t) (h : w.grownBy w' v.ownBlock) : Kt t w w' := by
  rcases ho.2 with ⟨rfl, _⟩ | ⟨g, cap, cur, rfl, _, hg, _⟩
  · exact .of_row h
  · exact .of_grown hg hne h
theorem Kt.drew {t : TypeId} {a w : World} (h : Kt t a w) : Kt t a w.drew := h
theorem Kt.alloc {t : TypeId} {a w : World} (h : Kt t a w) (o : Obj) : Kt t a (w.alloc o) := h.trans (.of_below ((Below.refl _ w).alloc (Nat.le_refl _) o))
theorem Kt.set {t t' : TypeId} {a w : World} (h : Kt t a w) {g : Nat} {cs : Array Value} (hg : w.heap[g]? = some (.cells cs t' (0, 0))) (hne : t' ≠ t) (i : Nat) (u : Value) : Kt t a (w.setCell ⟨g, i, none⟩ u) :=
  h.trans ⟨by simp, fun b ds hb => (heap_setCell_other w ⟨g, i, none⟩ b u (fun e => by
    simp only at e; subst e; rw [hg] at hb; injection hb with e3; injection e3 with _ e4; exact hne e4)).trans hb⟩
theorem own_kt {w w' : World} {base : Nat} {e : TypeId} {size : Nat} {v : Value} {n : Nat} {xs : List Value} (h : w.ownsRow base e size v n xs) (hk : Kt e w w') : w'.ownsRow base e size v n xs := by
  refine ⟨h.1, ?_⟩
  rcases h.2 with h | ⟨g, cap, cur, hv, hg, hh, rest⟩
  · exact .inl h
  · exact .inr ⟨g, cap, cur, hv, hg, hk.2 g cur hh, rest⟩
theorem grown_trans {a b c : World} {r : Option Nat} (h : a.grownBy b r) (k : b.grownBy c r) : a.grownBy c r :=
  ⟨k.os.trans h.os, k.tape.trans h.tape, k.output.trans h.output, Nat.le_trans h.size k.size, fun x hx hne => (k.block x (Nat.lt_of_lt_of_le hx h.size) hne).trans (h.block x hx hne)⟩
theorem grown_of_below {a b : World} (h : Below a.heap.size a b) (r : Option Nat) : a.grownBy b r := ⟨h.os, h.tape, h.output, h.size, fun k hk _ => h.block k hk⟩
theorem below_grown {B : Nat} {w0 w w' : World} {r : Option Nat} (h : Below B w0 w) (hg : w.grownBy w' r) (hB : B ≤ w.heap.size) (hr : ∀ k, r = some k → B ≤ k) : Below B w0 w' :=
  ⟨hg.os.trans h.os, hg.tape.trans h.tape, hg.output.trans h.output, Nat.le_trans h.size hg.size, fun k hk => (hg.block k (Nat.lt_of_lt_of_le hk hB) (fun e => by have := hr k e.symm; omega)).trans (h.block k hk)⟩
/-- A block of one element. -/
def Ty (w : World) (g : Nat) (t : TypeId) : Prop := ∃ cs : Array Value, w.heap[g]? = some (.cells cs t (0, 0))
theorem Ty.set {w : World} {g : Nat} {t : TypeId} (h : Ty w g t) (b i : Nat) (u : Value) : Ty (w.setCell ⟨b, i, none⟩ u) g t := by
  obtain ⟨cs, hc⟩ := h
  by_cases e : g = b
  · subst e
    exact ⟨_, heap_setCell_same w g i cs t u hc⟩
  · exact ⟨cs, (heap_setCell_other w ⟨b, i, none⟩ g u e).trans hc⟩
theorem Ty.below {w w' : World} {g : Nat} {t : TypeId} (h : Ty w g t) (hB : Below w.heap.size w w') : Ty w' g t := by
  obtain ⟨cs, hc⟩ := h
  exact ⟨cs, (hB.block g (Array.getElem?_eq_some_iff.1 hc).1).trans hc⟩
theorem Kt.ty {t t' : TypeId} {a w : World} (h : Kt t a w) {g : Nat} (hg : Ty w g t') (hne : t' ≠ t) (i : Nat) (u : Value) : Kt t a (w.setCell ⟨g, i, none⟩ u) := by
  obtain ⟨cs, hc⟩ := hg
  exact h.set hc hne i u
theorem Kt.ty3 {t t' : TypeId} {a w : World} (h : Kt t a w) {g : Nat} (hg : Ty w g t') (hne : t' ≠ t) (i j k : Nat) (u v x : Value) : Kt t a (((w.setCell ⟨g, i, none⟩ u).setCell ⟨g, j, none⟩ v).setCell ⟨g, k, none⟩ x) :=
  ((h.ty hg hne i u).ty (hg.set _ _ _) hne j v).ty ((hg.set _ _ _).set _ _ _) hne k x
theorem below_set3 {B : Nat} {a w : World} (h : Below B a w) {g : Nat} (hg : B ≤ g) (i j k : Nat) (u v x : Value) : Below B a (((w.setCell ⟨g, i, none⟩ u).setCell ⟨g, j, none⟩ v).setCell ⟨g, k, none⟩ x) :=
  ((h.setCell hg u).setCell hg v).setCell hg x
theorem step_append_own {P : Program} {ops : Array Oper} {o : Oper} {a : Act} {w : World} {K : Act → World → Prop} {Q : Exit → Act → World → Prop} {E : Prop}
    (hg : o.guard = none) (s x : Operand) (t : TypeId) (ho : o.op = .call { callee := .builtin .append, args := #[s, x], argTypes := #[t, t] })
    (base : Nat) (e : TypeId) (i : TypeInfo) (z : Value) (size bytes : Nat) (ht : P.underlying t = some (.slice e)) (hi : P.info? e = some i) (hz : i.zero = some z)
    (hsize : i.size = size) (hby : i.bytes = bytes) (hzs : z.cells.size = size) (hsz : 0 < size)
    (v : Value) (n : Nat) (xs : List Value) (hs : a.eval s = v) (hown : w.ownsRow base e size v n xs)
    (ad : Addr) (m c : Nat) (news : List Value) (hx : a.eval x = .slice (some ad) m c) (hl : news.length = m * size) (hnews : ∀ j u, news[j]? = some u → w.cell? (ad.add j) = some u) (h1 : ∀ u ∈ news, u.oneCell' = true)
    (h63 : n + m ≤ maxLen) (hbytes : (n + m) * bytes ≤ 140737488355328) (hbase : base ≤ w.heap.size)
    (hK : ∀ v' w', w'.ownsRow base e size v' (n + m) (xs ++ news) → w.grownBy w' v.ownBlock → K (a.put o.dst v') w') :
    if Region.wanted o (yielded ops a.tmps) = true then Oper.wp P o a w K Q else E := by
  have hw : Region.wanted o (yielded ops a.tmps) = true := by simp [Region.wanted, hg]
  rw [if_pos hw]
  exact wp_append_own w s x t ho base e i z size bytes ht hi hz hsize hby hzs hsz v n xs hs hown ad m c news hx hl hnews h1 h63 hbytes hbase (fun v' w' h2 h3 _ => hK v' w' h2 h3)
/-- A block of another type is not the row's. -/
theorem row_apart {w : World} {base : Nat} {e t : TypeId} {size : Nat} {v : Value} {n : Nat} {xs : List Value} (h : w.ownsRow base e size v n xs) {b : Nat} {cs : Array Value} (hb : w.heap[b]? = some (.cells cs t (0, 0))) (hne : t ≠ e) : v.ownBlock ≠ some b := by
  rcases h.2 with ⟨rfl, _⟩ | ⟨g, cap, cur, rfl, _, hg, _⟩
  · intro h; cases h
  · intro h
    have : g = b := by simpa [Value.ownBlock] using h
    subst this
    rw [hg] at hb
    injection hb with hb
    injection hb with _ ht _
    exact hne ht.symm
theorem own_drew {w : World} {base : Nat} {e : TypeId} {size : Nat} {v : Value} {n : Nat} {xs : List Value} (h : w.ownsRow base e size v n xs) : w.drew.ownsRow base e size v n xs := h
theorem own_set {w : World} {base : Nat} {e : TypeId} {size : Nat} {v : Value} {n : Nat} {xs : List Value} (h : w.ownsRow base e size v n xs) {G : Nat} (hne : v.ownBlock ≠ some G) (i : Nat) (u : Value) : (w.setCell ⟨G, i, none⟩ u).ownsRow base e size v n xs := by
  refine ⟨h.1, ?_⟩
  rcases h.2 with h | ⟨g, cap, cur, rfl, hb, hg, rest⟩
  · exact .inl h
  · exact .inr ⟨g, cap, cur, rfl, hb, (heap_setCell_other w ⟨G, i, none⟩ g u (fun e => hne (by rw [e]; rfl))).trans hg, rest⟩
theorem grown_cell {w w' : World} (h : w.grownBy w' none) : ∀ (b i : Nat), b < w.heap.size → w'.cell? ⟨b, i, none⟩ = w.cell? ⟨b, i, none⟩ := fun b i hb => World.cell?_of_block (h.block b hb (by simp))
theorem grown_frozen {w w' : World} (h : w.grownBy w' none) : ∀ (b i : Nat), b < w.heap.size → w'.frozen? ⟨b, i, none⟩ = w.frozen? ⟨b, i, none⟩ := fun b i hb => World.frozen?_of_block (h.block b hb (by simp))
theorem grown_below {w w' : World} (h : w.grownBy w' none) : Below w.heap.size w w' := below_grown (Below.refl _ _) h (Nat.le_refl _) (fun k hk => by cases hk)

section
variable {α : Type} {f : α → List Value} {sz : Nat}
theorem flatK (h : ∀ x, (f x).length = sz) : ∀ (L : List α) (k : Nat) (x : α) (i : Nat), L[k]? = some x → i < sz → (L.flatMap f)[k * sz + i]? = (f x)[i]?
  | [], k, x, i, hk, _ => by simp at hk
  | y :: r, 0, x, i, hk, hi => by
    simp at hk; subst hk
    rw [List.flatMap_cons, List.getElem?_append_left (by rw [h]; omega)]
    simp
  | y :: r, k + 1, x, i, hk, hi => by
    rw [List.flatMap_cons, List.getElem?_append_right (by rw [h, Nat.add_mul]; omega), h]
    have := flatK h r k x i (by simpa using hk) hi
    rw [← this]
    congr 1
    rw [Nat.add_mul]; omega
theorem flatK_len (h : ∀ x, (f x).length = sz) : ∀ L : List α, (L.flatMap f).length = L.length * sz
  | [] => by simp
  | y :: r => by rw [List.flatMap_cons, List.length_append, h, flatK_len h r, List.length_cons, Nat.add_mul]; omega
theorem flatK_inv (h : ∀ x, (f x).length = sz) (L : List α) {j : Nat} {u : Value} (hu : (L.flatMap f)[j]? = some u) : ∃ k x i, L[k]? = some x ∧ i < sz ∧ j = k * sz + i ∧ (f x)[i]? = some u := by
  have hj := (List.getElem?_eq_some_iff.1 hu).1
  rw [flatK_len h] at hj
  have hsz : 0 < sz := Nat.pos_of_ne_zero (fun e => by subst e; simp at hj)
  have hk : j / sz < L.length := Nat.div_lt_of_lt_mul (by rw [Nat.mul_comm]; exact hj)
  have hi : j % sz < sz := Nat.mod_lt _ hsz
  have hji : j = j / sz * sz + j % sz := by rw [Nat.mul_comm]; exact (Nat.div_add_mod j sz).symm
  refine ⟨j / sz, L[j / sz], j % sz, by simp [hk], hi, hji, ?_⟩
  rw [← flatK h L (j / sz) _ (j % sz) (by simp [hk]) hi, ← hji]
  exact hu
theorem flatK_take (h : ∀ x, (f x).length = sz) (L : List α) (k : Nat) : (L.take k).flatMap f = (L.flatMap f).take (k * sz) := by
  induction L generalizing k with
  | nil => simp
  | cons y r ih =>
    cases k with
    | zero => simp
    | succ k =>
      rw [List.take_succ_cons, List.flatMap_cons, ih, List.flatMap_cons, List.take_append, h, List.take_of_length_le (l := f y) (by rw [h, Nat.add_mul]; omega), show (k + 1) * sz - sz = k * sz by rw [Nat.add_mul]; omega]
theorem flatK_drop (h : ∀ x, (f x).length = sz) (L : List α) (k : Nat) : (L.drop k).flatMap f = (L.flatMap f).drop (k * sz) := by
  induction L generalizing k with
  | nil => simp
  | cons y r ih =>
    cases k with
    | zero => simp
    | succ k =>
      rw [List.drop_succ_cons, ih, List.flatMap_cons, List.drop_append, h, show List.drop ((k + 1) * sz) (f y) = [] from List.drop_eq_nil_of_le (by rw [h, Nat.add_mul]; omega), List.nil_append, show (k + 1) * sz - sz = k * sz by rw [Nat.add_mul]; omega]
/-- One element is another one: its cells are. -/
theorem flatK_set (h : ∀ x, (f x).length = sz) (L : List α) (k : Nat) (x : α) (hk : k < L.length) : (L.set k x).flatMap f = (L.flatMap f).take (k * sz) ++ f x ++ (L.flatMap f).drop ((k + 1) * sz) := by
  rw [List.set_eq_take_append_cons_drop, if_pos hk, List.flatMap_append, List.flatMap_cons, flatK_take h, flatK_drop h, List.append_assoc]
end

/-- What a slice holds, cell by cell; one that has nothing may lie anywhere. -/
def HasC (w : World) (v : Value) (n : Nat) (xs : List Value) : Prop := ∃ ao c, v = .slice ao n c ∧ ((n = 0 ∧ xs = []) ∨ ∃ b off, ao = some ⟨b, off, none⟩ ∧ b < w.heap.size ∧ ∀ j u, xs[j]? = some u → w.cell? ((⟨b, off, none⟩ : Addr).add j) = some u)
theorem HasC.on {w w' : World} {v : Value} {n : Nat} {xs : List Value} (h : HasC w v n xs) (hB : Below w.heap.size w w') : HasC w' v n xs := by
  obtain ⟨ao, c, rfl, h0 | ⟨b, off, rfl, hb, hL⟩⟩ := h
  · exact ⟨ao, c, rfl, .inl h0⟩
  · refine ⟨_, c, rfl, .inr ⟨b, off, rfl, Nat.lt_of_lt_of_le hb hB.size, fun j u hu => ?_⟩⟩
    have := hL j u hu
    rw [Addr.add_lit] at this ⊢
    exact (hB.cell hb).trans this

section
variable {P : Program}
theorem run_append_nothing (w : World) (t ty e : TypeId) (i : TypeInfo) (ht : P.underlying t = some (.slice e)) (hi : P.info? e = some i) (ao : Option Addr) (c : Nat) :
    (Builtin.append_ #[t, t] ty #[.slice none 0 0, .slice ao 0 c]).run P w = .ok (.slice none 0 0) w := by
  cases ao <;> simp [Builtin.append_, run_underlying ht, sizeOf, typeInfo, hi, Builtin.lenOf, Builtin.firstCells, loadCells, loadCellsFrom]
/-- append(nil, x...): a copy of the call's own. -/
theorem run_clone (w : World) (base : Nat) (t ty e : TypeId) (i : TypeInfo) (z : Value) (size bytes : Nat) (ht : P.underlying t = some (.slice e)) (hi : P.info? e = some i) (hz : i.zero = some z)
    (hsize : i.size = size) (hby : i.bytes = bytes) (hzs : z.cells.size = size) (hsz : 0 < size) (u : Value) (m : Nat) (news : List Value) (hx : HasC w u m news) (hl : news.length = m * size) (h1 : ∀ u ∈ news, u.oneCell' = true)
    (h63 : m ≤ maxLen) (hbytes : m * bytes ≤ 140737488355328) (hbase : base ≤ w.heap.size) :
    ∃ v' w', (Builtin.append_ #[t, t] ty #[.slice none 0 0, u]).run P w = .ok v' w' ∧ w'.ownsRow base e size v' m news ∧ w.grownBy w' none := by
  obtain ⟨ao, c, rfl, ⟨rfl, rfl⟩ | ⟨b, off, rfl, hb, hL⟩⟩ := hx
  · exact ⟨_, w, run_append_nothing w t ty e i ht hi ao c, World.ownsRow_nil _ _ _ _, ⟨rfl, rfl, rfl, Nat.le_refl _, fun _ _ _ => rfl⟩⟩
  · obtain ⟨v', w', r1, r2, r3, _⟩ := run_append_own (P := P) w base t ty e i z size bytes ht hi hz hsize hby hzs hsz (.slice none 0 0) 0 [] (World.ownsRow_nil _ _ _ _) ⟨b, off, none⟩ m c news hl hL h1 (by omega) (by rw [Nat.zero_add]; exact hbytes) hbase
    refine ⟨v', w', r1, ?_, r3⟩
    simpa using r2
theorem wp_append_E {w : World} {o : Oper} {a : Act} {K : Act → World → Prop} {Q : Exit → Act → World → Prop} (s x : Operand) (t : TypeId) (ho : o.op = .call { callee := .builtin .append, args := #[s, x], argTypes := #[t, t] })
    (v u : Value) (hs : a.eval s = v) (hx : a.eval x = u) {R : Value → World → Prop} (hr : ∃ v' w', (Builtin.append_ #[t, t] o.type #[v, u]).run P w = .ok v' w' ∧ R v' w') (hK : ∀ v' w', R v' w' → K (a.put o.dst v') w') : o.wp P a w K Q := by
  obtain ⟨v', w', hr, r2⟩ := hr
  unfold Oper.wp execOp
  simp only [ho, resolve, invoke, builtin, Sem.run_bind, Sem.run_pure, Result.andThen_ok, List.map_toArray, List.map_cons, List.map_nil, hs, hx, hr]
  exact hK v' w' r2
theorem wpList_append_E {w : World} {ops : Array Oper} {rest : List Oper} {o : Oper} {a : Act} {Q : Exit → Act → World → Prop} (hg : o.guard = none) (s x : Operand) (t : TypeId) (ho : o.op = .call { callee := .builtin .append, args := #[s, x], argTypes := #[t, t] })
    (v u : Value) (hs : a.eval s = v) (hx : a.eval x = u) {R : Value → World → Prop} (hr : ∃ v' w', (Builtin.append_ #[t, t] o.type #[v, u]).run P w = .ok v' w' ∧ R v' w') (hK : ∀ v' w', R v' w' → wpList P ops Q rest (a.put o.dst v') w') : wpList P ops Q (o :: rest) a w :=
  wpList_plain hg fun K hK' => wp_append_E s x t ho v u hs hx hr (fun v' w' r => hK' _ _ (hK v' w' r))
theorem step_append_E {w : World} {ops : Array Oper} {o : Oper} {a : Act} {K : Act → World → Prop} {Q : Exit → Act → World → Prop} {E : Prop} (hg : o.guard = none) (s x : Operand) (t : TypeId) (ho : o.op = .call { callee := .builtin .append, args := #[s, x], argTypes := #[t, t] })
    (v u : Value) (hs : a.eval s = v) (hx : a.eval x = u) {R : Value → World → Prop} (hr : ∃ v' w', (Builtin.append_ #[t, t] o.type #[v, u]).run P w = .ok v' w' ∧ R v' w') (hK : ∀ v' w', R v' w' → K (a.put o.dst v') w') :
    if Region.wanted o (yielded ops a.tmps) = true then Oper.wp P o a w K Q else E := by
  have hw : Region.wanted o (yielded ops a.tmps) = true := by simp [Region.wanted, hg]
  rw [if_pos hw]
  exact wp_append_E s x t ho v u hs hx hr hK
end
end Go.Proofs.YtkmkhadacppdnaaGreatDoor

/-
  The walk of schema.Copy.
-/
namespace Go.Proofs.YtkmkhadacppdnaaGreatDoor
open Go.RowKit
set_option linter.unusedVariables false
set_option linter.unusedSimpArgs false

/-- What a kind says, wherever its lists lie. -/
def kq3 (k : Kd) : Nm × List Nm × List Fd := (k.nm, k.of, k.fs)
def cellsBd (L : List Bd) : List Value := L.flatMap Bd.cells
/-- Kinds of the call's own, their lists, too. -/
def OwnKs (w : World) (base : Nat) (v : Value) (L : List Kd) : Prop := w.ownsRow base 29 3 v L.length (cellsK L) ∧ ∀ k ∈ L, w.ownsRow base 9 1 k.vo k.of.length (cellsS k.of) ∧ w.ownsRow base 33 4 k.vf k.fs.length (cellsF k.fs)
def OwnBs (w : World) (base : Nat) (v : Value) (B : List Bd) : Prop := w.ownsRow base 31 5 v B.length (cellsBd B)
theorem OwnKs.kt {w w' : World} {base : Nat} {v : Value} {L : List Kd} (h : OwnKs w base v L) (h36 : Kt 29 w w') (h9 : Kt 9 w w') (h32 : Kt 33 w w') : OwnKs w' base v L := ⟨own_kt h.1 h36, fun k hk => ⟨own_kt (h.2 k hk).1 h9, own_kt (h.2 k hk).2 h32⟩⟩
theorem infoKd : (Tryz.prog.info? 29).map (fun i => (i.zero, i.size, i.bytes)) = some (some (.agg #[.string ⟨#[]⟩, .slice none 0 0, .slice none 0 0]), 3, 64) := by kernel_rfl
theorem infoFdI : (Tryz.prog.info? 33).map (fun i => (i.zero, i.size, i.bytes)) = some (some (.agg #[.string ⟨#[]⟩, .int .i64 0, .bool false, .bool false]), 4, 32) := by kernel_rfl
theorem infoBdI : (Tryz.prog.info? 31).map (fun i => (i.zero, i.size, i.bytes)) = some (some (.agg #[.string ⟨#[]⟩, .string ⟨#[]⟩, .string ⟨#[]⟩, .int .i64 0, .int .i64 0]), 5, 64) := by kernel_rfl
theorem hasS {w : World} {v : Value} {l : List Nm} (h : IsS w v l) : HasC w v l.length (cellsS l) := by
  rcases h with ⟨ao, c, rfl, rfl, _⟩ | ⟨b, off, cap, rfl, _, _, hb, hl⟩
  · exact ⟨ao, c, rfl, .inl ⟨rfl, rfl⟩⟩
  · refine ⟨_, cap, rfl, .inr ⟨b, off, rfl, hb, fun j u hu => ?_⟩⟩
    unfold cellsS at hu
    rw [List.getElem?_map] at hu
    obtain ⟨n, h1, rfl⟩ := Option.map_eq_some_iff.1 hu
    rw [Addr.add_lit]
    exact hl j n h1
theorem fd_len (f : Fd) : f.cells.length = 4 := rfl
theorem bd_len (x : Bd) : x.cells.length = 5 := rfl
theorem hasF {w : World} {v : Value} {l : List Fd} (h : IsF w v l) : HasC w v l.length (cellsF l) := by
  rcases h with ⟨ao, c, rfl, rfl, _⟩ | ⟨b, off, cap, rfl, _, _, hb, hl⟩
  · exact ⟨ao, c, rfl, .inl ⟨rfl, rfl⟩⟩
  · refine ⟨_, cap, rfl, .inr ⟨b, off, rfl, hb, fun j u hu => ?_⟩⟩
    obtain ⟨k, x, i, hk, hi, rfl, hx⟩ := flatK_inv fd_len l hu
    obtain ⟨c0, c1, c2, c3⟩ := hl k x hk
    rw [Addr.add_lit, ← Nat.add_assoc]
    have : i = 0 ∨ i = 1 ∨ i = 2 ∨ i = 3 := by omega
    rcases this with rfl | rfl | rfl | rfl <;> (simp only [Fd.cells] at hx; simp at hx; subst hx)
    · exact c0
    · exact c1
    · exact c2
    · exact c3
theorem hasB {w : World} {v : Value} {l : List Bd} (h : IsB w v l) : HasC w v l.length (cellsBd l) := by
  rcases h with ⟨rfl, rfl⟩ | ⟨b, off, cap, rfl, _, _, hb, hl⟩
  · exact ⟨none, 0, rfl, .inl ⟨rfl, rfl⟩⟩
  · refine ⟨_, cap, rfl, .inr ⟨b, off, rfl, hb, fun j u hu => ?_⟩⟩
    obtain ⟨k, x, i, hk, hi, rfl, hx⟩ := flatK_inv bd_len l hu
    obtain ⟨c0, c1, c2, c3, c4⟩ := hl k x hk
    rw [Addr.add_lit, ← Nat.add_assoc]
    have : i = 0 ∨ i = 1 ∨ i = 2 ∨ i = 3 ∨ i = 4 := by omega
    rcases this with rfl | rfl | rfl | rfl | rfl <;> (simp only [Bd.cells] at hx; simp at hx; subst hx)
    · exact c0
    · exact c1
    · exact c2
    · exact c3
    · exact c4
theorem fd_one (L : List Fd) : ∀ u ∈ cellsF L, u.oneCell' = true := by
  intro u hu
  obtain ⟨p, _, hp⟩ := List.mem_flatMap.1 hu
  simp [Fd.cells] at hp
  rcases hp with rfl | rfl | rfl | rfl <;> rfl
theorem bd_oneI (L : List Bd) : ∀ u ∈ cellsBd L, u.oneCell' = true := by
  intro u hu
  obtain ⟨p, _, hp⟩ := List.mem_flatMap.1 hu
  simp [Bd.cells] at hp
  rcases hp with rfl | rfl | rfl | rfl | rfl <;> rfl
theorem str_one (L : List Nm) : ∀ u ∈ cellsS L, u.oneCell' = true := by
  intro u hu
  obtain ⟨p, _, rfl⟩ := List.mem_map.1 hu
  rfl
theorem clone_names (w : World) (base : Nat) (hb : base ≤ w.heap.size) {v : Value} {L : List Nm} (h : IsS w v L) (hl : L.length * 16 ≤ 140737488355328) (ty : TypeId) :
    ∃ v' w', (Builtin.append_ #[26, 26] ty #[.slice none 0 0, v]).run Tryz.prog w = .ok v' w' ∧ (w'.ownsRow base 9 1 v' L.length (cellsS L) ∧ w.grownBy w' none) := by
  obtain ⟨i0, hi0, hz0, hz1, hz2⟩ := info_parts info9
  exact run_clone w base 26 ty 9 i0 _ 1 16 Tryz.underlying26 hi0 hz0 hz1 hz2 rfl (by decide) v _ _ (hasS h) (cellsS_len L) (str_one L) (by unfold maxLen; omega) (by omega) hb
theorem clone_fields (w : World) (base : Nat) (hb : base ≤ w.heap.size) {v : Value} {L : List Fd} (h : IsF w v L) (hl : L.length * 32 ≤ 140737488355328) (ty : TypeId) :
    ∃ v' w', (Builtin.append_ #[27, 27] ty #[.slice none 0 0, v]).run Tryz.prog w = .ok v' w' ∧ (w'.ownsRow base 33 4 v' L.length (cellsF L) ∧ w.grownBy w' none) := by
  obtain ⟨i0, hi0, hz0, hz1, hz2⟩ := info_parts infoFdI
  exact run_clone w base 27 ty 33 i0 _ 4 32 Tryz.underlying27 hi0 hz0 hz1 hz2 rfl (by decide) v _ _ (hasF h) (flatK_len fd_len L) (fd_one L) (by unfold maxLen; omega) (by omega) hb
theorem clone_bonds (w : World) (base : Nat) (hb : base ≤ w.heap.size) {v : Value} {L : List Bd} (h : IsB w v L) (hl : L.length ≤ 1000) (ty : TypeId) :
    ∃ v' w', (Builtin.append_ #[23, 23] ty #[.slice none 0 0, v]).run Tryz.prog w = .ok v' w' ∧ (OwnBs w' base v' L ∧ w.grownBy w' none) := by
  obtain ⟨i0, hi0, hz0, hz1, hz2⟩ := info_parts infoBdI
  exact run_clone w base 23 ty 31 i0 _ 5 64 Tryz.underlying23 hi0 hz0 hz1 hz2 rfl (by decide) v _ _ (hasB h) (flatK_len bd_len L) (bd_oneI L) (by unfold maxLen; omega) (by omega) hb
end Go.Proofs.YtkmkhadacppdnaaGreatDoor
