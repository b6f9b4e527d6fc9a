/-
  What a round of Parse's loop leaves, and the graph that was read.
-/
import Derived.Test.YteabdlandbmdaaaGreatDoorM16
import Derived.Test.YteabdlandbmdaaaGreatDoorM17
import Derived.Laws.Rows
namespace Go.Proofs.YteabdlandbmdaaaGreatDoor
open Go.RowKit Go.Shelf
set_option linter.unusedVariables false
set_option linter.unusedSimpArgs false

theorem own_turn {w w2 : World} {base : Nat} {e : TypeId} {size : Nat} {v : Value} {n : Nat} {xs : List Value} {row : Option Nat} (h : w.ownsRow base e size v n xs) (hg : w.grownBy w2 row) (hr : ∀ r, row = some r → r < base) : w2.ownsRow base e size v n xs := by
  refine ⟨h.1, ?_⟩
  rcases h.2 with h | ⟨b, cap, cur, rfl, hb, hbl, rest⟩
  · exact .inl h
  · exact .inr ⟨b, cap, cur, rfl, hb, (hg.block b (Array.getElem?_eq_some_iff.1 hbl).1 (fun e => by have := hr b e.symm; omega)).trans hbl, rest⟩
theorem GSt.turn {base g : Nat} {L : List Nd} {B : List Te} {w w' : World} {row : Option Nat} (h : GSt base g L B w) (hg : w.grownBy w' row) (hr : ∀ r, row = some r → r < base ∧ r ≠ g) : GSt base g L B w' := by
  obtain ⟨vk, vb, h1, h2, h3, h5, h6, h7, h8⟩ := h
  have hr' : ∀ r, row = some r → r < base := fun r e => (hr r e).1
  exact ⟨vk, vb, (hg.block g (by omega) (fun e => (hr g e.symm).2 rfl)).trans h1, ⟨own_turn h2.1 hg hr', fun n hn => own_turn (h2.2 n hn) hg hr'⟩, own_turn h3 hg hr', h5, h6, Nat.le_trans h7 hg.size, h8⟩
structure Oth (m : Nat) (w w' : World) : Prop where
  os : w'.os = w.os
  tape : w'.tape = w.tape
  output : w'.output = w.output
  size : w.heap.size ≤ w'.heap.size
  block : ∀ b, b < m → w'.heap[b]? = w.heap[b]?
theorem Oth.turn {m : Nat} {w w' w2 : World} {row : Option Nat} (h : Oth m w w') (hm : m ≤ w.heap.size) (hg : w'.grownBy w2 row) (hr : ∀ r, row = some r → m ≤ r) : Oth m w w2 :=
  ⟨hg.os.trans h.os, hg.tape.trans h.tape, hg.output.trans h.output, Nat.le_trans h.size hg.size, fun b hb => (hg.block b (Nat.lt_of_lt_of_le hb (Nat.le_trans hm h.size)) (fun e => by have := hr b e.symm; omega)).trans (h.block b hb)⟩
def LnSt (s : Nat) (pre : List (Nat × Nm)) (L : List Nd) (B : List Te) (A : World) : Prop :=
  (pre = [] ∧ L = [] ∧ B = [] ∧ A.heap[s + 3]? = some (.cells #[.slice none 0 0, .slice none 0 0] 25 (0, 0))) ∨ GSt (s + 12) (s + 3) L B A
def LnI (s : Nat) (w : World) (pre : List (Nat × Nm)) (A : World) : Prop :=
  ∃ L B, lnF (pre.map (·.2)) = some (cN L, B) ∧ LnSt s pre L B A ∧ Oth (s + 3) w A
theorem lnI_abides {s : Nat} {w : World} (hw : w.heap.size = s + 5) : AbidesC (fun r => (s + 7 ≤ r ∧ r ≤ s + 11) ∨ r = s + 6) (LnI s w) := fun pre A A' row ⟨L, B, h1, h2, h3⟩ hg hr => by
  refine ⟨L, B, h1, ?_, h3.turn (by omega) hg (fun r e => by have := hr r e; omega)⟩
  rcases h2 with ⟨q1, q2, q3, q4⟩ | h2
  · exact .inl ⟨q1, q2, q3, kept_of hg hr q4 (by omega)⟩
  · exact .inr (h2.turn hg (fun r e => by have := hr r e; omega))
theorem lnSt_open {s : Nat} {pre : List (Nat × Nm)} {L : List Nd} {B : List Te} {A : World} (h : LnSt s pre L B A) (hA : s + 11 < A.heap.size) : GSt (s + 12) (s + 3) L B A := by
  rcases h with ⟨_, rfl, rfl, h⟩ | h
  · exact ⟨_, _, h, ⟨World.ownsRow_nil _ _ _ _, fun k hk => absurd hk (by simp)⟩, World.ownsRow_nil _ _ _ _, Nat.zero_le _, Nat.zero_le _, hA, by omega⟩
  · exact h
def Res3 (W : World) (s : Nat) (a b c d : Value) : Prop := W.heap[s]? = some (.cells #[a, b] 25 (0, 0)) ∧ W.heap[s + 1]? = some (.cells #[c] 3 (0, 0)) ∧ W.heap[s + 1 + 1]? = some (.cells #[d] 27 (0, 0))
theorem Res3.cells {W : World} {s : Nat} {a b c d : Value} (h : Res3 W s a b c d) : (W.cell? ⟨s, 0, none⟩ = some a ∧ W.cell? ⟨s, 1, none⟩ = some b ∧ W.cell? ⟨s + 1, 0, none⟩ = some c ∧ W.cell? ⟨s + 1 + 1, 0, none⟩ = some d) ∧ W.frozen? ⟨s, 0, none⟩ = false ∧ W.frozen? ⟨s, 1, none⟩ = false ∧ W.frozen? ⟨s + 1, 0, none⟩ = false ∧ W.frozen? ⟨s + 1 + 1, 0, none⟩ = false :=
  ⟨⟨cell_at h.1 rfl, cell_at h.1 rfl, cell_at h.2.1 rfl, cell_at h.2.2 rfl⟩, frz_at h.1, frz_at h.1, frz_at h.2.1, frz_at h.2.2⟩
abbrev put3 (W : World) (s : Nat) (a b c d : Value) : World := (((W.setCell ⟨s, 0, none⟩ a).setCell ⟨s, 1, none⟩ b).setCell ⟨s + 1, 0, none⟩ c).setCell ⟨s + 1 + 1, 0, none⟩ d
theorem set_same0 (W : World) (b i : Nat) (cs : Array Value) (t : TypeId) (v : Value) (h : W.heap[b]? = some (.cells cs t (0, 0))) : (W.setCell ⟨b, i, none⟩ v).heap[b]? = some (.cells (cs.setIfInBounds i v) t (0, 0)) := heap_setCell_same W b i cs t v h
theorem set_other0 (W : World) (p : Addr) (b : Nat) (v : Value) (h : b ≠ p.block) : (W.setCell p v).heap[b]? = W.heap[b]? := heap_setCell_other W p b v h
theorem put3_res {W : World} {s : Nat} {a b c d a' b' c' d' : Value} (h : Res3 W s a b c d) : Res3 (put3 W s a' b' c' d') s a' b' c' d' := by
  obtain ⟨h1, h2, h3⟩ := h
  refine ⟨?_, ?_, ?_⟩
  · refine (set_other0 _ _ _ _ (by simp; omega)).trans ((set_other0 _ _ _ _ (by simp)).trans ?_)
    exact set_same0 _ _ 1 _ 25 _ (set_same0 _ _ 0 _ 25 _ h1)
  · refine (set_other0 _ _ _ _ (by simp)).trans ?_
    exact set_same0 _ _ 0 _ 3 _ ((set_other0 _ _ _ _ (by simp)).trans ((set_other0 _ _ _ _ (by simp)).trans h2))
  · exact set_same0 _ _ 0 _ 27 _ ((set_other0 _ _ _ _ (by simp)).trans ((set_other0 _ _ _ _ (by simp; omega)).trans ((set_other0 _ _ _ _ (by simp; omega)).trans h3)))
theorem put3_other {W : World} {s : Nat} {a b c d : Value} {k : Nat} (h : k < s ∨ s + 2 < k) : (put3 W s a b c d).heap[k]? = W.heap[k]? :=
  (set_other0 _ _ _ _ (by simp; omega)).trans ((set_other0 _ _ _ _ (by simp; omega)).trans ((set_other0 _ _ _ _ (by simp; omega)).trans (set_other0 _ _ _ _ (by simp; omega))))
theorem put3_size (W : World) (s : Nat) (a b c d : Value) : (put3 W s a b c d).heap.size = W.heap.size := by simp [put3]
def PrX (s : Nat) (w : World) (xs : List (Nat × Nm)) (A : World) : Prop :=
  ∃ ys y st, xs = ys ++ [y] ∧ lnF (ys.map (·.2)) = some st ∧ lnS st y.2 = none ∧ Res3 A s (.slice none 0 0) (.slice none 0 0) (.int .i64 y.1) (.iface 49 (.int .i64 2)) ∧ Oth s w A
theorem Res3.turn {A A' : World} {s : Nat} {a b c d : Value} {row : Option Nat} (h : Res3 A s a b c d) (hg : A.grownBy A' row) (hr : ∀ r, row = some r → s + 2 < r) : Res3 A' s a b c d := by
  obtain ⟨h1, h2, h3⟩ := h
  have k : ∀ {b o}, A.heap[b]? = some o → b ≤ s + 2 → A'.heap[b]? = some o := fun {b o} hb hs => (hg.block b (Array.getElem?_eq_some_iff.1 hb).1 (fun e => by have := hr b e.symm; omega)).trans hb
  exact ⟨k h1 (by omega), k h2 (by omega), k h3 (by omega)⟩
theorem prX_abides {s : Nat} {w : World} (hw : w.heap.size = s + 5) : AbidesC (fun r => (s + 7 ≤ r ∧ r ≤ s + 11) ∨ r = s + 6) (PrX s w) := fun pre A A' row ⟨ys, y, st, h1, h2, h3, h4, h5⟩ hg hr =>
  ⟨ys, y, st, h1, h2, h3, h4.turn hg (fun r e => by have := hr r e; omega), h5.turn (by omega) hg (fun r e => by have := hr r e; omega)⟩
structure Nr (s : Nat) (A W : World) : Prop where
  os : W.os = A.os
  tape : W.tape = A.tape
  output : W.output = A.output
  size : A.heap.size ≤ W.heap.size
  block : ∀ b, b < s + 12 → b ≠ s + 3 → W.heap[b]? = A.heap[b]?
theorem nr_below {s : Nat} {A W : World} (h : Below A.heap.size A W) (hA : s + 11 < A.heap.size) : Nr s A W := ⟨h.os, h.tape, h.output, h.size, fun b hb _ => h.block b (by omega)⟩
theorem nr_fr {s : Nat} {A W W2 : World} (h : Nr s A W) (hA : s + 11 < A.heap.size) (hf : Fr (s + 12) (s + 3) W W2) : Nr s A W2 :=
  ⟨hf.os.trans h.os, hf.tape.trans h.tape, hf.output.trans h.output, Nat.le_trans h.size hf.size, fun b hb hn => (hf.low b hb hn).trans (h.block b hb hn)⟩
theorem nr_oth {s : Nat} {w A W : World} (h : Nr s A W) (ho : Oth (s + 3) w A) : Oth (s + 3) w W :=
  ⟨h.os.trans ho.os, h.tape.trans ho.tape, h.output.trans ho.output, Nat.le_trans ho.size h.size, fun b hb => (h.block b (by omega) (by omega)).trans (ho.block b hb)⟩
theorem res_oth {s : Nat} {w A : World} {a b c d : Value} (h : Res3 w s a b c d) (ho : Oth (s + 3) w A) : Res3 A s a b c d :=
  ⟨(ho.block s (by omega)).trans h.1, (ho.block (s + 1) (by omega)).trans h.2.1, (ho.block (s + 1 + 1) (by omega)).trans h.2.2⟩
theorem nr_keep {s : Nat} {A W : World} (h : Nr s A W) : Keep2 (s + 5) A W ∧ ∀ b, s + 7 ≤ b → b ≤ s + 11 → W.heap[b]? = A.heap[b]? :=
  ⟨⟨h.block _ (by omega) (by omega), h.block _ (by omega) (by omega)⟩, fun b h1 h2 => h.block b (by omega) (by omega)⟩
theorem nr_put3 {s : Nat} {A W : World} {a b c d : Value} (h : Nr s A W) : Keep2 (s + 5) A (put3 W s a b c d) ∧ ∀ k, s + 7 ≤ k → k ≤ s + 11 → (put3 W s a b c d).heap[k]? = A.heap[k]? :=
  ⟨⟨(put3_other (.inr (by omega))).trans (h.block _ (by omega) (by omega)), (put3_other (.inr (by omega))).trans (h.block _ (by omega) (by omega))⟩, fun k h1 h2 => (put3_other (.inr (by omega))).trans (h.block k (by omega) (by omega))⟩
theorem body_ret {s : Nat} {W0 A W : World} {pre : List (Nat × Nm)} {y : Nat × Nm} {st : List Nd × List Te} {a b c d : Value} (h : Nr s A W) (ho : Oth (s + 3) W0 A) (h0 : Res3 W0 s a b c d) (hf : lnF (pre.map (·.2)) = some st) (hn : lnS st y.2 = none) :
    PrX s W0 (pre ++ [y]) (put3 W s (.slice none 0 0) (.slice none 0 0) (.int .i64 y.1) (.iface 49 (.int .i64 2))) := by
  have ho' := nr_oth h ho
  refine ⟨pre, y, st, rfl, hf, hn, put3_res (res_oth h0 ho'), ⟨ho'.os, ho'.tape, ho'.output, by rw [put3_size]; exact ho'.size, fun b hb => (put3_other (.inl hb)).trans (ho'.block b (by omega))⟩⟩
theorem body_ok {s : Nat} {W0 A W : World} {pre : List (Nat × Nm)} {y : Nat × Nm} {st : List Nd × List Te} {L : List Nd} {B : List Te} (h : Nr s A W) (ho : Oth (s + 3) W0 A) (hf : lnF (pre.map (·.2)) = some st) (hn : lnS st y.2 = some (cN L, B)) (hS : GSt (s + 12) (s + 3) L B W) : LnI s W0 (pre ++ [y]) W := by
  refine ⟨L, B, ?_, .inr hS, nr_oth h ho⟩
  rw [List.map_append, List.map_cons, List.map_nil, lnF_snoc, hf]
  exact hn
theorem sc_of {s : Nat} {pre : List (Nat × Nm)} {L : List Nd} {B : List Te} {A : World} (h : LnSt s pre L B A) : (∃ ak ck ab cb, A.heap[s + 3]? = some (.cells #[.slice ak L.length ck, .slice ab B.length cb] 25 (0, 0)) ∧ IsN A (.slice ak L.length ck) L ∧ IsT A (.slice ab B.length cb) B) ∧ L.length ≤ 61 ∧ B.length ≤ 121 := by
  rcases h with ⟨_, rfl, rfl, h⟩ | ⟨vk, vb, h1, h2, h3, h4, h5, _⟩
  · exact ⟨⟨none, 0, none, 0, h, ⟨none, 0, rfl, Nat.le_refl _, .inl rfl⟩, ⟨none, 0, rfl, Nat.le_refl _, .inl rfl⟩⟩, Nat.zero_le _, Nat.zero_le _⟩
  · obtain ⟨ak, ck, rfl⟩ := own_slice h2.1
    obtain ⟨ab, cb, rfl⟩ := own_slice h3
    exact ⟨⟨ak, ck, ab, cb, h1, h2.isN, h3.isT⟩, h4, h5⟩
theorem sc_at {s : Nat} {pre : List (Nat × Nm)} {L : List Nd} {B : List Te} {A : World} {vk vb : Value} (h : LnSt s pre L B A) (h3 : A.heap[s + 3]? = some (.cells #[vk, vb] 25 (0, 0))) : IsN A vk L ∧ IsT A vb B := by
  obtain ⟨⟨ak, ck, ab, cb, g, i1, i3⟩, _⟩ := sc_of h
  rw [h3] at g
  injection g with g
  injection g with g
  have g' := congrArg Array.toList g
  simp only [List.cons.injEq, and_true] at g'
  rw [g'.1, g'.2]
  exact ⟨i1, i3⟩
theorem LnSt.on {s : Nat} {pre : List (Nat × Nm)} {L : List Nd} {B : List Te} {A W : World} (h : LnSt s pre L B A) (hB : Below A.heap.size A W) : LnSt s pre L B W := by
  rcases h with ⟨h1, h2, h3, h4⟩ | h
  · exact .inl ⟨h1, h2, h3, (hB.block _ (Array.getElem?_eq_some_iff.1 h4).1).trans h4⟩
  · exact .inr (h.below hB)
theorem LnSt.turn {s : Nat} {pre : List (Nat × Nm)} {L : List Nd} {B : List Te} {A W : World} {r : Nat} (h : LnSt s pre L B A) (hg : A.grownBy W (some r)) (hr : r < s + 12 ∧ r ≠ s + 3) : LnSt s pre L B W := by
  rcases h with ⟨h1, h2, h3, h4⟩ | h
  · exact .inl ⟨h1, h2, h3, (hg.block _ (Array.getElem?_eq_some_iff.1 h4).1 (fun e => hr.2 (by injection e with e; exact e.symm))).trans h4⟩
  · exact .inr (h.turn hg (fun q e => by injection e with e; subst e; exact hr))
theorem grown_cel (W : World) (b i : Nat) (v : Value) : W.grownBy (W.setCell ⟨b, i, none⟩ v) (some b) := ⟨rfl, rfl, rfl, by simp, fun k _ hk => set_other0 _ _ _ _ (fun e => hk (by rw [e]))⟩
theorem put3_st {s : Nat} {pre : List (Nat × Nm)} {L : List Nd} {B : List Te} {W : World} {a b c d : Value} (h : LnSt s pre L B W) : LnSt s pre L B (put3 W s a b c d) :=
  (((h.turn (grown_cel _ _ _ _) (by omega)).turn (grown_cel _ _ _ _) (by omega)).turn (grown_cel _ _ _ _) (by omega)).turn (grown_cel _ _ _ _) (by omega)
theorem put3_env (W : World) (s : Nat) (a b c d : Value) : (put3 W s a b c d).os = W.os ∧ (put3 W s a b c d).tape = W.tape ∧ (put3 W s a b c d).output = W.output := by
  have g1 := grown_cel W s 0 a
  have g2 := grown_cel (W.setCell ⟨s, 0, none⟩ a) s 1 b
  have g3 := grown_cel ((W.setCell ⟨s, 0, none⟩ a).setCell ⟨s, 1, none⟩ b) (s + 1) 0 c
  have g4 := grown_cel (((W.setCell ⟨s, 0, none⟩ a).setCell ⟨s, 1, none⟩ b).setCell ⟨s + 1, 0, none⟩ c) (s + 1 + 1) 0 d
  exact ⟨g4.os.trans (g3.os.trans (g2.os.trans g1.os)), g4.tape.trans (g3.tape.trans (g2.tape.trans g1.tape)), g4.output.trans (g3.output.trans (g2.output.trans g1.output))⟩
theorem fin3 {s : Nat} {W0 A W1 : World} {pre : List (Nat × Nm)} {L : List Nd} {B : List Te} {x y z u : Value} (ho : Oth (s + 3) W0 A) (hR0 : Res3 W0 s x y z u) (hK : A.heap[s + 5]? = some (.deferred (some []))) (hst : LnSt s pre L B A) (hB1 : Below A.heap.size A W1) (a b c d : Value) :
    (put3 W1 s a b c d).heap[s + 5]? = some (.deferred (some [])) ∧ Res3 ((put3 W1 s a b c d).putObj (s + 5) (.deferred none)) s a b c d ∧ Oth s W0 ((put3 W1 s a b c d).putObj (s + 5) (.deferred none)) ∧ LnSt s pre L B ((put3 W1 s a b c d).putObj (s + 5) (.deferred none)) ∧ ((put3 W1 s a b c d).putObj (s + 5) (.deferred none)).heap[s + 3]? = A.heap[s + 3]? := by
  have h5 := (Array.getElem?_eq_some_iff.1 hK).1
  have r := res_oth hR0 ho
  have hb : ∀ k, k < s + 6 → W1.heap[k]? = A.heap[k]? := fun k hk => hB1.block k (by omega)
  have r1 : Res3 W1 s x y z u := ⟨(hb s (by omega)).trans r.1, (hb (s + 1) (by omega)).trans r.2.1, (hb (s + 1 + 1) (by omega)).trans r.2.2⟩
  have p := put3_res (a' := a) (b' := b) (c' := c) (d' := d) r1
  refine ⟨(put3_other (.inr (by omega))).trans ((hb (s + 5) (by omega)).trans hK), p.turn (grownBy_putObj' (put3 W1 s a b c d) (s + 5) (.deferred none)) (fun q e => by injection e with e; omega), ⟨?_, ?_, ?_, ?_, fun k hk => ?_⟩, (put3_st (hst.on hB1)).turn (grownBy_putObj' (put3 W1 s a b c d) (s + 5) (.deferred none)) (by omega), ?_⟩
  · exact (grownBy_putObj' (put3 W1 s a b c d) (s + 5) (.deferred none)).os.trans ((put3_env W1 s a b c d).1.trans (hB1.os.trans ho.os))
  · exact (grownBy_putObj' (put3 W1 s a b c d) (s + 5) (.deferred none)).tape.trans ((put3_env W1 s a b c d).2.1.trans (hB1.tape.trans ho.tape))
  · exact (grownBy_putObj' (put3 W1 s a b c d) (s + 5) (.deferred none)).output.trans ((put3_env W1 s a b c d).2.2.trans (hB1.output.trans ho.output))
  · rw [World.putObj_size, put3_size]; exact Nat.le_trans ho.size hB1.size
  · exact (World.putObj_heap_other (by omega)).trans ((put3_other (.inl hk)).trans ((hb k (by omega)).trans (ho.block k (by omega))))
  · exact (World.putObj_heap_other (by omega)).trans ((put3_other (.inr (by omega))).trans (hb _ (by omega)))
theorem numL_map (L : List Nm) : (numL L).map (·.2) = L := by
  unfold numL
  rw [List.map_map]
  have : (fun p : Nm × Nat => ((p.2, p.1) : Nat × Nm).2) = Prod.fst := by funext p; rfl
  show L.zipIdx.map (fun p : Nm × Nat => ((p.2, p.1) : Nat × Nm).2) = L
  rw [this, List.zipIdx_map_fst]
theorem fold_stop {xs ys : List Nm} (h : lnF xs = none) : lnF (xs ++ ys) = none := by
  unfold lnF at *
  rw [List.foldl_append, h, fold_none]
theorem stop_at {x : Nm} {ys : List (Nat × Nm)} {y : Nat × Nm} {st : List Nd × List Te} (hp : ys ++ [y] <+: numL (linesL x)) (hf : lnF (ys.map (·.2)) = some st) (hn : lnS st y.2 = none) : lnF (linesL x) = none := by
  obtain ⟨zs, hz⟩ := hp
  have e : linesL x = (ys.map (·.2) ++ [y.2]) ++ zs.map (·.2) := by
    have := congrArg (List.map (·.2)) hz
    rw [numL_map] at this
    rw [← this]
    simp
  rw [e]
  exact fold_stop (by rw [lnF_snoc, hf]; exact hn)
def PaPost (x : Nm) (w : World) (e : Ending) (w' : World) : Prop :=
  ∃ ak nk ck ab nb cb, ∃ at' z : Int, e = .returned (.tuple #[.agg #[.slice ak nk ck, .slice ab nb cb], .int .i64 at', errV z]) ∧ Below w.heap.size w w' ∧
    (z = 0 → at' = 0 ∧ ∃ L B, lnF (linesL x) = some (cN L, B) ∧ gErr L B = 0 ∧ IsN w' (.slice ak nk ck) L ∧ IsT w' (.slice ab nb cb) B) ∧
    (z ≠ 0 → lnF (linesL x) = none ∨ ∃ L B, lnF (linesL x) = some (cN L, B) ∧ gErr L B = z)
end Go.Proofs.YteabdlandbmdaaaGreatDoor
