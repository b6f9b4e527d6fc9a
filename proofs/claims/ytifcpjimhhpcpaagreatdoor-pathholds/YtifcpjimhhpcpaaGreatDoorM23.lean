/-
  A graph of the call's own: how it lies, and what keeps it; appending to nothing; rows of elements of several cells.
-/
import Derived.Test.YtifcpjimhhpcpaaGreatDoorM22
import Derived.Lib.AppendZeros
import Derived.Deep.DeepCutAuto
import Derived.Lib.Bytealg
import Derived.Lib.Small
import Derived.WalkKit
namespace Go.Proofs.YtifcpjimhhpcpaaGreatDoor
open Go.RowKit
set_option linter.unusedVariables false
set_option linter.unusedSimpArgs false

section
variable {α : Type} {f : α → List Value} {sz : Nat}
theorem flatK (h : ∀ x, (f x).length = sz) : ∀ (L : List α) (k : Nat) (x : α) (i : Nat), L[k]? = some x → i < sz → (L.flatMap f)[k * sz + i]? = (f x)[i]?
  | [], k, x, i, hk, _ => by simp at hk
  | y :: r, 0, x, i, hk, hi => by
    simp at hk; subst hk
    rw [List.flatMap_cons, List.getElem?_append_left (by rw [h]; omega)]
    simp
  | y :: r, k + 1, x, i, hk, hi => by
    rw [List.flatMap_cons, List.getElem?_append_right (by rw [h, Nat.add_mul]; omega), h]
    have := flatK h r k x i (by simpa using hk) hi
    rw [← this]
    congr 1
    rw [Nat.add_mul]; omega
theorem flatK_len (h : ∀ x, (f x).length = sz) : ∀ L : List α, (L.flatMap f).length = L.length * sz
  | [] => by simp
  | y :: r => by rw [List.flatMap_cons, List.length_append, h, flatK_len h r, List.length_cons, Nat.add_mul]; omega
theorem flatK_inv (h : ∀ x, (f x).length = sz) (L : List α) {j : Nat} {u : Value} (hu : (L.flatMap f)[j]? = some u) : ∃ k x i, L[k]? = some x ∧ i < sz ∧ j = k * sz + i ∧ (f x)[i]? = some u := by
  have hj := (List.getElem?_eq_some_iff.1 hu).1
  rw [flatK_len h] at hj
  have hsz : 0 < sz := Nat.pos_of_ne_zero (fun e => by subst e; simp at hj)
  have hk : j / sz < L.length := Nat.div_lt_of_lt_mul (by rw [Nat.mul_comm]; exact hj)
  have hi : j % sz < sz := Nat.mod_lt _ hsz
  have hji : j = j / sz * sz + j % sz := by rw [Nat.mul_comm]; exact (Nat.div_add_mod j sz).symm
  refine ⟨j / sz, L[j / sz], j % sz, by simp [hk], hi, hji, ?_⟩
  rw [← flatK h L (j / sz) _ (j % sz) (by simp [hk]) hi, ← hji]
  exact hu
theorem flatK_take (h : ∀ x, (f x).length = sz) (L : List α) (k : Nat) : (L.take k).flatMap f = (L.flatMap f).take (k * sz) := by
  induction L generalizing k with
  | nil => simp
  | cons y r ih =>
    cases k with
    | zero => simp
    | succ k =>
      rw [List.take_succ_cons, List.flatMap_cons, ih, List.flatMap_cons, List.take_append, h, List.take_of_length_le (l := f y) (by rw [h, Nat.add_mul]; omega), show (k + 1) * sz - sz = k * sz by rw [Nat.add_mul]; omega]
theorem flatK_drop (h : ∀ x, (f x).length = sz) (L : List α) (k : Nat) : (L.drop k).flatMap f = (L.flatMap f).drop (k * sz) := by
  induction L generalizing k with
  | nil => simp
  | cons y r ih =>
    cases k with
    | zero => simp
    | succ k =>
      rw [List.drop_succ_cons, ih, List.flatMap_cons, List.drop_append, h, show List.drop ((k + 1) * sz) (f y) = [] from List.drop_eq_nil_of_le (by rw [h, Nat.add_mul]; omega), List.nil_append, show (k + 1) * sz - sz = k * sz by rw [Nat.add_mul]; omega]
/-- One element is another one: its cells are. -/
theorem flatK_set (h : ∀ x, (f x).length = sz) (L : List α) (k : Nat) (x : α) (hk : k < L.length) : (L.set k x).flatMap f = (L.flatMap f).take (k * sz) ++ f x ++ (L.flatMap f).drop ((k + 1) * sz) := by
  rw [List.set_eq_take_append_cons_drop, if_pos hk, List.flatMap_append, List.flatMap_cons, flatK_take h, flatK_drop h, List.append_assoc]
end

theorem nd_len (n : Nd) : n.cells.length = 3 := rfl
theorem te_len (t : Te) : t.cells.length = 3 := rfl
theorem pr_len (p : Pr) : p.cells.length = 4 := rfl
def cellsR (L : List Pr) : List Value := L.flatMap Pr.cells
theorem pr_one (L : List Pr) : ∀ u ∈ cellsR L, u.oneCell' = true := by
  intro u hu
  obtain ⟨p, _, hp⟩ := List.mem_flatMap.1 hu
  simp [Pr.cells] at hp
  rcases hp with rfl | rfl | rfl | rfl <;> rfl
theorem te_one (L : List Te) : ∀ u ∈ cellsT L, u.oneCell' = true := by
  intro u hu
  obtain ⟨p, _, hp⟩ := List.mem_flatMap.1 hu
  simp [Te.cells] at hp
  rcases hp with rfl | rfl | rfl <;> rfl
/-- The nodes' records are slices. -/
def SlN (N : List Nd) : Prop := ∀ n ∈ N, ∃ a l c, n.rv = .slice a l c
theorem nd_one {N : List Nd} (h : SlN N) : ∀ u ∈ cellsN N, u.oneCell' = true := by
  intro u hu
  obtain ⟨p, hp0, hp⟩ := List.mem_flatMap.1 hu
  obtain ⟨a, l, c, e⟩ := h p hp0
  simp [Nd.cells, e] at hp
  rcases hp with rfl | rfl | rfl <;> rfl

/-- A record of the call's own. -/
def OwnRc (w : World) (base : Nat) (v : Value) (L : List Pr) : Prop := w.ownsRow base 107 4 v L.length (cellsR L)
/-- Nodes of the call's own, their records, too. -/
def OwnNs (w : World) (base : Nat) (v : Value) (N : List Nd) : Prop := w.ownsRow base 38 3 v N.length (cellsN N) ∧ ∀ n ∈ N, OwnRc w base n.rv n.rc
def OwnTs (w : World) (base : Nat) (v : Value) (T : List Te) : Prop := w.ownsRow base 82 3 v T.length (cellsT T)
/-- A graph of the call's own behind a pointer. -/
def OG (w : World) (base p : Nat) (N : List Nd) (T : List Te) : Prop := ∃ vn vt, base ≤ p ∧ w.heap[p]? = some (.cells #[vn, vt] 29 (0, 0)) ∧ OwnNs w base vn N ∧ OwnTs w base vt T
theorem OwnRc.kt {w w' : World} {base : Nat} {v : Value} {L : List Pr} (h : OwnRc w base v L) (hk : Kt 107 w w') : OwnRc w' base v L := own_kt h hk
theorem OwnNs.kt {w w' : World} {base : Nat} {v : Value} {N : List Nd} (h : OwnNs w base v N) (hk : Kt 38 w w') (hr : Kt 107 w w') : OwnNs w' base v N := ⟨own_kt h.1 hk, fun n hn => (h.2 n hn).kt hr⟩
theorem OwnTs.kt {w w' : World} {base : Nat} {v : Value} {T : List Te} (h : OwnTs w base v T) (hk : Kt 82 w w') : OwnTs w' base v T := own_kt h hk
theorem OG.on {w w' : World} {base p : Nat} {N : List Nd} {T : List Te} (h : OG w base p N T) (hB : Below w.heap.size w w') : OG w' base p N T := by
  obtain ⟨vn, vt, h1, h2, h3, h4⟩ := h
  exact ⟨vn, vt, h1, (hB.block p (Array.getElem?_eq_some_iff.1 h2).1).trans h2, h3.kt (.of_below hB) (.of_below hB), h4.kt (.of_below hB)⟩
theorem OwnRc.sl {w : World} {base : Nat} {v : Value} {L : List Pr} (h : OwnRc w base v L) : ∃ a l c, v = .slice a l c := by
  obtain ⟨ao, cp, rfl⟩ := own_slice h
  exact ⟨_, _, _, rfl⟩
theorem OwnNs.sl {w : World} {base : Nat} {v : Value} {N : List Nd} (h : OwnNs w base v N) : SlN N := fun n hn => (h.2 n hn).sl
theorem OwnRc.isR {w : World} {base : Nat} {v : Value} {L : List Pr} (h : OwnRc w base v L) : IsR w v L := by
  have hc : ∀ g, v.ownBlock = some g → ∀ j u, (cellsR L)[j]? = some u → w.cell? ((⟨g, 0, none⟩ : Addr).add j) = some u := fun g hg => World.ownsRow.cells h hg
  rcases h.2 with ⟨rfl, h0⟩ | ⟨g, cap, cur, rfl, hb, hg, hle, hm, rest⟩
  · exact ⟨none, 0, by rw [h0], .inl (List.eq_nil_of_length_eq_zero h0)⟩
  · refine ⟨_, cap, rfl, .inr ⟨g, 0, rfl, (Array.getElem?_eq_some_iff.1 hg).1, fun k p hp => ?_⟩⟩
    have c : ∀ i u, i < 4 → p.cells[i]? = some u → w.cell? ⟨g, 0 + (k * 4 + i), none⟩ = some u := fun i u hi hu => by
      have := hc g rfl (k * 4 + i) u ((flatK pr_len L k p i hp hi).trans hu)
      rwa [Addr.add_lit] at this
    exact ⟨c 0 _ (by omega) rfl, c 1 _ (by omega) rfl, c 2 _ (by omega) rfl, c 3 _ (by omega) rfl⟩
theorem OwnNs.isN {w : World} {base : Nat} {v : Value} {N : List Nd} (h : OwnNs w base v N) : IsN w v N := own_isN h.1 fun n hn => (h.2 n hn).isR
theorem OwnTs.isT {w : World} {base : Nat} {v : Value} {T : List Te} (h : OwnTs w base v T) : IsT w v T := own_isT h

/-- What a slice holds, cell by cell; one that has nothing may lie anywhere. -/
def HasC (w : World) (v : Value) (n : Nat) (xs : List Value) : Prop := ∃ ao c, v = .slice ao n c ∧ ((n = 0 ∧ xs = []) ∨ ∃ b off, ao = some ⟨b, off, none⟩ ∧ b < w.heap.size ∧ ∀ j u, xs[j]? = some u → w.cell? ((⟨b, off, none⟩ : Addr).add j) = some u)
theorem HasC.on {w w' : World} {v : Value} {n : Nat} {xs : List Value} (h : HasC w v n xs) (hB : Below w.heap.size w w') : HasC w' v n xs := by
  obtain ⟨ao, c, rfl, h0 | ⟨b, off, rfl, hb, hL⟩⟩ := h
  · exact ⟨ao, c, rfl, .inl h0⟩
  · refine ⟨_, c, rfl, .inr ⟨b, off, rfl, Nat.lt_of_lt_of_le hb hB.size, fun j u hu => ?_⟩⟩
    have := hL j u hu
    rw [Addr.add_lit] at this ⊢
    exact (hB.cell hb).trans this
theorem IsR.has {w : World} {v : Value} {L : List Pr} (h : IsR w v L) : HasC w v L.length (cellsR L) := by
  obtain ⟨ao, c, rfl, rfl | ⟨b, off, rfl, hb, hL⟩⟩ := h
  · exact ⟨ao, c, rfl, .inl ⟨rfl, rfl⟩⟩
  · refine ⟨_, c, rfl, .inr ⟨b, off, rfl, hb, fun j u hu => ?_⟩⟩
    obtain ⟨k, x, i, hk, hi, rfl, hx⟩ := flatK_inv pr_len L hu
    obtain ⟨c0, c1, c2, c3⟩ := hL k x hk
    rw [Addr.add_lit, ← Nat.add_assoc]
    match i, hi with
    | 0, _ => exact c0.trans hx
    | 1, _ => exact c1.trans hx
    | 2, _ => exact c2.trans hx
    | 3, _ => exact c3.trans hx
theorem IsN.has {w : World} {v : Value} {L : List Nd} (h : IsN w v L) : HasC w v L.length (cellsN L) := by
  obtain ⟨ao, c, rfl, _, rfl | ⟨b, off, rfl, hb, hL⟩⟩ := h
  · exact ⟨ao, c, rfl, .inl ⟨rfl, rfl⟩⟩
  · refine ⟨_, c, rfl, .inr ⟨b, off, rfl, hb, fun j u hu => ?_⟩⟩
    obtain ⟨k, x, i, hk, hi, rfl, hx⟩ := flatK_inv nd_len L hu
    obtain ⟨c0, c1, c2, _⟩ := hL k x hk
    rw [Addr.add_lit, ← Nat.add_assoc]
    match i, hi with
    | 0, _ => exact c0.trans hx
    | 1, _ => exact c1.trans hx
    | 2, _ => exact c2.trans hx
theorem IsT.has {w : World} {v : Value} {L : List Te} (h : IsT w v L) : HasC w v L.length (cellsT L) := by
  obtain ⟨ao, c, rfl, _, rfl | ⟨b, off, rfl, hb, hL⟩⟩ := h
  · exact ⟨ao, c, rfl, .inl ⟨rfl, rfl⟩⟩
  · refine ⟨_, c, rfl, .inr ⟨b, off, rfl, hb, fun j u hu => ?_⟩⟩
    obtain ⟨k, x, i, hk, hi, rfl, hx⟩ := flatK_inv te_len L hu
    obtain ⟨c0, c1, c2⟩ := hL k x hk
    rw [Addr.add_lit, ← Nat.add_assoc]
    match i, hi with
    | 0, _ => exact c0.trans hx
    | 1, _ => exact c1.trans hx
    | 2, _ => exact c2.trans hx
theorem IsR.sl {w : World} {v : Value} {L : List Pr} (h : IsR w v L) : ∃ a l c, v = .slice a l c := by
  obtain ⟨ao, c, rfl, _⟩ := h
  exact ⟨_, _, _, rfl⟩
theorem IsN.sl {w : World} {v : Value} {N : List Nd} (h : IsN w v N) : SlN N := by
  obtain ⟨ao, c, rfl, _, rfl | ⟨b, off, rfl, hb, hL⟩⟩ := h
  · intro n hn; cases hn
  · intro n hn
    obtain ⟨k, hk⟩ := List.getElem?_of_mem hn
    exact (hL k n hk).2.2.2.sl

section
variable {P : Program}
theorem run_append_nothing (w : World) (t ty e : TypeId) (i : TypeInfo) (ht : P.underlying t = some (.slice e)) (hi : P.info? e = some i) (ao : Option Addr) (c : Nat) :
    (Builtin.append_ #[t, t] ty #[.slice none 0 0, .slice ao 0 c]).run P w = .ok (.slice none 0 0) w := by
  cases ao <;> simp [Builtin.append_, run_underlying ht, sizeOf, typeInfo, hi, Builtin.lenOf, Builtin.firstCells, loadCells, loadCellsFrom]
/-- append(nil, x...): a copy of the call's own. -/
theorem run_clone (w : World) (base : Nat) (t ty e : TypeId) (i : TypeInfo) (z : Value) (size bytes : Nat) (ht : P.underlying t = some (.slice e)) (hi : P.info? e = some i) (hz : i.zero = some z)
    (hsize : i.size = size) (hby : i.bytes = bytes) (hzs : z.cells.size = size) (hsz : 0 < size) (u : Value) (m : Nat) (news : List Value) (hx : HasC w u m news) (hl : news.length = m * size) (h1 : ∀ u ∈ news, u.oneCell' = true)
    (h63 : m ≤ maxLen) (hbytes : m * bytes ≤ 140737488355328) (hbase : base ≤ w.heap.size) :
    ∃ v' w', (Builtin.append_ #[t, t] ty #[.slice none 0 0, u]).run P w = .ok v' w' ∧ w'.ownsRow base e size v' m news ∧ w.grownBy w' none := by
  obtain ⟨ao, c, rfl, ⟨rfl, rfl⟩ | ⟨b, off, rfl, hb, hL⟩⟩ := hx
  · exact ⟨_, w, run_append_nothing w t ty e i ht hi ao c, World.ownsRow_nil _ _ _ _, ⟨rfl, rfl, rfl, Nat.le_refl _, fun _ _ _ => rfl⟩⟩
  · obtain ⟨v', w', r1, r2, r3, _⟩ := run_append_own (P := P) w base t ty e i z size bytes ht hi hz hsize hby hzs hsz (.slice none 0 0) 0 [] (World.ownsRow_nil _ _ _ _) ⟨b, off, none⟩ m c news hl hL h1 (by omega) (by rw [Nat.zero_add]; exact hbytes) hbase
    refine ⟨v', w', r1, ?_, r3⟩
    simpa using r2
theorem wp_append_E {w : World} {o : Oper} {a : Act} {K : Act → World → Prop} {Q : Exit → Act → World → Prop} (s x : Operand) (t : TypeId) (ho : o.op = .call { callee := .builtin .append, args := #[s, x], argTypes := #[t, t] })
    (v u : Value) (hs : a.eval s = v) (hx : a.eval x = u) {R : Value → World → Prop} (hr : ∃ v' w', (Builtin.append_ #[t, t] o.type #[v, u]).run P w = .ok v' w' ∧ R v' w') (hK : ∀ v' w', R v' w' → K (a.put o.dst v') w') : o.wp P a w K Q := by
  obtain ⟨v', w', hr, r2⟩ := hr
  unfold Oper.wp execOp
  simp only [ho, resolve, invoke, builtin, Sem.run_bind, Sem.run_pure, Result.andThen_ok, List.map_toArray, List.map_cons, List.map_nil, hs, hx, hr]
  exact hK v' w' r2
theorem wpList_append_E {w : World} {ops : Array Oper} {rest : List Oper} {o : Oper} {a : Act} {Q : Exit → Act → World → Prop} (hg : o.guard = none) (s x : Operand) (t : TypeId) (ho : o.op = .call { callee := .builtin .append, args := #[s, x], argTypes := #[t, t] })
    (v u : Value) (hs : a.eval s = v) (hx : a.eval x = u) {R : Value → World → Prop} (hr : ∃ v' w', (Builtin.append_ #[t, t] o.type #[v, u]).run P w = .ok v' w' ∧ R v' w') (hK : ∀ v' w', R v' w' → wpList P ops Q rest (a.put o.dst v') w') : wpList P ops Q (o :: rest) a w :=
  wpList_plain hg fun K hK' => wp_append_E s x t ho v u hs hx hr (fun v' w' r => hK' _ _ (hK v' w' r))
theorem step_append_E {w : World} {ops : Array Oper} {o : Oper} {a : Act} {K : Act → World → Prop} {Q : Exit → Act → World → Prop} {E : Prop} (hg : o.guard = none) (s x : Operand) (t : TypeId) (ho : o.op = .call { callee := .builtin .append, args := #[s, x], argTypes := #[t, t] })
    (v u : Value) (hs : a.eval s = v) (hx : a.eval x = u) {R : Value → World → Prop} (hr : ∃ v' w', (Builtin.append_ #[t, t] o.type #[v, u]).run P w = .ok v' w' ∧ R v' w') (hK : ∀ v' w', R v' w' → K (a.put o.dst v') w') :
    if Region.wanted o (yielded ops a.tmps) = true then Oper.wp P o a w K Q else E := by
  have hw : Region.wanted o (yielded ops a.tmps) = true := by simp [Region.wanted, hg]
  rw [if_pos hw]
  exact wp_append_E s x t ho v u hs hx hr hK
end
theorem infoP : (Tryz.prog.info? 107).map (fun i => (i.zero, i.size, i.bytes)) = some (some (.agg #[.string ⟨#[]⟩, .int .i64 0, .int .i64 0, .string ⟨#[]⟩]), 4, 48) := by kernel_rfl
theorem clone_rec (w : World) (base : Nat) (hb : base ≤ w.heap.size) {v : Value} {L : List Pr} (h : IsR w v L) (hl : L.length ≤ 1000) (ty : TypeId) :
    ∃ v' w', (Builtin.append_ #[36, 36] ty #[.slice none 0 0, v]).run Tryz.prog w = .ok v' w' ∧ (OwnRc w' base v' L ∧ w.grownBy w' none) := by
  obtain ⟨i0, hi0, hz0, hz1, hz2⟩ := info_parts infoP
  exact run_clone w base 36 ty 107 i0 _ 4 48 Tryz.underlying36 hi0 hz0 hz1 hz2 rfl (by decide) v _ _ h.has (flatK_len pr_len L) (pr_one L) (by unfold maxLen; omega) (by omega) hb
theorem clone_nodes (w : World) (base : Nat) (hb : base ≤ w.heap.size) {v : Value} {L : List Nd} (h : IsN w v L) (hl : L.length ≤ 1000) (ty : TypeId) :
    ∃ v' w', (Builtin.append_ #[26, 26] ty #[.slice none 0 0, v]).run Tryz.prog w = .ok v' w' ∧ (w'.ownsRow base 38 3 v' L.length (cellsN L) ∧ w.grownBy w' none) := by
  obtain ⟨i0, hi0, hz0, hz1, hz2⟩ := info_parts infoN
  exact run_clone w base 26 ty 38 i0 _ 3 48 Tryz.underlying26 hi0 hz0 hz1 hz2 rfl (by decide) v _ _ h.has (flatK_len nd_len L) (nd_one h.sl) (by unfold maxLen; omega) (by omega) hb
theorem clone_ties (w : World) (base : Nat) (hb : base ≤ w.heap.size) {v : Value} {L : List Te} (h : IsT w v L) (hl : L.length ≤ 1000) (ty : TypeId) :
    ∃ v' w', (Builtin.append_ #[27, 27] ty #[.slice none 0 0, v]).run Tryz.prog w = .ok v' w' ∧ (OwnTs w' base v' L ∧ w.grownBy w' none) := by
  obtain ⟨i0, hi0, hz0, hz1, hz2⟩ := info_parts infoT
  exact run_clone w base 27 ty 82 i0 _ 3 32 Tryz.underlying27 hi0 hz0 hz1 hz2 rfl (by decide) v _ _ h.has (flatK_len te_len L) (te_one L) (by unfold maxLen; omega) (by omega) hb
end Go.Proofs.YtifcpjimhhpcpaaGreatDoor

/-
  The walks of delta.copiedNode and delta.copied.
-/
namespace Go.Proofs.YtifcpjimhhpcpaaGreatDoor
open Go.RowKit
set_option linter.unusedVariables false
set_option linter.unusedSimpArgs false

/-- The two boxes of copiedNode. -/
abbrev cpW (w : World) (n : Nd) : World := (w.alloc (.cells #[.int .i64 n.id, .string n.kd, n.rv] 38)).alloc (.cells #[.int .i64 0, .string ⟨#[]⟩, .slice none 0 0] 38)
theorem cpW_below (w : World) (n : Nd) : Below w.heap.size w (cpW w n) := b_alloc (b_alloc (Below.refl _ _) _) _
theorem cpW_0 (w : World) (n : Nd) : (cpW w n).heap[w.heap.size]? = some (.cells #[.int .i64 n.id, .string n.kd, n.rv] 38 (0, 0)) :=
  (heap_alloc_old _ _ (by simp)).trans (heap_alloc_new w _)
theorem cpW_1 (w : World) (n : Nd) : (cpW w n).heap[w.heap.size + 1]? = some (.cells #[.int .i64 0, .string ⟨#[]⟩, .slice none 0 0] 38 (0, 0)) := by
  have := heap_alloc_new (w.alloc (.cells #[.int .i64 n.id, .string n.kd, n.rv] 38)) (.cells #[.int .i64 0, .string ⟨#[]⟩, .slice none 0 0] 38)
  rwa [World.size_alloc] at this

set_option maxHeartbeats 1000000 in
theorem copiedNode_any (n : Nd) (w : World) (hR : IsR w n.rv n.rc) (hl : n.rc.length ≤ 1000) :
    Calls Tryz.prog 20 #[n.one] w fun e w' => ∃ v', e = .returned (.agg #[.int .i64 n.id, .string n.kd, v']) ∧ OwnRc w' w.heap.size v' n.rc ∧ Below w.heap.size w w' := by
  have hR0 := hR.on (cpW_below w n)
  have hcl := fun ty => clone_rec (cpW w n) w.heap.size (cpW_below w n).size hR0 hl ty
  have HB : Hid (Below w.heap.size w (cpW w n) ∧ (cpW w n).heap[w.heap.size]? = some (.cells #[.int .i64 n.id, .string n.kd, n.rv] 38 (0, 0)) ∧ (cpW w n).heap[w.heap.size + 1]? = some (.cells #[.int .i64 0, .string ⟨#[]⟩, .slice none 0 0] 38 (0, 0)) ∧ (cpW w n).heap.size = w.heap.size + 2) := ⟨cpW_below w n, cpW_0 w n, cpW_1 w n, by simp [cpW]⟩
  obtain ⟨av, lv, cv, hv⟩ := hR.sl
  obtain ⟨id, kd, rv, rc⟩ := n
  simp only at hv hl hcl HB
  subst hv
  clear hR hR0
  unfold cpW at hcl
  go_enter Tryz.func20, Tryz.ntmps20
  go_wp2_with (at_builtin; refine wpList_append_E rfl _ _ 36 rfl _ _ rfl rfl (hcl _) ?_; rintro v1 w1 ⟨hown, hgrow⟩; refine Hid.out ?_)
  refine Lib.hid ?_
  obtain ⟨ao, cp, rfl⟩ := own_slice hown
  obtain ⟨hB, h0, h1, hsz⟩ := HB.out
  have k0 := (hgrow.block w.heap.size (by simp; omega) (by simp)).trans h0
  have k1 := (hgrow.block (w.heap.size + 1) (by simp) (by simp)).trans h1
  have HO : Hid (OwnRc w1 w.heap.size (.slice ao rc.length cp) rc ∧ Below w.heap.size w w1 ∧ w1.heap[w.heap.size]? = some (.cells #[.int .i64 id, .string kd, .slice av lv cv] 38 (0, 0)) ∧ w1.heap[w.heap.size + 1]? = some (.cells #[.int .i64 0, .string ⟨#[]⟩, .slice none 0 0] 38 (0, 0))) := ⟨hown, below_grown hB hgrow (by rw [hsz]; omega) (fun k hk => by cases hk), k0, k1⟩
  have c0 : w1.cell? ⟨w.heap.size, 0, none⟩ = some (.int .i64 id) := cell_at k0 rfl
  have c1 : w1.cell? ⟨w.heap.size, 1, none⟩ = some (.string kd) := cell_at k0 rfl
  have c2 : w1.cell? ⟨w.heap.size, 2, none⟩ = some (.slice av lv cv) := cell_at k0 rfl
  have f2 : w1.frozen? ⟨w.heap.size, 2, none⟩ = false := frz_at k0
  have d0 : w1.cell? ⟨w.heap.size + 1, 0, none⟩ = some (.int .i64 0) := cell_at k1 rfl
  have d1 : w1.cell? ⟨w.heap.size + 1, 1, none⟩ = some (.string ⟨#[]⟩) := cell_at k1 rfl
  have d2 : w1.cell? ⟨w.heap.size + 1, 2, none⟩ = some (.slice none 0 0) := cell_at k1 rfl
  have g0 : w1.frozen? ⟨w.heap.size + 1, 0, none⟩ = false := frz_at k1
  have g1 : w1.frozen? ⟨w.heap.size + 1, 1, none⟩ = false := frz_at k1
  have g2 : w1.frozen? ⟨w.heap.size + 1, 2, none⟩ = false := frz_at k1
  clear hB h0 h1 hsz k0 k1 hown hgrow HB hcl
  go_wp2
  obtain ⟨o1, o2, o3, o4⟩ := HO.out
  refine bodyPost_ret (v := .agg #[.int .i64 id, .string kd, .slice ao rc.length cp]) ?_ rfl ⟨_, rfl, ?_, ?_⟩
  · simp [results, Tryz.results20, go_sem, c0, c1, c2, d0, d1, d2]
  · exact o1.kt (((Kt.refl _ _).ty ⟨_, o3⟩ (by decide) _ _).ty3 (Ty.set ⟨_, o4⟩ _ _ _) (by decide) _ _ _ _ _ _)
  · exact below_set3 (o2.setCell (Nat.le_refl _) _) (by omega) _ _ _ _ _ _

theorem grown_cell {w w' : World} (h : w.grownBy w' none) : ∀ (b i : Nat), b < w.heap.size → w'.cell? ⟨b, i, none⟩ = w.cell? ⟨b, i, none⟩ := fun b i hb => World.cell?_of_block (h.block b hb (by simp))
theorem grown_frozen {w w' : World} (h : w.grownBy w' none) : ∀ (b i : Nat), b < w.heap.size → w'.frozen? ⟨b, i, none⟩ = w.frozen? ⟨b, i, none⟩ := fun b i hb => World.frozen?_of_block (h.block b hb (by simp))
theorem grown_below {w w' : World} (h : w.grownBy w' none) : Below w.heap.size w w' := below_grown (Below.refl _ _) h (Nat.le_refl _) (fun k hk => by cases hk)
/-- The same nodes, wherever their records lie. -/
def Nd.c (n : Nd) : Nd := ⟨n.id, n.kd, .nilIface, n.rc⟩
def cN (N : List Nd) : List Nd := N.map Nd.c

theorem b_undrew {w W : World} (h : Below w.drew.heap.size w.drew W) : Below w.heap.size w W := ⟨h.os, h.tape, h.output, h.size, h.block⟩
theorem grown_lt {w w' : World} (h : w.grownBy w' none) : ∀ (x : Nat), x < w.heap.size → x < w'.heap.size := fun x hx => Nat.lt_of_lt_of_le hx h.size
theorem cell_old {w : World} {p : Addr} {v : Value} (h : w.cell? p = some v) (o : Obj) : (w.alloc o).cell? p = some v := ((b_alloc (Below.refl _ w) o).cell (cell_lt h)).trans h
/-- What lies behind the first line of copied. -/
def CpA (w W0 : World) (N : List Nd) (T : List Te) (s3 : Value) (wx : World) : Prop := ∃ p a1 p1 a2 p2, s3 = .pointer (some ⟨p, 0, none⟩) ∧ w.heap.size + 2 ≤ p ∧ wx.heap[p]? = some (.cells #[.slice a1 N.length p1, .slice a2 T.length p2] 29 (0, 0)) ∧ wx.ownsRow W0.heap.size 38 3 (.slice a1 N.length p1) N.length (cellsN N) ∧ OwnTs wx W0.heap.size (.slice a2 T.length p2) T ∧ Below W0.heap.size W0 wx
theorem cpA_alloc {w W0 X : World} {N : List Nd} {T : List Te} {a1 a2 : Option Addr} {p1 p2 : Nat} (hs : W0.heap.size = w.heap.size + 2) (h1 : X.ownsRow W0.heap.size 38 3 (.slice a1 N.length p1) N.length (cellsN N)) (h2 : OwnTs X W0.heap.size (.slice a2 T.length p2) T) (hB : Below W0.heap.size W0 X) :
    CpA w W0 N T (.pointer (some ⟨X.heap.size, 0, none⟩)) (X.alloc (.cells #[.slice a1 N.length p1, .slice a2 T.length p2] 29)) :=
  ⟨X.heap.size, a1, p1, a2, p2, rfl, by have := hB.size; omega, heap_alloc_new X _, h1.alloc _, World.ownsRow.alloc h2 _, b_alloc hB _⟩
theorem cpA_set {w W0 X : World} {N : List Nd} {T : List Te} {a1 a2 : Option Addr} {p1 p2 p : Nat} {z1 z2 : Value} (hs : W0.heap.size = w.heap.size + 2) (hp : w.heap.size + 2 ≤ p) (hX : X.heap[p]? = some (.cells #[z1, z2] 29 (0, 0))) (h1 : X.ownsRow W0.heap.size 38 3 (.slice a1 N.length p1) N.length (cellsN N)) (h2 : OwnTs X W0.heap.size (.slice a2 T.length p2) T) (hB : Below W0.heap.size W0 X) :
    CpA w W0 N T (.pointer (some ⟨p, 0, none⟩)) ((X.setCell ⟨p, 0, none⟩ (.slice a1 N.length p1)).setCell ⟨p, 1, none⟩ (.slice a2 T.length p2)) := by
  have e1 := heap_setCell_same X p 0 _ 29 (.slice a1 N.length p1) hX
  have e2 := heap_setCell_same _ p 1 _ 29 (.slice a2 T.length p2) e1
  have ty : Ty X p 29 := ⟨_, hX⟩
  refine ⟨p, a1, p1, a2, p2, rfl, hp, e2, own_kt h1 (((Kt.refl _ _).ty ty (by decide) _ _).ty (ty.set _ _ _) (by decide) _ _), own_kt h2 (((Kt.refl _ _).ty ty (by decide) _ _).ty (ty.set _ _ _) (by decide) _ _), (hB.setCell (by show _ ≤ p; omega) _).setCell (by show _ ≤ p; omega) _⟩
theorem cut3 (A : List Value) (j : Nat) (h : j + 3 ≤ A.length) : ∃ L x y z R, A = L ++ x :: y :: z :: R ∧ L.length = j := by
  refine ⟨A.take j, A[j], A[j + 1], A[j + 2], A.drop (j + 3), ?_, by simp; omega⟩
  rw [← List.drop_eq_getElem_cons (by omega), ← List.drop_eq_getElem_cons (by omega), ← List.drop_eq_getElem_cons (by omega), List.take_append_drop]
theorem set3 (A : List Value) (j : Nat) (a b c : Value) (h : j + 3 ≤ A.length) : ((A.set j a).set (j + 1) b).set (j + 2) c = A.take j ++ [a, b, c] ++ A.drop (j + 3) := by
  obtain ⟨L, x, y, z, R, rfl, rfl⟩ := cut3 A j h
  simp [List.set_append, List.take_append, List.drop_append]
theorem cellsN_set (M : List Nd) (k : Nat) (hk : k < M.length) (a : Int) (b : ByteArray) (v : Value) (rc : List Pr) : (((cellsN M).set (k * 3) (.int .i64 a)).set (k * 3 + 1) (.string b)).set (k * 3 + 2) v = cellsN (M.set k ⟨a, b, v, rc⟩) := by
  have hl : (cellsN M).length = M.length * 3 := flatK_len nd_len M
  rw [set3 _ _ _ _ _ (by rw [hl]; omega)]
  unfold cellsN
  rw [flatK_set nd_len M k _ hk, show (k + 1) * 3 = k * 3 + 3 by omega]
  rfl
theorem cN_set {M N : List Nd} {k : Nat} {n x : Nd} (h : cN M = cN N) (hn : M[k]? = some n) (hx : x.c = n.c) : cN (M.set k x) = cN N := by
  rw [← h]
  unfold cN
  rw [List.map_set, hx]
  apply List.ext_getElem?
  intro j
  by_cases e : k = j
  · subst e
    have hk : k < M.length := (List.getElem?_eq_some_iff.1 hn).1
    rw [List.getElem?_set_self (by simpa using hk)]
    simp [hn]
  · rw [List.getElem?_set_ne e]
/-- Where the loop of copied stands. -/
def CpB (w W0 : World) (p : Nat) (vn vt : Value) (N : List Nd) (T : List Te) (i : Nat) (wr : World) : Prop := ∃ M : List Nd, M.length = N.length ∧ cN M = cN N ∧ wr.heap[p]? = some (.cells #[vn, vt] 29 (0, 0)) ∧ wr.ownsRow W0.heap.size 38 3 vn N.length (cellsN M) ∧ (∀ k n, M[k]? = some n → k < i → OwnRc wr W0.heap.size n.rv n.rc) ∧ (∀ k : Nat, i ≤ k → M[k]? = N[k]?) ∧ OwnTs wr W0.heap.size vt T ∧ Below W0.heap.size W0 wr
theorem cpB_step {w W0 wr W2 : World} {p g cap i : Nat} {vt v' : Value} {N : List Nd} {T : List Te} {n : Nd} (h : CpB w W0 p (.slice (some ⟨g, 0, none⟩) N.length cap) vt N T i wr) (hn : N[i]? = some n) (hr : OwnRc W2 wr.heap.size v' n.rc) (hB : Below wr.heap.size wr W2) :
    CpB w W0 p (.slice (some ⟨g, 0, none⟩) N.length cap) vt N T (i + 1) (((W2.setCell ⟨g, i * 3, none⟩ (.int .i64 n.id)).setCell ⟨g, i * 3 + 1, none⟩ (.string n.kd)).setCell ⟨g, i * 3 + 2, none⟩ v') := by
  obtain ⟨M, m1, m2, m3, m4, m5, m6, m7, m8⟩ := h
  have hi : i < M.length := by rw [m1]; exact (List.getElem?_eq_some_iff.1 hn).1
  have hM : M[i]? = some n := (m6 i (Nat.le_refl _)).trans hn
  have o2 := own_kt m4 (Kt.of_below hB)
  obtain ⟨s1, t1⟩ := World.ownsRow.stored o2 (i * 3) (.int .i64 n.id)
  obtain ⟨s2, t2⟩ := World.ownsRow.stored s1 (i * 3 + 1) (.string n.kd)
  obtain ⟨s3, t3⟩ := World.ownsRow.stored s2 (i * 3 + 2) v'
  rw [cellsN_set M i hi n.id n.kd v' n.rc] at s3
  have ty : Ty W2 g 38 := by
    rcases o2.2 with ⟨e, _⟩ | ⟨g', cap', cur, e, _, hg, _⟩
    · cases e
    · injection e with e1; injection e1 with e2; injection e2 with e3; subst e3; exact ⟨_, hg⟩
  have hgp : g ≠ p := by
    intro e; subst e
    obtain ⟨cs, hc⟩ := ty
    have := (hB.block g (Array.getElem?_eq_some_iff.1 m3).1).trans m3
    rw [hc] at this
    injection this with e1; injection e1 with _ e2; exact absurd e2 (by decide)
  have hwr : W0.heap.size ≤ wr.heap.size := m8.size
  have hgw : W0.heap.size ≤ g := (World.ownsRow.lt o2 g rfl).1
  have kr : Kt 107 W2 (((W2.setCell ⟨g, i * 3, none⟩ (.int .i64 n.id)).setCell ⟨g, i * 3 + 1, none⟩ (.string n.kd)).setCell ⟨g, i * 3 + 2, none⟩ v') := (Kt.refl _ _).ty3 ty (by decide) _ _ _ _ _ _
  have kt : Kt 82 W2 (((W2.setCell ⟨g, i * 3, none⟩ (.int .i64 n.id)).setCell ⟨g, i * 3 + 1, none⟩ (.string n.kd)).setCell ⟨g, i * 3 + 2, none⟩ v') := (Kt.refl _ _).ty3 ty (by decide) _ _ _ _ _ _
  refine ⟨M.set i ⟨n.id, n.kd, v', n.rc⟩, by simpa using m1, cN_set m2 hM rfl, ?_, s3, fun k x hx hk => ?_, fun k hk => ?_, (m7.kt (.of_below hB)).kt kt, ?_⟩
  · refine (heap_setCell_other _ ⟨g, i * 3 + 2, none⟩ p _ (Ne.symm hgp)).trans ((heap_setCell_other _ ⟨g, i * 3 + 1, none⟩ p _ (Ne.symm hgp)).trans ((heap_setCell_other _ ⟨g, i * 3, none⟩ p _ (Ne.symm hgp)).trans ?_))
    exact (hB.block p (Array.getElem?_eq_some_iff.1 m3).1).trans m3
  · by_cases e : i = k
    · subst e
      rw [List.getElem?_set_self hi] at hx
      injection hx with hx
      subst hx
      exact OwnRc.kt (own_base hr hwr) kr
    · rw [List.getElem?_set_ne e] at hx
      exact ((m5 k x hx (by omega)).kt (.of_below hB)).kt kr
  · rw [List.getElem?_set_ne (by omega)]
    exact m6 k (by omega)
  · exact below_set3 (on1K m8 hB (Nat.le_refl _)) hgw _ _ _ _ _ _
end Go.Proofs.YtifcpjimhhpcpaaGreatDoor

/-
  The order of bytes.
-/
namespace Go.Proofs.YtifcpjimhhpcpaaGreatDoor
open Go.RowKit
set_option linter.unusedVariables false
set_option linter.unusedSimpArgs false

theorem cmpB_range (a b : List UInt8) : Lib.compareBytes a b = -1 ∨ Lib.compareBytes a b = 0 ∨ Lib.compareBytes a b = 1 := by
  induction a generalizing b with
  | nil => cases b <;> simp [Lib.compareBytes]
  | cons c r ih =>
    cases b with
    | nil => simp [Lib.compareBytes]
    | cons d q =>
      simp only [Lib.compareBytes]
      split
      · simp
      · split
        · simp
        · exact ih q
theorem cmpB_anti (a b : List UInt8) : Lib.compareBytes b a = -Lib.compareBytes a b := by
  induction a generalizing b with
  | nil => cases b <;> simp [Lib.compareBytes]
  | cons c r ih =>
    cases b with
    | nil => simp [Lib.compareBytes]
    | cons d q =>
      simp only [Lib.compareBytes]
      by_cases h1 : c < d
      · have h2 : ¬ d < c := by rw [UInt8.lt_iff_toNat_lt] at *; omega
        simp [h1, h2]
      · by_cases h2 : d < c
        · simp [h1, h2]
        · simp [h1, h2, ih q]
theorem cmpB_zero (a b : List UInt8) : Lib.compareBytes a b = 0 ↔ a = b := by
  induction a generalizing b with
  | nil => cases b <;> simp [Lib.compareBytes]
  | cons c r ih =>
    cases b with
    | nil => simp [Lib.compareBytes]
    | cons d q =>
      simp only [Lib.compareBytes]
      by_cases h1 : c < d
      · have hne : ¬ c = d := by intro e; rw [e, UInt8.lt_iff_toNat_lt] at h1; omega
        simp [h1, hne]
      · by_cases h2 : d < c
        · have hne : ¬ c = d := by intro e; rw [e, UInt8.lt_iff_toNat_lt] at h2; omega
          simp [h1, h2, hne]
        · have he : c = d := by rw [UInt8.lt_iff_toNat_lt] at h1 h2; exact UInt8.toNat_inj.1 (by omega)
          simp [h1, h2, ih q, he]
theorem cmpB_trans (a b c : List UInt8) (h1 : Lib.compareBytes a b ≤ 0) (h2 : Lib.compareBytes b c ≤ 0) : Lib.compareBytes a c ≤ 0 := by
  induction a generalizing b c with
  | nil => cases c <;> simp [Lib.compareBytes]
  | cons x r ih =>
    cases b with
    | nil => simp [Lib.compareBytes] at h1
    | cons y q =>
      cases c with
      | nil => simp [Lib.compareBytes] at h2
      | cons z p =>
        simp only [Lib.compareBytes] at h1 h2 ⊢
        simp only [UInt8.lt_iff_toNat_lt] at *
        by_cases a1 : x.toNat < y.toNat
        · by_cases b1 : y.toNat < z.toNat
          · rw [if_pos (by omega)]; decide
          · by_cases b2 : z.toNat < y.toNat
            · rw [if_neg b1, if_pos b2] at h2; simp at h2
            · rw [if_pos (by omega)]; decide
        · by_cases a2 : y.toNat < x.toNat
          · rw [if_neg a1, if_pos a2] at h1; simp at h1
          · rw [if_neg a1, if_neg a2] at h1
            by_cases b1 : y.toNat < z.toNat
            · rw [if_pos (by omega)]; decide
            · by_cases b2 : z.toNat < y.toNat
              · rw [if_neg b1, if_pos b2] at h2; simp at h2
              · rw [if_neg b1, if_neg b2] at h2
                rw [if_neg (by omega), if_neg (by omega)]
                exact ih q p h1 h2
theorem less_cmp (a : List UInt8) : ∀ b, Op.bytesLess a b = decide (Lib.compareBytes a b < 0) := by
  induction a with
  | nil => intro b; cases b <;> simp [Op.bytesLess, Lib.compareBytes]
  | cons c r ih =>
    intro b
    cases b with
    | nil => simp [Op.bytesLess, Lib.compareBytes]
    | cons d q =>
      simp only [Op.bytesLess, Lib.compareBytes]
      by_cases h1 : c < d
      · simp [h1]
      · by_cases h2 : d < c
        · have hne : ¬ c = d := by intro e; rw [e, UInt8.lt_iff_toNat_lt] at h2; omega
          simp [h1, h2, hne]
        · have he : c = d := by rw [UInt8.lt_iff_toNat_lt] at h1 h2; exact UInt8.toNat_inj.1 (by omega)
          simp [h1, h2, he, ih q]
end Go.Proofs.YtifcpjimhhpcpaaGreatDoor
