/-
  A graph of the call's own: how it lies, and what keeps it; appending to nothing; rows of elements of several cells.
-/
import Derived.Test.YtidmfdbckpficaaM04
import Derived.Lib.AppendZeros
import Derived.Test.YtidmfdbckpficaaRows
import Derived.ProofKit
import Derived.LaidMore
import Derived.OpenShut
import Derived.ShutString
import Derived.ChangeMaps5
import Derived.Stop.Joined
import Derived.Stop.LaidErr
import Derived.Lib.SmallJoins
import Derived.Carry
import Derived.SizedLaws
import Derived.MakeChecks
import Derived.Deep.Slices
import Derived.Deep.Strs
namespace Go.Proofs.Ytidmfdbckpficaa
open Go.RowKit
set_option linter.unusedVariables false
set_option linter.unusedSimpArgs false

section
variable {α : Type} {f : α → List Value} {sz : Nat}
theorem flatK (h : ∀ x, (f x).length = sz) : ∀ (L : List α) (k : Nat) (x : α) (i : Nat), L[k]? = some x → i < sz → (L.flatMap f)[k * sz + i]? = (f x)[i]?
  | [], k, x, i, hk, _ => by simp at hk
  | y :: r, 0, x, i, hk, hi => by
    simp at hk; subst hk
    rw [List.flatMap_cons, List.getElem?_append_left (by rw [h]; omega)]
    simp
  | y :: r, k + 1, x, i, hk, hi => by
    rw [List.flatMap_cons, List.getElem?_append_right (by rw [h, Nat.add_mul]; omega), h]
    have := flatK h r k x i (by simpa using hk) hi
    rw [← this]
    congr 1
    rw [Nat.add_mul]; omega
theorem flatK_len (h : ∀ x, (f x).length = sz) : ∀ L : List α, (L.flatMap f).length = L.length * sz
  | [] => by simp
  | y :: r => by rw [List.flatMap_cons, List.length_append, h, flatK_len h r, List.length_cons, Nat.add_mul]; omega
theorem flatK_inv (h : ∀ x, (f x).length = sz) (L : List α) {j : Nat} {u : Value} (hu : (L.flatMap f)[j]? = some u) : ∃ k x i, L[k]? = some x ∧ i < sz ∧ j = k * sz + i ∧ (f x)[i]? = some u := by
  have hj := (List.getElem?_eq_some_iff.1 hu).1
  rw [flatK_len h] at hj
  have hsz : 0 < sz := Nat.pos_of_ne_zero (fun e => by subst e; simp at hj)
  have hk : j / sz < L.length := Nat.div_lt_of_lt_mul (by rw [Nat.mul_comm]; exact hj)
  have hi : j % sz < sz := Nat.mod_lt _ hsz
  have hji : j = j / sz * sz + j % sz := by rw [Nat.mul_comm]; exact (Nat.div_add_mod j sz).symm
  refine ⟨j / sz, L[j / sz], j % sz, by simp [hk], hi, hji, ?_⟩
  rw [← flatK h L (j / sz) _ (j % sz) (by simp [hk]) hi, ← hji]
  exact hu
theorem flatK_take (h : ∀ x, (f x).length = sz) (L : List α) (k : Nat) : (L.take k).flatMap f = (L.flatMap f).take (k * sz) := by
  induction L generalizing k with
  | nil => simp
  | cons y r ih =>
    cases k with
    | zero => simp
    | succ k =>
      rw [List.take_succ_cons, List.flatMap_cons, ih, List.flatMap_cons, List.take_append, h, List.take_of_length_le (l := f y) (by rw [h, Nat.add_mul]; omega), show (k + 1) * sz - sz = k * sz by rw [Nat.add_mul]; omega]
theorem flatK_drop (h : ∀ x, (f x).length = sz) (L : List α) (k : Nat) : (L.drop k).flatMap f = (L.flatMap f).drop (k * sz) := by
  induction L generalizing k with
  | nil => simp
  | cons y r ih =>
    cases k with
    | zero => simp
    | succ k =>
      rw [List.drop_succ_cons, ih, List.flatMap_cons, List.drop_append, h, show List.drop ((k + 1) * sz) (f y) = [] from List.drop_eq_nil_of_le (by rw [h, Nat.add_mul]; omega), List.nil_append, show (k + 1) * sz - sz = k * sz by rw [Nat.add_mul]; omega]
/-- One element is another one: its cells are. -/
theorem flatK_set (h : ∀ x, (f x).length = sz) (L : List α) (k : Nat) (x : α) (hk : k < L.length) : (L.set k x).flatMap f = (L.flatMap f).take (k * sz) ++ f x ++ (L.flatMap f).drop ((k + 1) * sz) := by
  rw [List.set_eq_take_append_cons_drop, if_pos hk, List.flatMap_append, List.flatMap_cons, flatK_take h, flatK_drop h, List.append_assoc]
end

theorem nd_len (n : Nd) : n.cells.length = 3 := rfl
theorem te_len (t : Te) : t.cells.length = 3 := rfl
theorem pr_len (p : Pr) : p.cells.length = 4 := rfl
def cellsR (L : List Pr) : List Value := L.flatMap Pr.cells
theorem pr_one (L : List Pr) : ∀ u ∈ cellsR L, u.oneCell' = true := by
  intro u hu
  obtain ⟨p, _, hp⟩ := List.mem_flatMap.1 hu
  simp [Pr.cells] at hp
  rcases hp with rfl | rfl | rfl | rfl <;> rfl
theorem te_one (L : List Te) : ∀ u ∈ cellsT L, u.oneCell' = true := by
  intro u hu
  obtain ⟨p, _, hp⟩ := List.mem_flatMap.1 hu
  simp [Te.cells] at hp
  rcases hp with rfl | rfl | rfl <;> rfl
/-- The nodes' records are slices. -/
def SlN (N : List Nd) : Prop := ∀ n ∈ N, ∃ a l c, n.rv = .slice a l c
theorem nd_one {N : List Nd} (h : SlN N) : ∀ u ∈ cellsN N, u.oneCell' = true := by
  intro u hu
  obtain ⟨p, hp0, hp⟩ := List.mem_flatMap.1 hu
  obtain ⟨a, l, c, e⟩ := h p hp0
  simp [Nd.cells, e] at hp
  rcases hp with rfl | rfl | rfl <;> rfl

/-- A record of the call's own. -/
def OwnRc (w : World) (base : Nat) (v : Value) (L : List Pr) : Prop := w.ownsRow base 38 4 v L.length (cellsR L)
/-- Nodes of the call's own, their records, too. -/
def OwnNs (w : World) (base : Nat) (v : Value) (N : List Nd) : Prop := w.ownsRow base 30 3 v N.length (cellsN N) ∧ ∀ n ∈ N, OwnRc w base n.rv n.rc
def OwnTs (w : World) (base : Nat) (v : Value) (T : List Te) : Prop := w.ownsRow base 40 3 v T.length (cellsT T)
/-- A graph of the call's own behind a pointer. -/
def OG (w : World) (base p : Nat) (N : List Nd) (T : List Te) : Prop := ∃ vn vt, base ≤ p ∧ w.heap[p]? = some (.cells #[vn, vt] 25 (0, 0)) ∧ OwnNs w base vn N ∧ OwnTs w base vt T
theorem OwnRc.kt {w w' : World} {base : Nat} {v : Value} {L : List Pr} (h : OwnRc w base v L) (hk : Kt 38 w w') : OwnRc w' base v L := own_kt h hk
theorem OwnNs.kt {w w' : World} {base : Nat} {v : Value} {N : List Nd} (h : OwnNs w base v N) (hk : Kt 30 w w') (hr : Kt 38 w w') : OwnNs w' base v N := ⟨own_kt h.1 hk, fun n hn => (h.2 n hn).kt hr⟩
theorem OwnTs.kt {w w' : World} {base : Nat} {v : Value} {T : List Te} (h : OwnTs w base v T) (hk : Kt 40 w w') : OwnTs w' base v T := own_kt h hk
theorem OG.on {w w' : World} {base p : Nat} {N : List Nd} {T : List Te} (h : OG w base p N T) (hB : Below w.heap.size w w') : OG w' base p N T := by
  obtain ⟨vn, vt, h1, h2, h3, h4⟩ := h
  exact ⟨vn, vt, h1, (hB.block p (Array.getElem?_eq_some_iff.1 h2).1).trans h2, h3.kt (.of_below hB) (.of_below hB), h4.kt (.of_below hB)⟩
theorem OwnRc.sl {w : World} {base : Nat} {v : Value} {L : List Pr} (h : OwnRc w base v L) : ∃ a l c, v = .slice a l c := by
  obtain ⟨ao, cp, rfl⟩ := own_slice h
  exact ⟨_, _, _, rfl⟩
theorem OwnNs.sl {w : World} {base : Nat} {v : Value} {N : List Nd} (h : OwnNs w base v N) : SlN N := fun n hn => (h.2 n hn).sl
theorem OwnRc.isR {w : World} {base : Nat} {v : Value} {L : List Pr} (h : OwnRc w base v L) : IsR w v L := by
  have hc : ∀ g, v.ownBlock = some g → ∀ j u, (cellsR L)[j]? = some u → w.cell? ((⟨g, 0, none⟩ : Addr).add j) = some u := fun g hg => World.ownsRow.cells h hg
  rcases h.2 with ⟨rfl, h0⟩ | ⟨g, cap, cur, rfl, hb, hg, hle, hm, rest⟩
  · exact ⟨none, 0, by rw [h0], .inl (List.eq_nil_of_length_eq_zero h0)⟩
  · refine ⟨_, cap, rfl, .inr ⟨g, 0, rfl, (Array.getElem?_eq_some_iff.1 hg).1, fun k p hp => ?_⟩⟩
    have c : ∀ i u, i < 4 → p.cells[i]? = some u → w.cell? ⟨g, 0 + (k * 4 + i), none⟩ = some u := fun i u hi hu => by
      have := hc g rfl (k * 4 + i) u ((flatK pr_len L k p i hp hi).trans hu)
      rwa [Addr.add_lit] at this
    exact ⟨c 0 _ (by omega) rfl, c 1 _ (by omega) rfl, c 2 _ (by omega) rfl, c 3 _ (by omega) rfl⟩
theorem OwnNs.isN {w : World} {base : Nat} {v : Value} {N : List Nd} (h : OwnNs w base v N) : IsN w v N := own_isN h.1 fun n hn => (h.2 n hn).isR
theorem OwnTs.isT {w : World} {base : Nat} {v : Value} {T : List Te} (h : OwnTs w base v T) : IsT w v T := own_isT h

/-- What a slice holds, cell by cell; one that has nothing may lie anywhere. -/
def HasC (w : World) (v : Value) (n : Nat) (xs : List Value) : Prop := ∃ ao c, v = .slice ao n c ∧ ((n = 0 ∧ xs = []) ∨ ∃ b off, ao = some ⟨b, off, none⟩ ∧ b < w.heap.size ∧ ∀ j u, xs[j]? = some u → w.cell? ((⟨b, off, none⟩ : Addr).add j) = some u)
theorem HasC.on {w w' : World} {v : Value} {n : Nat} {xs : List Value} (h : HasC w v n xs) (hB : Below w.heap.size w w') : HasC w' v n xs := by
  obtain ⟨ao, c, rfl, h0 | ⟨b, off, rfl, hb, hL⟩⟩ := h
  · exact ⟨ao, c, rfl, .inl h0⟩
  · refine ⟨_, c, rfl, .inr ⟨b, off, rfl, Nat.lt_of_lt_of_le hb hB.size, fun j u hu => ?_⟩⟩
    have := hL j u hu
    rw [Addr.add_lit] at this ⊢
    exact (hB.cell hb).trans this
theorem IsR.has {w : World} {v : Value} {L : List Pr} (h : IsR w v L) : HasC w v L.length (cellsR L) := by
  obtain ⟨ao, c, rfl, rfl | ⟨b, off, rfl, hb, hL⟩⟩ := h
  · exact ⟨ao, c, rfl, .inl ⟨rfl, rfl⟩⟩
  · refine ⟨_, c, rfl, .inr ⟨b, off, rfl, hb, fun j u hu => ?_⟩⟩
    obtain ⟨k, x, i, hk, hi, rfl, hx⟩ := flatK_inv pr_len L hu
    obtain ⟨c0, c1, c2, c3⟩ := hL k x hk
    rw [Addr.add_lit, ← Nat.add_assoc]
    match i, hi with
    | 0, _ => exact c0.trans hx
    | 1, _ => exact c1.trans hx
    | 2, _ => exact c2.trans hx
    | 3, _ => exact c3.trans hx
theorem IsN.has {w : World} {v : Value} {L : List Nd} (h : IsN w v L) : HasC w v L.length (cellsN L) := by
  obtain ⟨ao, c, rfl, _, rfl | ⟨b, off, rfl, hb, hL⟩⟩ := h
  · exact ⟨ao, c, rfl, .inl ⟨rfl, rfl⟩⟩
  · refine ⟨_, c, rfl, .inr ⟨b, off, rfl, hb, fun j u hu => ?_⟩⟩
    obtain ⟨k, x, i, hk, hi, rfl, hx⟩ := flatK_inv nd_len L hu
    obtain ⟨c0, c1, c2, _⟩ := hL k x hk
    rw [Addr.add_lit, ← Nat.add_assoc]
    match i, hi with
    | 0, _ => exact c0.trans hx
    | 1, _ => exact c1.trans hx
    | 2, _ => exact c2.trans hx
theorem IsT.has {w : World} {v : Value} {L : List Te} (h : IsT w v L) : HasC w v L.length (cellsT L) := by
  obtain ⟨ao, c, rfl, _, rfl | ⟨b, off, rfl, hb, hL⟩⟩ := h
  · exact ⟨ao, c, rfl, .inl ⟨rfl, rfl⟩⟩
  · refine ⟨_, c, rfl, .inr ⟨b, off, rfl, hb, fun j u hu => ?_⟩⟩
    obtain ⟨k, x, i, hk, hi, rfl, hx⟩ := flatK_inv te_len L hu
    obtain ⟨c0, c1, c2⟩ := hL k x hk
    rw [Addr.add_lit, ← Nat.add_assoc]
    match i, hi with
    | 0, _ => exact c0.trans hx
    | 1, _ => exact c1.trans hx
    | 2, _ => exact c2.trans hx
theorem IsR.sl {w : World} {v : Value} {L : List Pr} (h : IsR w v L) : ∃ a l c, v = .slice a l c := by
  obtain ⟨ao, c, rfl, _⟩ := h
  exact ⟨_, _, _, rfl⟩
theorem IsN.sl {w : World} {v : Value} {N : List Nd} (h : IsN w v N) : SlN N := by
  obtain ⟨ao, c, rfl, _, rfl | ⟨b, off, rfl, hb, hL⟩⟩ := h
  · intro n hn; cases hn
  · intro n hn
    obtain ⟨k, hk⟩ := List.getElem?_of_mem hn
    exact (hL k n hk).2.2.2.sl

section
variable {P : Program}
theorem run_append_nothing (w : World) (t ty e : TypeId) (i : TypeInfo) (ht : P.underlying t = some (.slice e)) (hi : P.info? e = some i) (ao : Option Addr) (c : Nat) :
    (Builtin.append_ #[t, t] ty #[.slice none 0 0, .slice ao 0 c]).run P w = .ok (.slice none 0 0) w := by
  cases ao <;> simp [Builtin.append_, run_underlying ht, sizeOf, typeInfo, hi, Builtin.lenOf, Builtin.firstCells, loadCells, loadCellsFrom]
/-- append(nil, x...): a copy of the call's own. -/
theorem run_clone (w : World) (base : Nat) (t ty e : TypeId) (i : TypeInfo) (z : Value) (size bytes : Nat) (ht : P.underlying t = some (.slice e)) (hi : P.info? e = some i) (hz : i.zero = some z)
    (hsize : i.size = size) (hby : i.bytes = bytes) (hzs : z.cells.size = size) (hsz : 0 < size) (u : Value) (m : Nat) (news : List Value) (hx : HasC w u m news) (hl : news.length = m * size) (h1 : ∀ u ∈ news, u.oneCell' = true)
    (h63 : m ≤ maxLen) (hbytes : m * bytes ≤ 140737488355328) (hbase : base ≤ w.heap.size) :
    ∃ v' w', (Builtin.append_ #[t, t] ty #[.slice none 0 0, u]).run P w = .ok v' w' ∧ w'.ownsRow base e size v' m news ∧ w.grownBy w' none := by
  obtain ⟨ao, c, rfl, ⟨rfl, rfl⟩ | ⟨b, off, rfl, hb, hL⟩⟩ := hx
  · exact ⟨_, w, run_append_nothing w t ty e i ht hi ao c, World.ownsRow_nil _ _ _ _, ⟨rfl, rfl, rfl, Nat.le_refl _, fun _ _ _ => rfl⟩⟩
  · obtain ⟨v', w', r1, r2, r3, _⟩ := run_append_own (P := P) w base t ty e i z size bytes ht hi hz hsize hby hzs hsz (.slice none 0 0) 0 [] (World.ownsRow_nil _ _ _ _) ⟨b, off, none⟩ m c news hl hL h1 (by omega) (by rw [Nat.zero_add]; exact hbytes) hbase
    refine ⟨v', w', r1, ?_, r3⟩
    simpa using r2
theorem wp_append_E {w : World} {o : Oper} {a : Act} {K : Act → World → Prop} {Q : Exit → Act → World → Prop} (s x : Operand) (t : TypeId) (ho : o.op = .call { callee := .builtin .append, args := #[s, x], argTypes := #[t, t] })
    (v u : Value) (hs : a.eval s = v) (hx : a.eval x = u) {R : Value → World → Prop} (hr : ∃ v' w', (Builtin.append_ #[t, t] o.type #[v, u]).run P w = .ok v' w' ∧ R v' w') (hK : ∀ v' w', R v' w' → K (a.put o.dst v') w') : o.wp P a w K Q := by
  obtain ⟨v', w', hr, r2⟩ := hr
  unfold Oper.wp execOp
  simp only [ho, resolve, invoke, builtin, Sem.run_bind, Sem.run_pure, Result.andThen_ok, List.map_toArray, List.map_cons, List.map_nil, hs, hx, hr]
  exact hK v' w' r2
theorem wpList_append_E {w : World} {ops : Array Oper} {rest : List Oper} {o : Oper} {a : Act} {Q : Exit → Act → World → Prop} (hg : o.guard = none) (s x : Operand) (t : TypeId) (ho : o.op = .call { callee := .builtin .append, args := #[s, x], argTypes := #[t, t] })
    (v u : Value) (hs : a.eval s = v) (hx : a.eval x = u) {R : Value → World → Prop} (hr : ∃ v' w', (Builtin.append_ #[t, t] o.type #[v, u]).run P w = .ok v' w' ∧ R v' w') (hK : ∀ v' w', R v' w' → wpList P ops Q rest (a.put o.dst v') w') : wpList P ops Q (o :: rest) a w :=
  wpList_plain hg fun K hK' => wp_append_E s x t ho v u hs hx hr (fun v' w' r => hK' _ _ (hK v' w' r))
theorem step_append_E {w : World} {ops : Array Oper} {o : Oper} {a : Act} {K : Act → World → Prop} {Q : Exit → Act → World → Prop} {E : Prop} (hg : o.guard = none) (s x : Operand) (t : TypeId) (ho : o.op = .call { callee := .builtin .append, args := #[s, x], argTypes := #[t, t] })
    (v u : Value) (hs : a.eval s = v) (hx : a.eval x = u) {R : Value → World → Prop} (hr : ∃ v' w', (Builtin.append_ #[t, t] o.type #[v, u]).run P w = .ok v' w' ∧ R v' w') (hK : ∀ v' w', R v' w' → K (a.put o.dst v') w') :
    if Region.wanted o (yielded ops a.tmps) = true then Oper.wp P o a w K Q else E := by
  have hw : Region.wanted o (yielded ops a.tmps) = true := by simp [Region.wanted, hg]
  rw [if_pos hw]
  exact wp_append_E s x t ho v u hs hx hr hK
end
theorem infoP : (Try.prog.info? 38).map (fun i => (i.zero, i.size, i.bytes)) = some (some (.agg #[.string ⟨#[]⟩, .int .i64 0, .int .i64 0, .string ⟨#[]⟩]), 4, 48) := by kernel_rfl
theorem clone_rec (w : World) (base : Nat) (hb : base ≤ w.heap.size) {v : Value} {L : List Pr} (h : IsR w v L) (hl : L.length ≤ 1000) (ty : TypeId) :
    ∃ v' w', (Builtin.append_ #[28, 28] ty #[.slice none 0 0, v]).run Try.prog w = .ok v' w' ∧ (OwnRc w' base v' L ∧ w.grownBy w' none) := by
  obtain ⟨i0, hi0, hz0, hz1, hz2⟩ := info_parts infoP
  exact run_clone w base 28 ty 38 i0 _ 4 48 Try.underlying28 hi0 hz0 hz1 hz2 rfl (by decide) v _ _ h.has (flatK_len pr_len L) (pr_one L) (by unfold maxLen; omega) (by omega) hb
theorem clone_nodes (w : World) (base : Nat) (hb : base ≤ w.heap.size) {v : Value} {L : List Nd} (h : IsN w v L) (hl : L.length ≤ 1000) (ty : TypeId) :
    ∃ v' w', (Builtin.append_ #[22, 22] ty #[.slice none 0 0, v]).run Try.prog w = .ok v' w' ∧ (w'.ownsRow base 30 3 v' L.length (cellsN L) ∧ w.grownBy w' none) := by
  obtain ⟨i0, hi0, hz0, hz1, hz2⟩ := info_parts infoN
  exact run_clone w base 22 ty 30 i0 _ 3 48 Try.underlying22 hi0 hz0 hz1 hz2 rfl (by decide) v _ _ h.has (flatK_len nd_len L) (nd_one h.sl) (by unfold maxLen; omega) (by omega) hb
theorem clone_ties (w : World) (base : Nat) (hb : base ≤ w.heap.size) {v : Value} {L : List Te} (h : IsT w v L) (hl : L.length ≤ 1000) (ty : TypeId) :
    ∃ v' w', (Builtin.append_ #[23, 23] ty #[.slice none 0 0, v]).run Try.prog w = .ok v' w' ∧ (OwnTs w' base v' L ∧ w.grownBy w' none) := by
  obtain ⟨i0, hi0, hz0, hz1, hz2⟩ := info_parts infoT
  exact run_clone w base 23 ty 40 i0 _ 3 32 Try.underlying23 hi0 hz0 hz1 hz2 rfl (by decide) v _ _ h.has (flatK_len te_len L) (te_one L) (by unfold maxLen; omega) (by omega) hb
end Go.Proofs.Ytidmfdbckpficaa

/-
  A graph as a parameter.
-/
namespace Go.Proofs.Ytidmfdbckpficaa
open Go.ChangeShapes Go.WideShapes Go.ChangeAt Go.RowKit Go.Joins Go.Deep
open Go.ChangeMaps (open_string shut_string)
set_option linter.unusedVariables false
set_option linter.unusedSimpArgs false

theorem own : ownKnob Try.prog.godebug = none := by kernel_rfl
theorem laidOut : laidOutB Try.prog = true := by kernel_rfl
theorem cells56 : Try.prog.cellsOf 38 = 4 := by kernel_rfl
theorem cells54 : Try.prog.cellsOf 36 = 3 := by kernel_rfl
theorem cells9 : Try.prog.cellsOf 9 = 1 := by kernel_rfl
theorem cells3 : Try.prog.cellsOf 3 = 1 := by kernel_rfl
theorem cells27 : Try.prog.cellsOf 28 = 1 := by kernel_rfl
theorem cells29 : Try.prog.cellsOf 30 = 3 := by kernel_rfl
theorem cells31 : Try.prog.cellsOf 40 = 3 := by kernel_rfl
theorem cells22 : Try.prog.cellsOf 22 = 1 := by kernel_rfl
theorem cells23 : Try.prog.cellsOf 23 = 1 := by kernel_rfl
theorem cells25 : Try.prog.cellsOf 25 = 2 := by kernel_rfl
theorem types25 : Try.prog.cellTypes Try.prog.depth 25 = some [22, 23] := by kernel_rfl
/-- A cell that is there has no spot, and its block is there. -/
theorem cell_plain {W : World} {a : Addr} {u : Value} (h : W.cell? a = some u) : a.spot = none ∧ a.block < W.heap.size := by
  refine ⟨?_, World.block_lt_of_cell? W _ h⟩
  obtain ⟨bk, off, spot⟩ := a
  cases spot with
  | none => rfl
  | some sp =>
    exfalso
    unfold World.cell? at h
    split at h
    · simp at h
    · cases h
theorem addz (a : Addr) : a.add 0 = a := by simp [Addr.add]

section
variable {H : Type} {enc : TypeId × Value → H}
set_option maxRecDepth 100000 in
/-- Four cells that read as a property. -/
theorem cells_prop {W : World} {b : Nat} {sp : Nat → Bool} {hd : Bool} {n : Nat} {cs : List Value} {x : DataW H × List MemPlace} (hlen : cs.length = 4) (h : DataW.trod enc Try.prog W b sp hd n 38 cs = some x) :
    ∃ q : Pr, cs = q.cells ∧ q.nm.size ≤ maxLen ∧ q.s.size ≤ maxLen := by
  obtain ⟨y0, y1, k, hxy, _, u0, u1⟩ := trod_struct2 Try.underlying38 h
  match cs, hlen with
  | [v0, v1, v2, v3], _ =>
    simp only [cells9, cells54, List.drop, List.take] at u0 u1
    obtain ⟨s0, e0, d0, z0⟩ := DataW.trod_string Try.underlying9 u0
    obtain ⟨w0, w1, w2, k2, hw, _, t0, t1, t2⟩ := trod_struct3 Try.underlying36 u1
    simp only [cells9, cells3, List.drop, List.take] at t0 t1 t2
    obtain ⟨q1, e1, d1, _⟩ := DataW.trod_int Try.underlying3 t0
    obtain ⟨q2, e2, d2, _⟩ := DataW.trod_int Try.underlying3 t1
    obtain ⟨s3, e3, d3, z3⟩ := DataW.trod_string Try.underlying9 t2
    simp only [List.cons.injEq, and_true] at e0 e1 e2 e3
    subst e0; subst e1; subst e2; subst e3
    exact ⟨⟨s0, q1, q2, s3⟩, rfl, z0, z3⟩
/-- A record within. -/
theorem open_props {W : World} {b : Nat} {sp : Nat → Bool} {hd : Bool} {n : Nat} {v : Value} {x : DataW H × List MemPlace} (h : DataW.trod enc Try.prog W b sp hd n 28 [v] = some x) : ∃ l, IsR W v l ∧ Sz l ∧ l.length ≤ maxLen := by
  rcases open_slice Try.underlying28 h with ⟨hc, _⟩ | ⟨a, len, cap, m, n, D, Pl, hc, hb, hl, hm, hmm, _, hall⟩
  · simp only [List.cons.injEq, and_true] at hc
    exact ⟨[], ⟨none, 0, hc, .inl rfl⟩, fun f hf => by simp at hf, by decide⟩
  · simp only [List.cons.injEq, and_true] at hc
    subst hc
    have hlm : len ≤ m := by rw [hmm]; split <;> omega
    by_cases h0 : len = 0
    · subst h0
      exact ⟨[], ⟨some a, cap, rfl, .inl rfl⟩, fun f hf => by simp at hf, by decide⟩
    · have each : ∀ i, i < len → ∃ f : Pr, (∀ j, j < 4 → W.cell? ((a.add (i * 4)).add j) = f.cells[j]?) ∧ f.nm.size ≤ maxLen ∧ f.s.size ≤ maxLen := by
        intro i hi
        obtain ⟨cs', h1, h2⟩ := hall i (by omega)
        rw [cells56] at h1
        obtain ⟨_, hlen, hcell⟩ := World.cells?_some h1
        obtain ⟨f, rfl, z⟩ := cells_prop hlen h2
        exact ⟨f, hcell, z⟩
      haveI : Inhabited Pr := ⟨⟨⟨#[]⟩, 0, 0, ⟨#[]⟩⟩⟩
      obtain ⟨q, hq⟩ := choose_lt each
      have hsp : a.spot = none ∧ a.block < W.heap.size := by
        have c0 := (hq 0 (by omega)).1 0 (by decide)
        rw [addz, Nat.zero_mul, addz] at c0
        exact cell_plain (c0.trans rfl)
      obtain ⟨bk, off, spot⟩ := a
      obtain ⟨e1, e2⟩ := hsp
      simp only at e1 e2
      subst e1
      refine ⟨(List.range len).map q, ⟨_, cap, by simp, .inr ⟨bk, off, rfl, e2, fun k y hy => ?_⟩⟩, fun f hf => ?_, by simp; omega⟩
      · rw [List.getElem?_map] at hy
        obtain ⟨k', h1, h2⟩ := Option.map_eq_some_iff.1 hy
        obtain ⟨h3, h4⟩ := List.getElem?_eq_some_iff.1 h1
        simp at h3 h4
        subst h4; subst h2
        have hh := (hq k h3).1
        have c0 := hh 0 (by decide)
        have c1 := hh 1 (by decide)
        have c2 := hh 2 (by decide)
        have c3 := hh 3 (by decide)
        rw [Addr.add_lit, Addr.add_lit] at c0 c1 c2 c3
        exact ⟨by simpa [Pr.cells] using c0, by simpa [Pr.cells] using c1, by simpa [Pr.cells] using c2, by simpa [Pr.cells] using c3⟩
      · obtain ⟨i, hi, rfl⟩ := List.mem_map.1 hf
        exact (hq i (List.mem_range.1 hi)).2
set_option maxRecDepth 100000 in
/-- Nodes within. -/
theorem open_nodes {W : World} {b : Nat} {sp : Nat → Bool} {hd : Bool} {n : Nat} {v : Value} {x : DataW H × List MemPlace} (h : DataW.trod enc Try.prog W b sp hd n 22 [v] = some x) : ∃ N, IsN W v N ∧ SzN N ∧ N.length ≤ maxLen := by
  rcases open_slice Try.underlying22 h with ⟨hc, _⟩ | ⟨a, len, cap, m, n, D, Pl, hc, hb, hl, hm, hmm, _, hall⟩
  · simp only [List.cons.injEq, and_true] at hc
    exact ⟨[], ⟨none, 0, hc, Nat.le_refl _, .inl rfl⟩, fun f hf => by simp at hf, by decide⟩
  · simp only [List.cons.injEq, and_true] at hc
    subst hc
    have hlm : len ≤ m := by rw [hmm]; split <;> omega
    by_cases h0 : len = 0
    · subst h0
      exact ⟨[], ⟨some a, cap, rfl, Nat.zero_le _, .inl rfl⟩, fun f hf => by simp at hf, by decide⟩
    · have each : ∀ i, i < len → ∃ f : Nd, (W.cell? ((a.add (i * 3)).add 0) = some (.int .i64 f.id) ∧ W.cell? ((a.add (i * 3)).add 1) = some (.string f.kd) ∧ W.cell? ((a.add (i * 3)).add 2) = some f.rv ∧ IsR W f.rv f.rc) ∧ f.kd.size ≤ maxLen ∧ Sz f.rc ∧ f.rc.length ≤ maxLen := by
        intro i hi
        obtain ⟨cs', h1, h2⟩ := hall i (by omega)
        rw [cells29] at h1
        obtain ⟨_, hlen, hcell⟩ := World.cells?_some h1
        obtain ⟨y0, y1, y2, k, hxy, _, u0, u1, u2⟩ := trod_struct3 Try.underlying30 h2
        match cs', hlen with
        | [v0, v1, v2], _ =>
          simp only [cells9, cells3, cells27, List.drop, List.take] at u0 u1 u2
          obtain ⟨q0, e0, d0, _⟩ := DataW.trod_int Try.underlying3 u0
          obtain ⟨s1, e1, d1, z1⟩ := DataW.trod_string Try.underlying9 u1
          simp only [List.cons.injEq, and_true] at e0 e1
          subst e0; subst e1
          obtain ⟨l, hR, hZ, hl'⟩ := open_props u2
          have c0 := hcell 0 (by omega)
          have c1 := hcell 1 (by omega)
          have c2 := hcell 2 (by omega)
          exact ⟨⟨q0, s1, v2, l⟩, ⟨by simpa using c0, by simpa using c1, by simpa using c2, hR⟩, z1, hZ, hl'⟩
      haveI : Inhabited Nd := ⟨⟨0, ⟨#[]⟩, .nilIface, []⟩⟩
      obtain ⟨q, hq⟩ := choose_lt each
      have hsp : a.spot = none ∧ a.block < W.heap.size := by
        have c0 := (hq 0 (by omega)).1.1
        rw [addz, Nat.zero_mul, addz] at c0
        exact cell_plain c0
      obtain ⟨bk, off, spot⟩ := a
      obtain ⟨e1, e2⟩ := hsp
      simp only at e1 e2
      subst e1
      refine ⟨(List.range len).map q, ⟨_, cap, by simp, by simpa using hl, .inr ⟨bk, off, rfl, e2, fun k y hy => ?_⟩⟩, fun f hf => ?_, by simp; omega⟩
      · rw [List.getElem?_map] at hy
        obtain ⟨k', h1, h2⟩ := Option.map_eq_some_iff.1 hy
        obtain ⟨h3, h4⟩ := List.getElem?_eq_some_iff.1 h1
        simp at h3 h4
        subst h4; subst h2
        obtain ⟨c0, c1, c2, c3⟩ := (hq k h3).1
        rw [Addr.add_lit, Addr.add_lit] at c0 c1 c2
        exact ⟨c0, c1, c2, c3⟩
      · obtain ⟨i, hi, rfl⟩ := List.mem_map.1 hf
        exact (hq i (List.mem_range.1 hi)).2
set_option maxRecDepth 100000 in
/-- Ties within. -/
theorem open_ties {W : World} {b : Nat} {sp : Nat → Bool} {hd : Bool} {n : Nat} {v : Value} {x : DataW H × List MemPlace} (h : DataW.trod enc Try.prog W b sp hd n 23 [v] = some x) : ∃ T, IsT W v T ∧ SzT T ∧ T.length ≤ maxLen := by
  rcases open_slice Try.underlying23 h with ⟨hc, _⟩ | ⟨a, len, cap, m, n, D, Pl, hc, hb, hl, hm, hmm, _, hall⟩
  · simp only [List.cons.injEq, and_true] at hc
    exact ⟨[], ⟨none, 0, hc, Nat.le_refl _, .inl rfl⟩, fun f hf => by simp at hf, by decide⟩
  · simp only [List.cons.injEq, and_true] at hc
    subst hc
    have hlm : len ≤ m := by rw [hmm]; split <;> omega
    by_cases h0 : len = 0
    · subst h0
      exact ⟨[], ⟨some a, cap, rfl, Nat.zero_le _, .inl rfl⟩, fun f hf => by simp at hf, by decide⟩
    · have each : ∀ i, i < len → ∃ f : Te, (W.cell? ((a.add (i * 3)).add 0) = some (.string f.bd) ∧ W.cell? ((a.add (i * 3)).add 1) = some (.int .i64 f.fr) ∧ W.cell? ((a.add (i * 3)).add 2) = some (.int .i64 f.tt)) ∧ f.bd.size ≤ maxLen := by
        intro i hi
        obtain ⟨cs', h1, h2⟩ := hall i (by omega)
        rw [cells31] at h1
        obtain ⟨_, hlen, hcell⟩ := World.cells?_some h1
        obtain ⟨y0, y1, y2, k, hxy, _, u0, u1, u2⟩ := trod_struct3 Try.underlying40 h2
        match cs', hlen with
        | [v0, v1, v2], _ =>
          simp only [cells9, cells3, List.drop, List.take] at u0 u1 u2
          obtain ⟨s0, e0, d0, z0⟩ := DataW.trod_string Try.underlying9 u0
          obtain ⟨q1, e1, d1, _⟩ := DataW.trod_int Try.underlying3 u1
          obtain ⟨q2, e2, d2, _⟩ := DataW.trod_int Try.underlying3 u2
          simp only [List.cons.injEq, and_true] at e0 e1 e2
          subst e0; subst e1; subst e2
          have c0 := hcell 0 (by omega)
          have c1 := hcell 1 (by omega)
          have c2 := hcell 2 (by omega)
          exact ⟨⟨s0, q1, q2⟩, ⟨by simpa using c0, by simpa using c1, by simpa using c2⟩, z0⟩
      haveI : Inhabited Te := ⟨⟨⟨#[]⟩, 0, 0⟩⟩
      obtain ⟨q, hq⟩ := choose_lt each
      have hsp : a.spot = none ∧ a.block < W.heap.size := by
        have c0 := (hq 0 (by omega)).1.1
        rw [addz, Nat.zero_mul, addz] at c0
        exact cell_plain c0
      obtain ⟨bk, off, spot⟩ := a
      obtain ⟨e1, e2⟩ := hsp
      simp only at e1 e2
      subst e1
      refine ⟨(List.range len).map q, ⟨_, cap, by simp, by simpa using hl, .inr ⟨bk, off, rfl, e2, fun k y hy => ?_⟩⟩, fun f hf => ?_, by simp; omega⟩
      · rw [List.getElem?_map] at hy
        obtain ⟨k', h1, h2⟩ := Option.map_eq_some_iff.1 hy
        obtain ⟨h3, h4⟩ := List.getElem?_eq_some_iff.1 h1
        simp at h3 h4
        subst h4; subst h2
        obtain ⟨c0, c1, c2⟩ := (hq k h3).1
        rw [Addr.add_lit, Addr.add_lit] at c0 c1 c2
        exact ⟨c0, c1, c2⟩
      · obtain ⟨i, hi, rfl⟩ := List.mem_map.1 hf
        exact (hq i (List.mem_range.1 hi)).2
set_option maxRecDepth 100000 in
/-- A graph that came in. -/
theorem open_graph {W : World} {r : Reach} {b0 b : Nat} {sp : Nat → Bool} {hd : Bool} {v : Value} {d : DataW H} {p : List MemPlace} (hv : Value.okWide Try.prog W r b0 25 v) (h : DataW.Trod enc Try.prog W b sp hd 25 v d p) :
    ∃ vn vt N T, v = .agg #[vn, vt] ∧ IsN W vn N ∧ IsT W vt T ∧ SzN N ∧ SzT T ∧ N.length ≤ maxLen ∧ T.length ≤ maxLen := by
  simp only [Value.okWide, Try.underlying25] at hv
  obtain ⟨cs, rfl, hcs, ts, hts, _, hrow⟩ := hv
  rw [cells25] at hcs
  obtain rfl := Option.some.inj (types25.symm.trans hts)
  obtain ⟨l⟩ := cs
  match l, hcs with
  | [vk, vb], _ =>
    obtain ⟨t0, e0, w0⟩ := hrow 0 vk rfl
    obtain ⟨t1, e1, w1⟩ := hrow 1 vb rfl
    obtain rfl : 22 = t0 := by simpa using e0
    obtain rfl : 23 = t1 := by simpa using e1
    have o0 : Value.okWide Try.prog W r b0 22 vk := by simp only [Value.okWide, Try.underlying22]; exact w0
    have o1 : Value.okWide Try.prog W r b0 23 vb := by simp only [Value.okWide, Try.underlying23]; exact w1
    obtain ⟨a0, l0, c0, rfl⟩ := okWide_slice Try.underlying22 o0
    obtain ⟨a1, l1, c1, rfl⟩ := okWide_slice Try.underlying23 o1
    obtain ⟨fuel, hf⟩ := h
    have hf' : DataW.trod enc Try.prog W b sp hd fuel 25 [.slice a0 l0 c0, .slice a1 l1 c1] = some (d, p) := by simpa [Value.cells] using hf
    obtain ⟨y0, y1, k, _, _, u0, u1⟩ := trod_struct2 Try.underlying25 hf'
    simp only [cells22, cells23, List.drop, List.take] at u0 u1
    obtain ⟨N, h1, h2, h3⟩ := open_nodes u0
    obtain ⟨T, h4, h5, h6⟩ := open_ties u1
    exact ⟨_, _, N, T, rfl, h1, h4, h2, h5, h3, h6⟩
end
end Go.Proofs.Ytidmfdbckpficaa
