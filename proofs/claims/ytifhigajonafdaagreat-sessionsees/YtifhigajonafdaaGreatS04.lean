/-
  A graph of the call's own: how it lies, and what keeps it; appending to nothing; rows of elements of several cells.
-/
import Derived.Test.YtifhigajonafdaaGreatS03
import Derived.Lib.AppendZeros
import Derived.Deep.DeepCutAuto
import Derived.Laws.Externs
import Derived.Deep.QuietTactic
import Derived.BigQuiet
import Derived.BigGuard
import Derived.Deep.RegionWith
namespace Go.Proofs.YtifhigajonafdaaGreat
open Go.RowKit
set_option linter.unusedVariables false
set_option linter.unusedSimpArgs false

section
variable {α : Type} {f : α → List Value} {sz : Nat}
theorem flatK (h : ∀ x, (f x).length = sz) : ∀ (L : List α) (k : Nat) (x : α) (i : Nat), L[k]? = some x → i < sz → (L.flatMap f)[k * sz + i]? = (f x)[i]?
  | [], k, x, i, hk, _ => by simp at hk
  | y :: r, 0, x, i, hk, hi => by
    simp at hk; subst hk
    rw [List.flatMap_cons, List.getElem?_append_left (by rw [h]; omega)]
    simp
  | y :: r, k + 1, x, i, hk, hi => by
    rw [List.flatMap_cons, List.getElem?_append_right (by rw [h, Nat.add_mul]; omega), h]
    have := flatK h r k x i (by simpa using hk) hi
    rw [← this]
    congr 1
    rw [Nat.add_mul]; omega
theorem flatK_len (h : ∀ x, (f x).length = sz) : ∀ L : List α, (L.flatMap f).length = L.length * sz
  | [] => by simp
  | y :: r => by rw [List.flatMap_cons, List.length_append, h, flatK_len h r, List.length_cons, Nat.add_mul]; omega
theorem flatK_inv (h : ∀ x, (f x).length = sz) (L : List α) {j : Nat} {u : Value} (hu : (L.flatMap f)[j]? = some u) : ∃ k x i, L[k]? = some x ∧ i < sz ∧ j = k * sz + i ∧ (f x)[i]? = some u := by
  have hj := (List.getElem?_eq_some_iff.1 hu).1
  rw [flatK_len h] at hj
  have hsz : 0 < sz := Nat.pos_of_ne_zero (fun e => by subst e; simp at hj)
  have hk : j / sz < L.length := Nat.div_lt_of_lt_mul (by rw [Nat.mul_comm]; exact hj)
  have hi : j % sz < sz := Nat.mod_lt _ hsz
  have hji : j = j / sz * sz + j % sz := by rw [Nat.mul_comm]; exact (Nat.div_add_mod j sz).symm
  refine ⟨j / sz, L[j / sz], j % sz, by simp [hk], hi, hji, ?_⟩
  rw [← flatK h L (j / sz) _ (j % sz) (by simp [hk]) hi, ← hji]
  exact hu
theorem flatK_take (h : ∀ x, (f x).length = sz) (L : List α) (k : Nat) : (L.take k).flatMap f = (L.flatMap f).take (k * sz) := by
  induction L generalizing k with
  | nil => simp
  | cons y r ih =>
    cases k with
    | zero => simp
    | succ k =>
      rw [List.take_succ_cons, List.flatMap_cons, ih, List.flatMap_cons, List.take_append, h, List.take_of_length_le (l := f y) (by rw [h, Nat.add_mul]; omega), show (k + 1) * sz - sz = k * sz by rw [Nat.add_mul]; omega]
theorem flatK_drop (h : ∀ x, (f x).length = sz) (L : List α) (k : Nat) : (L.drop k).flatMap f = (L.flatMap f).drop (k * sz) := by
  induction L generalizing k with
  | nil => simp
  | cons y r ih =>
    cases k with
    | zero => simp
    | succ k =>
      rw [List.drop_succ_cons, ih, List.flatMap_cons, List.drop_append, h, show List.drop ((k + 1) * sz) (f y) = [] from List.drop_eq_nil_of_le (by rw [h, Nat.add_mul]; omega), List.nil_append, show (k + 1) * sz - sz = k * sz by rw [Nat.add_mul]; omega]
theorem flatK_set (h : ∀ x, (f x).length = sz) (L : List α) (k : Nat) (x : α) (hk : k < L.length) : (L.set k x).flatMap f = (L.flatMap f).take (k * sz) ++ f x ++ (L.flatMap f).drop ((k + 1) * sz) := by
  rw [List.set_eq_take_append_cons_drop, if_pos hk, List.flatMap_append, List.flatMap_cons, flatK_take h, flatK_drop h, List.append_assoc]
end

theorem nd_len (n : Nd) : n.cells.length = 3 := rfl
theorem te_len (t : Te) : t.cells.length = 3 := rfl
theorem pr_len (p : Pr) : p.cells.length = 4 := rfl
def cellsR (L : List Pr) : List Value := L.flatMap Pr.cells
theorem pr_one (L : List Pr) : ∀ u ∈ cellsR L, u.oneCell' = true := by
  intro u hu
  obtain ⟨p, _, hp⟩ := List.mem_flatMap.1 hu
  simp [Pr.cells] at hp
  rcases hp with rfl | rfl | rfl | rfl <;> rfl
theorem te_one (L : List Te) : ∀ u ∈ cellsT L, u.oneCell' = true := by
  intro u hu
  obtain ⟨p, _, hp⟩ := List.mem_flatMap.1 hu
  simp [Te.cells] at hp
  rcases hp with rfl | rfl | rfl <;> rfl
def SlN (N : List Nd) : Prop := ∀ n ∈ N, ∃ a l c, n.rv = .slice a l c
theorem nd_one {N : List Nd} (h : SlN N) : ∀ u ∈ cellsN N, u.oneCell' = true := by
  intro u hu
  obtain ⟨p, hp0, hp⟩ := List.mem_flatMap.1 hu
  obtain ⟨a, l, c, e⟩ := h p hp0
  simp [Nd.cells, e] at hp
  rcases hp with rfl | rfl | rfl <;> rfl

def OwnRc (w : World) (base : Nat) (v : Value) (L : List Pr) : Prop := w.ownsRow base 52 4 v L.length (cellsR L)
def OwnNs (w : World) (base : Nat) (v : Value) (N : List Nd) : Prop := w.ownsRow base 48 3 v N.length (cellsN N) ∧ ∀ n ∈ N, OwnRc w base n.rv n.rc
def OwnTs (w : World) (base : Nat) (v : Value) (T : List Te) : Prop := w.ownsRow base 54 3 v T.length (cellsT T)
def OG (w : World) (base p : Nat) (N : List Nd) (T : List Te) : Prop := ∃ vn vt, base ≤ p ∧ w.heap[p]? = some (.cells #[vn, vt] 29 (0, 0)) ∧ OwnNs w base vn N ∧ OwnTs w base vt T
theorem OwnRc.kt {w w' : World} {base : Nat} {v : Value} {L : List Pr} (h : OwnRc w base v L) (hk : Kt 52 w w') : OwnRc w' base v L := own_kt h hk
theorem OwnNs.kt {w w' : World} {base : Nat} {v : Value} {N : List Nd} (h : OwnNs w base v N) (hk : Kt 48 w w') (hr : Kt 52 w w') : OwnNs w' base v N := ⟨own_kt h.1 hk, fun n hn => (h.2 n hn).kt hr⟩
theorem OwnTs.kt {w w' : World} {base : Nat} {v : Value} {T : List Te} (h : OwnTs w base v T) (hk : Kt 54 w w') : OwnTs w' base v T := own_kt h hk
theorem OG.on {w w' : World} {base p : Nat} {N : List Nd} {T : List Te} (h : OG w base p N T) (hB : Below w.heap.size w w') : OG w' base p N T := by
  obtain ⟨vn, vt, h1, h2, h3, h4⟩ := h
  exact ⟨vn, vt, h1, (hB.block p (Array.getElem?_eq_some_iff.1 h2).1).trans h2, h3.kt (.of_below hB) (.of_below hB), h4.kt (.of_below hB)⟩
theorem OwnRc.sl {w : World} {base : Nat} {v : Value} {L : List Pr} (h : OwnRc w base v L) : ∃ a l c, v = .slice a l c := by
  obtain ⟨ao, cp, rfl⟩ := own_slice h
  exact ⟨_, _, _, rfl⟩
theorem OwnNs.sl {w : World} {base : Nat} {v : Value} {N : List Nd} (h : OwnNs w base v N) : SlN N := fun n hn => (h.2 n hn).sl
theorem OwnRc.isR {w : World} {base : Nat} {v : Value} {L : List Pr} (h : OwnRc w base v L) : IsR w v L := by
  have hc : ∀ g, v.ownBlock = some g → ∀ j u, (cellsR L)[j]? = some u → w.cell? ((⟨g, 0, none⟩ : Addr).add j) = some u := fun g hg => World.ownsRow.cells h hg
  rcases h.2 with ⟨rfl, h0⟩ | ⟨g, cap, cur, rfl, hb, hg, hle, hm, rest⟩
  · exact ⟨none, 0, by rw [h0], .inl (List.eq_nil_of_length_eq_zero h0)⟩
  · refine ⟨_, cap, rfl, .inr ⟨g, 0, rfl, (Array.getElem?_eq_some_iff.1 hg).1, fun k p hp => ?_⟩⟩
    have c : ∀ i u, i < 4 → p.cells[i]? = some u → w.cell? ⟨g, 0 + (k * 4 + i), none⟩ = some u := fun i u hi hu => by
      have := hc g rfl (k * 4 + i) u ((flatK pr_len L k p i hp hi).trans hu)
      rwa [Addr.add_lit] at this
    exact ⟨c 0 _ (by omega) rfl, c 1 _ (by omega) rfl, c 2 _ (by omega) rfl, c 3 _ (by omega) rfl⟩
theorem OwnNs.isN {w : World} {base : Nat} {v : Value} {N : List Nd} (h : OwnNs w base v N) : IsN w v N := own_isN h.1 fun n hn => (h.2 n hn).isR
theorem OwnTs.isT {w : World} {base : Nat} {v : Value} {T : List Te} (h : OwnTs w base v T) : IsT w v T := own_isT h

def HasC (w : World) (v : Value) (n : Nat) (xs : List Value) : Prop := ∃ ao c, v = .slice ao n c ∧ ((n = 0 ∧ xs = []) ∨ ∃ b off, ao = some ⟨b, off, none⟩ ∧ b < w.heap.size ∧ ∀ j u, xs[j]? = some u → w.cell? ((⟨b, off, none⟩ : Addr).add j) = some u)
theorem HasC.on {w w' : World} {v : Value} {n : Nat} {xs : List Value} (h : HasC w v n xs) (hB : Below w.heap.size w w') : HasC w' v n xs := by
  obtain ⟨ao, c, rfl, h0 | ⟨b, off, rfl, hb, hL⟩⟩ := h
  · exact ⟨ao, c, rfl, .inl h0⟩
  · refine ⟨_, c, rfl, .inr ⟨b, off, rfl, Nat.lt_of_lt_of_le hb hB.size, fun j u hu => ?_⟩⟩
    have := hL j u hu
    rw [Addr.add_lit] at this ⊢
    exact (hB.cell hb).trans this
theorem IsR.has {w : World} {v : Value} {L : List Pr} (h : IsR w v L) : HasC w v L.length (cellsR L) := by
  obtain ⟨ao, c, rfl, rfl | ⟨b, off, rfl, hb, hL⟩⟩ := h
  · exact ⟨ao, c, rfl, .inl ⟨rfl, rfl⟩⟩
  · refine ⟨_, c, rfl, .inr ⟨b, off, rfl, hb, fun j u hu => ?_⟩⟩
    obtain ⟨k, x, i, hk, hi, rfl, hx⟩ := flatK_inv pr_len L hu
    obtain ⟨c0, c1, c2, c3⟩ := hL k x hk
    rw [Addr.add_lit, ← Nat.add_assoc]
    match i, hi with
    | 0, _ => exact c0.trans hx
    | 1, _ => exact c1.trans hx
    | 2, _ => exact c2.trans hx
    | 3, _ => exact c3.trans hx
theorem IsN.has {w : World} {v : Value} {L : List Nd} (h : IsN w v L) : HasC w v L.length (cellsN L) := by
  obtain ⟨ao, c, rfl, _, rfl | ⟨b, off, rfl, hb, hL⟩⟩ := h
  · exact ⟨ao, c, rfl, .inl ⟨rfl, rfl⟩⟩
  · refine ⟨_, c, rfl, .inr ⟨b, off, rfl, hb, fun j u hu => ?_⟩⟩
    obtain ⟨k, x, i, hk, hi, rfl, hx⟩ := flatK_inv nd_len L hu
    obtain ⟨c0, c1, c2, _⟩ := hL k x hk
    rw [Addr.add_lit, ← Nat.add_assoc]
    match i, hi with
    | 0, _ => exact c0.trans hx
    | 1, _ => exact c1.trans hx
    | 2, _ => exact c2.trans hx
theorem IsT.has {w : World} {v : Value} {L : List Te} (h : IsT w v L) : HasC w v L.length (cellsT L) := by
  obtain ⟨ao, c, rfl, _, rfl | ⟨b, off, rfl, hb, hL⟩⟩ := h
  · exact ⟨ao, c, rfl, .inl ⟨rfl, rfl⟩⟩
  · refine ⟨_, c, rfl, .inr ⟨b, off, rfl, hb, fun j u hu => ?_⟩⟩
    obtain ⟨k, x, i, hk, hi, rfl, hx⟩ := flatK_inv te_len L hu
    obtain ⟨c0, c1, c2⟩ := hL k x hk
    rw [Addr.add_lit, ← Nat.add_assoc]
    match i, hi with
    | 0, _ => exact c0.trans hx
    | 1, _ => exact c1.trans hx
    | 2, _ => exact c2.trans hx
theorem IsR.sl {w : World} {v : Value} {L : List Pr} (h : IsR w v L) : ∃ a l c, v = .slice a l c := by
  obtain ⟨ao, c, rfl, _⟩ := h
  exact ⟨_, _, _, rfl⟩
theorem IsN.sl {w : World} {v : Value} {N : List Nd} (h : IsN w v N) : SlN N := by
  obtain ⟨ao, c, rfl, _, rfl | ⟨b, off, rfl, hb, hL⟩⟩ := h
  · intro n hn; cases hn
  · intro n hn
    obtain ⟨k, hk⟩ := List.getElem?_of_mem hn
    exact (hL k n hk).2.2.2.sl

section
variable {P : Program}
theorem run_append_nothing (w : World) (t ty e : TypeId) (i : TypeInfo) (ht : P.underlying t = some (.slice e)) (hi : P.info? e = some i) (ao : Option Addr) (c : Nat) :
    (Builtin.append_ #[t, t] ty #[.slice none 0 0, .slice ao 0 c]).run P w = .ok (.slice none 0 0) w := by
  cases ao <;> simp [Builtin.append_, run_underlying ht, sizeOf, typeInfo, hi, Builtin.lenOf, Builtin.firstCells, loadCells, loadCellsFrom]
theorem run_clone (w : World) (base : Nat) (t ty e : TypeId) (i : TypeInfo) (z : Value) (size bytes : Nat) (ht : P.underlying t = some (.slice e)) (hi : P.info? e = some i) (hz : i.zero = some z)
    (hsize : i.size = size) (hby : i.bytes = bytes) (hzs : z.cells.size = size) (hsz : 0 < size) (u : Value) (m : Nat) (news : List Value) (hx : HasC w u m news) (hl : news.length = m * size) (h1 : ∀ u ∈ news, u.oneCell' = true)
    (h63 : m ≤ maxLen) (hbytes : m * bytes ≤ 140737488355328) (hbase : base ≤ w.heap.size) :
    ∃ v' w', (Builtin.append_ #[t, t] ty #[.slice none 0 0, u]).run P w = .ok v' w' ∧ w'.ownsRow base e size v' m news ∧ w.grownBy w' none := by
  obtain ⟨ao, c, rfl, ⟨rfl, rfl⟩ | ⟨b, off, rfl, hb, hL⟩⟩ := hx
  · exact ⟨_, w, run_append_nothing w t ty e i ht hi ao c, World.ownsRow_nil _ _ _ _, ⟨rfl, rfl, rfl, Nat.le_refl _, fun _ _ _ => rfl⟩⟩
  · obtain ⟨v', w', r1, r2, r3, _⟩ := run_append_own (P := P) w base t ty e i z size bytes ht hi hz hsize hby hzs hsz (.slice none 0 0) 0 [] (World.ownsRow_nil _ _ _ _) ⟨b, off, none⟩ m c news hl hL h1 (by omega) (by rw [Nat.zero_add]; exact hbytes) hbase
    refine ⟨v', w', r1, ?_, r3⟩
    simpa using r2
theorem wp_append_E {w : World} {o : Oper} {a : Act} {K : Act → World → Prop} {Q : Exit → Act → World → Prop} (s x : Operand) (t : TypeId) (ho : o.op = .call { callee := .builtin .append, args := #[s, x], argTypes := #[t, t] })
    (v u : Value) (hs : a.eval s = v) (hx : a.eval x = u) {R : Value → World → Prop} (hr : ∃ v' w', (Builtin.append_ #[t, t] o.type #[v, u]).run P w = .ok v' w' ∧ R v' w') (hK : ∀ v' w', R v' w' → K (a.put o.dst v') w') : o.wp P a w K Q := by
  obtain ⟨v', w', hr, r2⟩ := hr
  unfold Oper.wp execOp
  simp only [ho, resolve, invoke, builtin, Sem.run_bind, Sem.run_pure, Result.andThen_ok, List.map_toArray, List.map_cons, List.map_nil, hs, hx, hr]
  exact hK v' w' r2
theorem wpList_append_E {w : World} {ops : Array Oper} {rest : List Oper} {o : Oper} {a : Act} {Q : Exit → Act → World → Prop} (hg : o.guard = none) (s x : Operand) (t : TypeId) (ho : o.op = .call { callee := .builtin .append, args := #[s, x], argTypes := #[t, t] })
    (v u : Value) (hs : a.eval s = v) (hx : a.eval x = u) {R : Value → World → Prop} (hr : ∃ v' w', (Builtin.append_ #[t, t] o.type #[v, u]).run P w = .ok v' w' ∧ R v' w') (hK : ∀ v' w', R v' w' → wpList P ops Q rest (a.put o.dst v') w') : wpList P ops Q (o :: rest) a w :=
  wpList_plain hg fun K hK' => wp_append_E s x t ho v u hs hx hr (fun v' w' r => hK' _ _ (hK v' w' r))
theorem step_append_E {w : World} {ops : Array Oper} {o : Oper} {a : Act} {K : Act → World → Prop} {Q : Exit → Act → World → Prop} {E : Prop} (hg : o.guard = none) (s x : Operand) (t : TypeId) (ho : o.op = .call { callee := .builtin .append, args := #[s, x], argTypes := #[t, t] })
    (v u : Value) (hs : a.eval s = v) (hx : a.eval x = u) {R : Value → World → Prop} (hr : ∃ v' w', (Builtin.append_ #[t, t] o.type #[v, u]).run P w = .ok v' w' ∧ R v' w') (hK : ∀ v' w', R v' w' → K (a.put o.dst v') w') :
    if Region.wanted o (yielded ops a.tmps) = true then Oper.wp P o a w K Q else E := by
  have hw : Region.wanted o (yielded ops a.tmps) = true := by simp [Region.wanted, hg]
  rw [if_pos hw]
  exact wp_append_E s x t ho v u hs hx hr hK
end
theorem infoP : (Tryz.prog.info? 52).map (fun i => (i.zero, i.size, i.bytes)) = some (some (.agg #[.string ⟨#[]⟩, .int .i64 0, .int .i64 0, .string ⟨#[]⟩]), 4, 48) := by kernel_rfl
theorem clone_rec (w : World) (base : Nat) (hb : base ≤ w.heap.size) {v : Value} {L : List Pr} (h : IsR w v L) (hl : L.length ≤ 1000) (ty : TypeId) :
    ∃ v' w', (Builtin.append_ #[46, 46] ty #[.slice none 0 0, v]).run Tryz.prog w = .ok v' w' ∧ (OwnRc w' base v' L ∧ w.grownBy w' none) := by
  obtain ⟨i0, hi0, hz0, hz1, hz2⟩ := info_parts infoP
  exact run_clone w base 46 ty 52 i0 _ 4 48 Tryz.underlying46 hi0 hz0 hz1 hz2 rfl (by decide) v _ _ h.has (flatK_len pr_len L) (pr_one L) (by unfold maxLen; omega) (by omega) hb
theorem clone_ties (w : World) (base : Nat) (hb : base ≤ w.heap.size) {v : Value} {L : List Te} (h : IsT w v L) (hl : L.length ≤ 1000) (ty : TypeId) :
    ∃ v' w', (Builtin.append_ #[27, 27] ty #[.slice none 0 0, v]).run Tryz.prog w = .ok v' w' ∧ (OwnTs w' base v' L ∧ w.grownBy w' none) := by
  obtain ⟨i0, hi0, hz0, hz1, hz2⟩ := info_parts infoT
  exact run_clone w base 27 ty 54 i0 _ 3 32 Tryz.underlying27 hi0 hz0 hz1 hz2 rfl (by decide) v _ _ h.has (flatK_len te_len L) (te_one L) (by unfold maxLen; omega) (by omega) hb
end Go.Proofs.YtifhigajonafdaaGreat

/-
  The walks of delta.copiedNode and delta.copied.
-/
namespace Go.Proofs.YtifhigajonafdaaGreat
open Go.RowKit
set_option linter.unusedVariables false
set_option linter.unusedSimpArgs false

abbrev cpW (w : World) (n : Nd) : World := (w.alloc (.cells #[.int .i64 n.id, .string n.kd, n.rv] 48)).alloc (.cells #[.int .i64 0, .string ⟨#[]⟩, .slice none 0 0] 48)
theorem cpW_below (w : World) (n : Nd) : Below w.heap.size w (cpW w n) := b_alloc (b_alloc (Below.refl _ _) _) _
theorem cpW_0 (w : World) (n : Nd) : (cpW w n).heap[w.heap.size]? = some (.cells #[.int .i64 n.id, .string n.kd, n.rv] 48 (0, 0)) :=
  (heap_alloc_old _ _ (by simp)).trans (heap_alloc_new w _)
theorem cpW_1 (w : World) (n : Nd) : (cpW w n).heap[w.heap.size + 1]? = some (.cells #[.int .i64 0, .string ⟨#[]⟩, .slice none 0 0] 48 (0, 0)) := by
  have := heap_alloc_new (w.alloc (.cells #[.int .i64 n.id, .string n.kd, n.rv] 48)) (.cells #[.int .i64 0, .string ⟨#[]⟩, .slice none 0 0] 48)
  rwa [World.size_alloc] at this

set_option maxHeartbeats 1000000 in
theorem copiedNode_any (n : Nd) (w : World) (hR : IsR w n.rv n.rc) (hl : n.rc.length ≤ 1000) :
    Calls Tryz.prog 21 #[n.one] w fun e w' => ∃ v', e = .returned (.agg #[.int .i64 n.id, .string n.kd, v']) ∧ OwnRc w' w.heap.size v' n.rc ∧ Below w.heap.size w w' := by
  have hR0 := hR.on (cpW_below w n)
  have hcl := fun ty => clone_rec (cpW w n) w.heap.size (cpW_below w n).size hR0 hl ty
  have HB : Hid (Below w.heap.size w (cpW w n) ∧ (cpW w n).heap[w.heap.size]? = some (.cells #[.int .i64 n.id, .string n.kd, n.rv] 48 (0, 0)) ∧ (cpW w n).heap[w.heap.size + 1]? = some (.cells #[.int .i64 0, .string ⟨#[]⟩, .slice none 0 0] 48 (0, 0)) ∧ (cpW w n).heap.size = w.heap.size + 2) := ⟨cpW_below w n, cpW_0 w n, cpW_1 w n, by simp [cpW]⟩
  obtain ⟨av, lv, cv, hv⟩ := hR.sl
  obtain ⟨id, kd, rv, rc⟩ := n
  simp only at hv hl hcl HB
  subst hv
  clear hR hR0
  unfold cpW at hcl
  go_enter Tryz.func21, Tryz.ntmps21
  go_wp2_with (at_builtin; refine wpList_append_E rfl _ _ 46 rfl _ _ rfl rfl (hcl _) ?_; rintro v1 w1 ⟨hown, hgrow⟩; refine Hid.out ?_)
  refine Lib.hid ?_
  obtain ⟨ao, cp, rfl⟩ := own_slice hown
  obtain ⟨hB, h0, h1, hsz⟩ := HB.out
  have k0 := (hgrow.block w.heap.size (by simp; omega) (by simp)).trans h0
  have k1 := (hgrow.block (w.heap.size + 1) (by simp) (by simp)).trans h1
  have HO : Hid (OwnRc w1 w.heap.size (.slice ao rc.length cp) rc ∧ Below w.heap.size w w1 ∧ w1.heap[w.heap.size]? = some (.cells #[.int .i64 id, .string kd, .slice av lv cv] 48 (0, 0)) ∧ w1.heap[w.heap.size + 1]? = some (.cells #[.int .i64 0, .string ⟨#[]⟩, .slice none 0 0] 48 (0, 0))) := ⟨hown, below_grown hB hgrow (by rw [hsz]; omega) (fun k hk => by cases hk), k0, k1⟩
  have c0 : w1.cell? ⟨w.heap.size, 0, none⟩ = some (.int .i64 id) := cell_at k0 rfl
  have c1 : w1.cell? ⟨w.heap.size, 1, none⟩ = some (.string kd) := cell_at k0 rfl
  have c2 : w1.cell? ⟨w.heap.size, 2, none⟩ = some (.slice av lv cv) := cell_at k0 rfl
  have f2 : w1.frozen? ⟨w.heap.size, 2, none⟩ = false := frz_at k0
  have d0 : w1.cell? ⟨w.heap.size + 1, 0, none⟩ = some (.int .i64 0) := cell_at k1 rfl
  have d1 : w1.cell? ⟨w.heap.size + 1, 1, none⟩ = some (.string ⟨#[]⟩) := cell_at k1 rfl
  have d2 : w1.cell? ⟨w.heap.size + 1, 2, none⟩ = some (.slice none 0 0) := cell_at k1 rfl
  have g0 : w1.frozen? ⟨w.heap.size + 1, 0, none⟩ = false := frz_at k1
  have g1 : w1.frozen? ⟨w.heap.size + 1, 1, none⟩ = false := frz_at k1
  have g2 : w1.frozen? ⟨w.heap.size + 1, 2, none⟩ = false := frz_at k1
  clear hB h0 h1 hsz k0 k1 hown hgrow HB hcl
  go_wp2
  obtain ⟨o1, o2, o3, o4⟩ := HO.out
  refine bodyPost_ret (v := .agg #[.int .i64 id, .string kd, .slice ao rc.length cp]) ?_ rfl ⟨_, rfl, ?_, ?_⟩
  · simp [results, Tryz.results21, go_sem, c0, c1, c2, d0, d1, d2]
  · exact o1.kt (((Kt.refl _ _).ty ⟨_, o3⟩ (by decide) _ _).ty3 (Ty.set ⟨_, o4⟩ _ _ _) (by decide) _ _ _ _ _ _)
  · exact below_set3 (o2.setCell (Nat.le_refl _) _) (by omega) _ _ _ _ _ _

theorem grown_below {w w' : World} (h : w.grownBy w' none) : Below w.heap.size w w' := below_grown (Below.refl _ _) h (Nat.le_refl _) (fun k hk => by cases hk)
def Nd.c (n : Nd) : Nd := ⟨n.id, n.kd, .nilIface, n.rc⟩
def cN (N : List Nd) : List Nd := N.map Nd.c

theorem b_undrew {w W : World} (h : Below w.drew.heap.size w.drew W) : Below w.heap.size w W := ⟨h.os, h.tape, h.output, h.size, h.block⟩
theorem cell_old {w : World} {p : Addr} {v : Value} (h : w.cell? p = some v) (o : Obj) : (w.alloc o).cell? p = some v := ((b_alloc (Below.refl _ w) o).cell (cell_lt h)).trans h
theorem cut3 (A : List Value) (j : Nat) (h : j + 3 ≤ A.length) : ∃ L x y z R, A = L ++ x :: y :: z :: R ∧ L.length = j := by
  refine ⟨A.take j, A[j], A[j + 1], A[j + 2], A.drop (j + 3), ?_, by simp; omega⟩
  rw [← List.drop_eq_getElem_cons (by omega), ← List.drop_eq_getElem_cons (by omega), ← List.drop_eq_getElem_cons (by omega), List.take_append_drop]
theorem set3 (A : List Value) (j : Nat) (a b c : Value) (h : j + 3 ≤ A.length) : ((A.set j a).set (j + 1) b).set (j + 2) c = A.take j ++ [a, b, c] ++ A.drop (j + 3) := by
  obtain ⟨L, x, y, z, R, rfl, rfl⟩ := cut3 A j h
  simp [List.set_append, List.take_append, List.drop_append]
theorem cellsN_set (M : List Nd) (k : Nat) (hk : k < M.length) (a : Int) (b : ByteArray) (v : Value) (rc : List Pr) : (((cellsN M).set (k * 3) (.int .i64 a)).set (k * 3 + 1) (.string b)).set (k * 3 + 2) v = cellsN (M.set k ⟨a, b, v, rc⟩) := by
  have hl : (cellsN M).length = M.length * 3 := flatK_len nd_len M
  rw [set3 _ _ _ _ _ (by rw [hl]; omega)]
  unfold cellsN
  rw [flatK_set nd_len M k _ hk, show (k + 1) * 3 = k * 3 + 3 by omega]
  rfl
end Go.Proofs.YtifhigajonafdaaGreat

/-
  The walks of delta.findNode and what it calls: where the node of an id stands, or would stand.
-/
namespace Go.Proofs.YtifhigajonafdaaGreat
open Go.RowKit
set_option linter.unusedVariables false
set_option linter.unusedSimpArgs false

def SrtN (N : List Nd) : Prop := N.Pairwise fun a b => a.id < b.id
def loN (id : Int) : List Nd → Nat
  | [] => 0
  | n :: r => if n.id < id then loN id r + 1 else 0
theorem loN_le (id : Int) : ∀ l : List Nd, loN id l ≤ l.length
  | [] => Nat.le_refl _
  | n :: r => by have := loN_le id r; unfold loN; split <;> simp <;> omega
theorem loN_spec (id : Int) : ∀ {l : List Nd}, SrtN l → ∀ (i : Nat) (g : Nd), l[i]? = some g → (i < loN id l ↔ g.id < id)
  | [], _, i, g, hg => by simp at hg
  | x :: r, h, i, g, hg => by
    obtain ⟨h1, h2⟩ := List.pairwise_cons.1 h
    by_cases hx : x.id < id
    · have e : loN id (x :: r) = loN id r + 1 := by simp [loN, hx]
      rw [e]
      cases i with
      | zero => simp at hg; subst hg; simp [hx]
      | succ i =>
        have := loN_spec id h2 i g (by simpa using hg)
        rw [← this]; omega
    · have e : loN id (x :: r) = 0 := by simp [loN, hx]
      rw [e]
      have hge : x.id ≤ g.id := by
        cases i with
        | zero => simp at hg; subst hg; omega
        | succ i => have := h1 g (List.mem_of_getElem? (by simpa using hg)); omega
      constructor
      · intro h; omega
      · intro h; omega
def fndN (id : Int) (N : List Nd) : Bool := match N[loN id N]? with
  | some g => g.id == id
  | none => false
theorem cmpI_lt (x y : Int) : Lib.compareInt x y < 0 ↔ x < y := by unfold Lib.compareInt; split <;> (try split) <;> omega
theorem cmpI_zero (x y : Int) : Lib.compareInt x y = 0 ↔ x = y := by unfold Lib.compareInt; split <;> (try split) <;> omega

set_option maxHeartbeats 1000000 in
theorem byId_any (n : Nd) (id : Int) (w : World) (hv : ∃ a l c, n.rv = .slice a l c) :
    Calls Tryz.prog 138 #[n.one, .int .i64 id] w fun e w' => e = .returned (.int .i64 (Lib.compareInt n.id id)) ∧ Below w.heap.size w w' := by
  obtain ⟨i, kd, rv, rc⟩ := n
  obtain ⟨a, l, c, rfl⟩ := hv
  have cc := fun w => cmp_any i id w
  simp only
  generalize Lib.compareInt i id = r at cc ⊢
  go_enter Tryz.func138, Tryz.ntmps138
  go_wp2_with (go_at_call 126; refine (cc _).mono ?_; rintro e w' ⟨rfl, rfl⟩)
  go_ret
  exact ⟨rfl, b_alloc (Below.refl _ _) _⟩

theorem wp_region_after {P : Program} {X : Type} (F : X → World) {id : Nat} {Q : Exit → Act → World → Prop} {a : Act} {w : World} {l : List Oper} (hm : P.follows .mixedOrders = true) (hB : Region.lexB .any l.toArray = true)
    (hC : ∃ x, { w with drawn := w.drawn + 1 } = F x) (h : wpQuiet P l.toArray (fun w' => ∃ x, w' = F x) (fun a' => ∀ w', (∃ x, w' = F x) → Q .normal a' w') l a) : (Code.region id l.toArray true).wp P Q a w :=
  wp_region_quiet (C := fun w' => ∃ x, w' = F x) hm hB hC (by simpa using h)
theorem after_all (w : World) : ∃ (X : Type) (_ : Nonempty X) (F : X → World), (∀ x, Below w.heap.size w (F x)) ∧ (∀ W, Below w.heap.size w W → ∃ x, W = F x) :=
  ⟨{ W // Below w.heap.size w W }, ⟨⟨w, Below.refl _ _⟩⟩, Subtype.val, fun x => x.2, fun W h => ⟨⟨W, h⟩, rfl⟩⟩

set_option maxHeartbeats 4000000 in
set_option maxRecDepth 100000 in
theorem searchN_some (b off cap : Nat) (L : List Nd) (id : Int) (w : World) (hb : b < w.heap.size) (hL : LiesN w b off L) (hs : SrtN L) (hn : L.length ≤ 96) :
    Calls Tryz.prog 137 #[.slice (some ⟨b, off, none⟩) L.length cap, .int .i64 id, .func (.func 138) #[] #[]] w fun e w' => e = .returned (.tuple #[.int .i64 (loN id L), .bool (fndN id L)]) ∧ Below w.heap.size w w' := by
  have hlo := loN_le id L
  have HS : Hid (LiesN w b off L ∧ SrtN L) := ⟨hL, hs⟩
  clear hL hs
  go_enter Tryz.func137, Tryz.ntmps137
  go_wp2
  go_loopw [9, 10] (fun i j wr => ∃ p q : Nat, p ≤ loN id L ∧ loN id L ≤ q ∧ q ≤ L.length ∧ i = .int .i64 p ∧ j = .int .i64 q ∧ Below w.heap.size w wr) (fun i j _ => (intOf j).toNat - (intOf i).toNat)
  case atStart => exact ⟨0, L.length, Nat.zero_le _, hlo, Nat.le_refl _, rfl, rfl, Below.refl _ _⟩
  case round =>
    obtain ⟨p, q, h1, h2, h3, rfl, rfl, hBw⟩ := hrel
    have HR : Hid (p ≤ loN id L ∧ loN id L ≤ q ∧ Below w.heap.size w wr) := ⟨h1, h2, hBw⟩
    by_cases hlt : p < q
    · obtain ⟨m, hm⟩ : ∃ m, m = (p + q) / 2 := ⟨_, rfl⟩
      have hml : m < L.length := by omega
      have hmq : m < q := by omega
      have hpm : p ≤ m := by omega
      have hdiv : ((p : Int) + (q : Int)) / 2 = (m : Int) := by omega
      obtain ⟨x, hx⟩ : ∃ x, L[m]? = some x := ⟨L[m], by simp [hml]⟩
      obtain ⟨c0, c1, c2, c3⟩ := HS.out.1 m x hx
      have d0 := (hBw.cell (p := ⟨b, off + m * 3, none⟩) hb).trans c0
      have d1 := (hBw.cell (p := ⟨b, off + m * 3 + 1, none⟩) hb).trans c1
      have d2 := (hBw.cell (p := ⟨b, off + m * 3 + 2, none⟩) hb).trans c2
      have hsp := loN_spec id HS.out.2 m x hx
      rw [← cmpI_lt] at hsp
      have cb := fun W => byId_any x id W c3.sl
      obtain ⟨av, lv, cv, hv⟩ := c3.sl
      obtain ⟨r, hr⟩ : ∃ r, Lib.compareInt x.id id = r := ⟨_, rfl⟩
      rw [hr] at cb hsp
      obtain ⟨xi, xk, xv, xr⟩ := x
      simp only at hv d0 d1 d2 cb
      subst hv
      clear c0 c1 c2 c3 hr hx hm
      by_cases hr0 : r < 0
      · have HM : Hid (m + 1 ≤ loN id L) := hsp.2 hr0
        clear hsp h1 h2
        go_wp2_with fail
        try rw [hdiv]
        clear hdiv
        go_wp2_with (go_at_call 138; refine (cb _).mono ?_; rintro e W2 ⟨rfl, hB2⟩)
        go_roundw
        case rel => exact ⟨m + 1, q, HM.out, HR.out.2.1, h3, by go_num, rfl, on1K HR.out.2.2 hB2 (Nat.le_refl _)⟩
        case measure => simp [intOf]; omega
      · have HM : Hid (loN id L ≤ m) := by
          show _ ≤ _
          have : ¬ m < loN id L := fun h => hr0 (hsp.1 h)
          omega
        clear hsp h1 h2
        go_wp2_with fail
        try rw [hdiv]
        clear hdiv
        go_wp2_with (go_at_call 138; refine (cb _).mono ?_; rintro e W2 ⟨rfl, hB2⟩)
        go_roundw
        case rel => exact ⟨p, m, HR.out.1, HM.out, by omega, rfl, by go_num, on1K HR.out.2.2 hB2 (Nat.le_refl _)⟩
        case measure => simp [intOf]; omega
    · have hpl : p = loN id L := by omega
      by_cases hl : p < L.length
      · obtain ⟨x, hx⟩ : ∃ x, L[p]? = some x := ⟨L[p], by simp [hl]⟩
        obtain ⟨c0, c1, c2, c3⟩ := HS.out.1 p x hx
        have d0 := (hBw.cell (p := ⟨b, off + p * 3, none⟩) hb).trans c0
        have d1 := (hBw.cell (p := ⟨b, off + p * 3 + 1, none⟩) hb).trans c1
        have d2 := (hBw.cell (p := ⟨b, off + p * 3 + 2, none⟩) hb).trans c2
        have cb := fun W => byId_any x id W c3.sl
        obtain ⟨av, lv, cv, hv⟩ := c3.sl
        have hfnd : fndN id L = (Lib.compareInt x.id id == 0) := by
          unfold fndN; rw [← hpl, hx]; simp only
          rw [Bool.eq_iff_iff, beq_iff_eq, beq_iff_eq]; exact (cmpI_zero x.id id).symm
        obtain ⟨r, hr⟩ : ∃ r, Lib.compareInt x.id id = r := ⟨_, rfl⟩
        rw [hr] at cb hfnd
        have HF : Hid (fndN id L = (r == 0) ∧ p = loN id L) := ⟨hfnd, hpl⟩
        have hpi : (p : Int) < (L.length : Int) := by omega
        have hpd : decide ((p : Int) < (L.length : Int)) = true := by simpa using hpi
        obtain ⟨xi, xk, xv, xr⟩ := x
        simp only at hv d0 d1 d2 cb
        subst hv
        clear c0 c1 c2 c3 hr hx hfnd hpl h1 h2
        go_wp2_with (go_at_call 138; refine (cb _).mono ?_; rintro e W2 ⟨rfl, hB2⟩)
        go_ret2
        exact ⟨ret_v (by rw [HF.out.1, ← HF.out.2]; rfl), on1K HR.out.2.2 hB2 (Nat.le_refl _)⟩
      · have hfnd : fndN id L = false := by
          unfold fndN; rw [← hpl, List.getElem?_eq_none (by omega)]
        have HF : Hid (fndN id L = false ∧ p = loN id L) := ⟨hfnd, hpl⟩
        have hpi : ¬ (p : Int) < (L.length : Int) := by omega
        have hpd : decide ((p : Int) < (L.length : Int)) = false := by simpa using hpi
        clear hfnd hpl h1 h2
        go_wp2
        go_ret2
        exact ⟨ret_v (by rw [HF.out.1, ← HF.out.2]; rfl), HR.out.2.2⟩
set_option maxHeartbeats 4000000 in
theorem searchN_nil (ao : Option Addr) (c : Nat) (id : Int) (w : World) :
    Calls Tryz.prog 137 #[.slice ao 0 c, .int .i64 id, .func (.func 138) #[] #[]] w fun e w' => e = .returned (.tuple #[.int .i64 0, .bool false]) ∧ Below w.heap.size w w' := by
  go_enter Tryz.func137, Tryz.ntmps137
  go_wp2
  go_loopw [9, 10] (fun i j wr => i = .int .i64 0 ∧ j = .int .i64 0 ∧ wr = w) (fun i j _ => 0)
  case atStart => exact ⟨rfl, rfl, rfl⟩
  case round =>
    obtain ⟨rfl, rfl, rfl⟩ := hrel
    go_wp2
    go_ret2
    exact ⟨rfl, Below.refl _ _⟩
theorem searchN_any {v : Value} {L : List Nd} {w : World} (h : IsN w v L) (hs : SrtN L) (hn : L.length ≤ 96) (id : Int) :
    Calls Tryz.prog 137 #[v, .int .i64 id, .func (.func 138) #[] #[]] w fun e w' => e = .returned (.tuple #[.int .i64 (loN id L), .bool (fndN id L)]) ∧ Below w.heap.size w w' := by
  obtain ⟨ao, c, rfl, hc, rfl | ⟨b, off, rfl, hb, hl⟩⟩ := h
  · exact searchN_nil ao c id w
  · exact searchN_some b off c L id w hb hl hs hn
set_option maxHeartbeats 1000000 in
theorem findNode_any {v : Value} {L : List Nd} {w : World} (h : IsN w v L) (hs : SrtN L) (hn : L.length ≤ 96) (id : Int) :
    Calls Tryz.prog 107 #[v, .int .i64 id] w fun e w' => e = .returned (.tuple #[.int .i64 (loN id L), .bool (fndN id L)]) ∧ Below w.heap.size w w' := by
  have cs := searchN_any h hs hn id
  obtain ⟨ao, c, rfl, _⟩ := h
  generalize loN id L = lo at cs ⊢
  generalize fndN id L = f at cs ⊢
  go_enter Tryz.func107, Tryz.ntmps107
  go_wp2_with (go_at_call 137; refine cs.mono ?_; rintro e W2 ⟨rfl, hB2⟩)
  go_ret2
  exact ⟨rfl, hB2⟩
end Go.Proofs.YtifhigajonafdaaGreat
