/-
  slices.AppendSeq and slices.Collect of the keys of a map of values.
-/
import Derived.Test.YtodddcacngjadaaKyB
namespace Go.Proofs.Ytodddcacngjadaa
open Go.RowKit Go.Shelf
set_option linter.unusedVariables false
set_option linter.unusedSimpArgs false

theorem infoV3 : (Try.prog.info? 24).map (fun i => (i.zero, i.size, i.bytes)) = some (some (.agg #[.int .i64 0, .int .i64 0, .string ⟨#[]⟩]), 3, 32) := by kernel_rfl
def apAssign : Code := (Code.region 2 #[{ dst := some 5, op := Op.alloc 24, type := 0, pos := "iter.go:51", after := #[], guard := none }, { dst := none, op := Op.store 24 (Operand.tmp 5) (Operand.tmp 7), type := 0, pos := "iter.go:51", after := #[{ on := 0, ground := Ground.data }, { on := 0, ground := Ground.phase }], guard := none }] false)
def apBody : Code := (Code.block 1 (Code.region 3 #[{ dst := some 8, op := Op.load 56 (Operand.tmp 2), type := 56, pos := "iter.go:52", after := #[], guard := none }, { dst := some 9, op := Op.load 24 (Operand.tmp 5), type := 24, pos := "iter.go:52", after := #[], guard := none }, { dst := some 10, op := Op.buildSlice 56 1 #[(0, Operand.tmp 9)], type := 56, pos := "iter.go:52", after := #[{ on := 1, ground := Ground.data }], guard := none }, { dst := some 11, op := Op.call { callee := Callee.builtin Builtin.append, args := #[Operand.tmp 8, Operand.tmp 10], argTypes := #[56, 56] }, type := 56, pos := "iter.go:52", after := #[{ on := 0, ground := Ground.data }, { on := 2, ground := Ground.data }], guard := none }, { dst := none, op := Op.store 56 (Operand.tmp 2) (Operand.tmp 11), type := 0, pos := "iter.go:52", after := #[{ on := 3, ground := Ground.data }, { on := 3, ground := Ground.chain }, { on := 0, ground := Ground.phase }, { on := 1, ground := Ground.phase }, { on := 2, ground := Ground.phase }, { on := 3, ground := Ground.phase }], guard := none }] false))
def apRec (fn : FuncId) (sv : Value) (Bs D : Nat) (st : LoopState) (pend : Option Code) : Loop :=
  { state := st, pending := pend, fn, tmps := #[.slice none 0 0, sv, .pointer (some ⟨Bs, 0, none⟩), undef, .slice none 0 0, undef, sv, undef, undef, undef, undef, undef, undef], params := #[7], assign := apAssign, body := apBody, defers := D }
structure ApAt (w0 : World) (fn : FuncId) (sv : Value) (Bs l D : Nat) (ss : List V3) (W : World) : Prop where
  box : ∃ v, W.heap[Bs]? = some (.cells #[v] 56 (0, 0)) ∧ W.ownsRow w0.heap.size 24 3 v ss.length (ss.flatMap cells3)
  L : W.heap[l]? = some (.loop (apRec fn sv Bs D .ready none))
  K : W.heap[D]? = some (.deferred (some []))
  below : Below w0.heap.size w0 W
theorem ap_abides (w0 : World) (fn : FuncId) (sv : Value) (Bs l D B : Nat) (hB : w0.heap.size ≤ B) : AbidesFrom B (ApAt w0 fn sv Bs l D) := fun s W W' row h hg hrow => by
  have hrow' : ∀ r, row = some r → ∃ o : Obj, W.heap[r]? = some o ∧ o.isWalk = true := fun r e => (hrow r e).2
  obtain ⟨v, hv, hr⟩ := h.box
  exact ⟨⟨v, (grownBy_keeps hg hrow' hv rfl).trans hv, ownsRow_abides_a hr hg hrow'⟩, (grownBy_keeps hg hrow' h.L rfl).trans h.L, (grownBy_keeps hg hrow' h.K rfl).trans h.K,
    h.below.grown hg h.below.size (fun k e => Nat.le_trans hB (hrow k e).1)⟩
theorem flat3_snoc (ss : List V3) (x : V3) : (ss ++ [x]).flatMap cells3 = ss.flatMap cells3 ++ cells3 x := by simp

set_option maxRecDepth 100000 in
set_option maxHeartbeats 4000000 in
theorem apYield (F : Fence) (m : Nat) (w0 : World) (fn : FuncId) (hfn : F.fn fn) (sv : Value) (Bs l D : Nat) (hBl : Bs ≠ l) (hDl : D ≠ l) (hDB : D ≠ Bs) (h0B : w0.heap.size ≤ Bs) (h0l : w0.heap.size ≤ l)
    (ss : List V3) (x : V3) (W : World) (h : ApAt w0 fn sv Bs l D ss W) (hlen : ss.length < 1000) :
    YieldAt F m Try.prog l #[enc3 x] W fun e W' => e = .returned (.bool true) ∧ ApAt w0 fn sv Bs l D (ss ++ [x]) W' ∧ KeepsWalks W W' := by
  obtain ⟨i0, hi, hz0, hz1, hz2⟩ := info_partsR infoV3
  obtain ⟨v, hv, hrow⟩ := h.box
  refine ⟨fn, #[.slice none 0 0, sv, .pointer (some ⟨Bs, 0, none⟩), undef, .slice none 0 0, undef, sv, enc3 x, undef, undef, undef, undef, undef], apAssign, apBody, by simpa [apRec] using run_yield (P := Try.prog) (args := #[enc3 x]) h.L rfl, roundIn_of_wpIn hfn ?_⟩
  have hl : l < W.heap.size := (Array.getElem?_eq_some_iff.1 h.L).1
  have hBlt : Bs < W.heap.size := (Array.getElem?_eq_some_iff.1 hv).1
  have hDlt : D < W.heap.size := (Array.getElem?_eq_some_iff.1 h.K).1
  have hBn : ¬ Bs = W.heap.size := by omega
  have hln : ¬ W.heap.size = l := by omega
  obtain ⟨W1, hW1⟩ : ∃ W1, W1 = W.alloc (.cells #[.int .i64 x.t, .int .i64 x.n, .string x.s] 24) := ⟨_, rfl⟩
  have hs1 : W1.heap.size = W.heap.size + 1 := by rw [hW1]; simp
  have hL1 : W1.heap[l]? = some (.loop (apRec fn sv Bs D .ready none)) := by rw [hW1]; exact (Below.heap_alloc _ _ l hl).trans h.L
  have hv1 : W1.heap[Bs]? = some (.cells #[v] 56 (0, 0)) := by rw [hW1]; exact (Below.heap_alloc _ _ Bs hBlt).trans hv
  have hK1 : W1.heap[D]? = some (.deferred (some [])) := by rw [hW1]; exact (Below.heap_alloc _ _ D hDlt).trans h.K
  have n1 : W1.heap[W.heap.size]? = some (.cells #[.int .i64 x.t, .int .i64 x.n, .string x.s] 24 (0, 0)) := by rw [hW1]; exact heap_alloc_new W _
  have hrow1 : W1.ownsRow w0.heap.size 24 3 v ss.length (ss.flatMap cells3) := by rw [hW1]; exact hrow.alloc _
  have hb1 : Below w0.heap.size w0 W1 := by rw [hW1]; exact h.below.alloc h.below.size _
  have hk1 : KeepsWalks W W1 := by rw [hW1]; exact KeepsWalks.alloc _ _
  have hl1 : l < W1.heap.size := by omega
  have hbr := run_beginRound (P := Try.prog) hL1 rfl
  obtain ⟨W3, hW3⟩ : ∃ W3, W1.putObj l (.loop { apRec fn sv Bs D .ready none with state := .busy }) = W3 := ⟨_, rfl⟩
  rw [hW3] at hbr
  have hg3 : W1.grownBy W3 (some l) := by rw [← hW3]; exact grownBy_putObj_a _ _ _
  have hs3 : W3.heap.size = W.heap.size + 1 := by rw [← hW3]; simp [hs1]
  have hv3 : W3.heap[Bs]? = some (.cells #[v] 56 (0, 0)) := by rw [← hW3]; exact (World.putObj_heap_other hBl).trans hv1
  have hK3 : W3.heap[D]? = some (.deferred (some [])) := by rw [← hW3]; exact (World.putObj_heap_other hDl).trans hK1
  have hL3 : W3.heap[l]? = some (.loop { apRec fn sv Bs D .ready none with state := .busy }) := by rw [← hW3]; exact World.putObj_heap_same hl1
  have hrow3 : W3.ownsRow w0.heap.size 24 3 v ss.length (ss.flatMap cells3) := hrow1.kept hg3 (ownsRow_ne_a hrow1 hL1 (fun cur e => by cases e))
  have hb3 : Below w0.heap.size w0 W3 := hb1.grown hg3 hb1.size (fun k e => by cases e; exact h0l)
  have hk3 : KeepsWalks W W3 := by rw [← hW3]; exact hk1.trans (KeepsWalks.putObj _ hL1 rfl)
  have n3 : W3.heap[W.heap.size]? = some (.cells #[.int .i64 x.t, .int .i64 x.n, .string x.s] 24 (0, 0)) := by rw [← hW3]; exact (World.putObj_heap_other hln).trans n1
  have q0 : W3.cell? ⟨W.heap.size, 0, none⟩ = some (.int .i64 x.t) := cell_at n3 rfl
  have q1 : W3.cell? ⟨W.heap.size, 1, none⟩ = some (.int .i64 x.n) := cell_at n3 rfl
  have q2 : W3.cell? ⟨W.heap.size, 2, none⟩ = some (.string x.s) := cell_at n3 rfl
  obtain ⟨hc3, hf3⟩ := cell_of_box_a hv3
  have ne_of : ∀ {j : Nat} {o : Obj}, W3.heap[j]? = some o → (∀ cur, o ≠ .cells cur 24 (0, 0)) → some j ≠ v.ownBlock := fun hj hno => by
    rcases ownsRow_ne_a hrow3 hj hno with e | e
    · rw [e]; simp
    · exact fun e' => e e'.symm
  have ne3 : ∀ {j : Nat} {o : Obj}, W3.heap[j]? = some o → j < W3.heap.size := fun hj => (Array.getElem?_eq_some_iff.1 hj).1
  have hn3 : W3.heap.size ≠ Bs := by omega
  have hBb : ¬ Bs = W3.heap.size := by omega
  rw [hW1] at hbr
  have HH := Lib.hid (And.intro hW1 hW3)
  have HS3 := Lib.hid hs3
  clear hs3
  clear hW1 hW3 h hv hrow hL1 hv1 hK1 n1 hrow1 hb1 hk1 hg3
  unfold apAssign enc3
  gi_wp2_with gi_round_op_a
  unfold apBody
  have HR3 := Lib.hid (hrow3.alloc (.cells #[.int .i64 x.t, .int .i64 x.n, .string x.s] 24))
  gi_wp2_with (first
    | (gi_at_builtin; refine wpListIn_append_own _ rfl _ _ 56 rfl w0.heap.size 24 i0 _ 3 32 Try.underlying56 hi hz0 hz1 hz2 rfl (by decide) _ _ _ rfl HR3.out ⟨W3.heap.size, 0, none⟩ 1 1 [.int .i64 x.t, .int .i64 x.n, .string x.s] rfl rfl (new_at W3 [.int .i64 x.t, .int .i64 x.n, .string x.s] 24) (by simp [Value.oneCell']) (by unfold maxLen; omega) (by omega) (by have := hb3.size; simp; omega) ?_; intro v' w4 hown' hg4 hnil4; refine Hid.out ?_)
    | gi_round_op_a)
  refine Lib.hid ?_
  have hg4' : (W3.alloc (.cells #[.int .i64 x.t, .int .i64 x.n, .string x.s] 24)).grownBy w4 v.ownBlock := hg4
  have hcx : ∀ (u : Value) (cur : Array Value), Obj.cells #[u] 56 ≠ Obj.cells cur 24 (0, 0) := fun u cur e => absurd (Obj.cells.inj e).2.1 (by decide)
  have hv4 : w4.heap[Bs]? = some (.cells #[v] 56 (0, 0)) := (hg4'.block Bs (by have := ne3 hv3; simp; omega) (ne_of hv3 (hcx _))).trans ((Below.heap_alloc _ _ Bs (ne3 hv3)).trans hv3)
  have hL4 : w4.heap[l]? = some (.loop { apRec fn sv Bs D .ready none with state := .busy }) := (hg4'.block l (by have := ne3 hL3; simp; omega) (ne_of hL3 (fun cur e => by cases e))).trans ((Below.heap_alloc _ _ l (ne3 hL3)).trans hL3)
  have hK4 : w4.heap[D]? = some (.deferred (some [])) := (hg4'.block D (by have := ne3 hK3; simp; omega) (ne_of hK3 (fun cur e => by cases e))).trans ((Below.heap_alloc _ _ D (ne3 hK3)).trans hK3)
  obtain ⟨hc4, hf4⟩ := cell_of_box_a hv4
  obtain ⟨ao, co, hvo⟩ := own_slice hown'
  subst hvo
  have hb4 : Below w0.heap.size w0 w4 := (hb3.alloc hb3.size _).grown hg4' (by have := hb3.size; simp; omega) (fun k e => (hrow3.lt k e).1)
  have hk4 : KeepsWalks W w4 := (hk3.trans (KeepsWalks.alloc _ _)).trans (KeepsWalks.of_grownBy hg4' (ownsRow_not_walk_a HR3.out))
  obtain ⟨w5, hw5⟩ : ∃ w5, w5 = w4.setCell ⟨Bs, 0, none⟩ (.slice ao (ss.length + 1) co) := ⟨_, rfl⟩
  have hg5 : w4.grownBy w5 (some Bs) := by rw [hw5]; exact grownBy_setCell0_a _ _ _
  have hv5 : w5.heap[Bs]? = some (.cells #[.slice ao (ss.length + 1) co] 56 (0, 0)) := by rw [hw5]; exact heap_setCell_box_a _ hv4
  have hL5 : w5.heap[l]? = some (.loop { apRec fn sv Bs D .ready none with state := .busy }) := (hg5.block l (Array.getElem?_eq_some_iff.1 hL4).1 (fun e => hBl (by cases e; rfl))).trans hL4
  have hK5 : w5.heap[D]? = some (.deferred (some [])) := (hg5.block D (Array.getElem?_eq_some_iff.1 hK4).1 (fun e => hDB (by cases e; rfl))).trans hK4
  have hrow5 := hown'.kept hg5 (ownsRow_ne_a hown' hv4 (hcx _))
  have hl5 : l < w5.heap.size := (Array.getElem?_eq_some_iff.1 hL5).1
  have hb5 : Below w0.heap.size w0 w5 := hb4.grown hg5 hb4.size (fun k e => by cases e; exact h0B)
  have hk5 : KeepsWalks W w5 := hk4.trans (by rw [hw5]; exact KeepsWalks.setCell _ _ _)
  have HZ := Lib.hid (And.intro hrow5 (And.intro hb5 (And.intro hk5 (And.intro hv5 (And.intro hL5 (And.intro hK5 hl5))))))
  clear hrow5 hb5 hk5 hv5 hL5 hK5 hl5 hg5 hb4 hk4 hL4 hK4 hg4' hg4 hown' hnil4 hL3 hK3 hb3 hk3 hrow3 hv3 n3 hcx ne_of ne3 HR3 q0 q1 q2 hc3 hf3 hv4 hbr
  gi_wp2_with gi_round_op_a
  rw [← hw5]
  obtain ⟨hrow5, hb5, hk5, hv5, hL5, hK5, hl5⟩ := HZ.out
  refine ⟨_, _, run_endRound none hL5, rfl, ⟨⟨_, (World.putObj_heap_other hBl).trans hv5, ?_⟩, World.putObj_heap_same hl5, (World.putObj_heap_other hDl).trans hK5, hb5.grown (grownBy_putObj_a _ _ _) hb5.size (fun k e => by cases e; exact h0l)⟩, hk5.trans (KeepsWalks.putObj _ hL5 rfl)⟩
  have := hrow5.kept (grownBy_putObj_a w5 l (.loop { { apRec fn sv Bs D .ready none with state := .busy } with state := if (none : Option Code).isNone then .ready else .done, pending := none })) (ownsRow_ne_a hrow5 hL5 (fun cur e => by cases e))
  rw [flat3_snoc, List.length_append]
  exact this
end Go.Proofs.Ytodddcacngjadaa
