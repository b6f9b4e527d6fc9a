/-
  The walk of delta.dropNode: a graph without one of its nodes, and without the ties that have it as an end.
-/
import Derived.Test.YtkgblicmkijpdaaDelC
import Derived.Test.YtkgblicmkijpdaaDelF
import Derived.Deep.RegionHeld3
namespace Go.Proofs.Ytkgblicmkijpdaa
open Go.RowKit
set_option linter.unusedVariables false
set_option linter.unusedSimpArgs false

theorem mem_erase {N : List Nd} {i : Nat} {n : Nd} (h : n ∈ N.eraseIdx i) : n ∈ N := List.mem_of_mem_eraseIdx h

theorem fndN_lt {id : Int} {N : List Nd} (hf : fndN id N = true) : loN id N < N.length := by
  rcases Nat.lt_or_ge (loN id N) N.length with h | h
  · exact h
  · unfold fndN at hf; rw [List.getElem?_eq_none h] at hf; cases hf
/-- What a graph of the call's own is, in all worlds that come behind. -/
theorem og_open {w W : World} {base p : Nat} {N : List Nd} {T : List Te} (h : OG w base p N T) (hB : Below w.heap.size w W) : OG W base p N T := h.on hB

set_option maxHeartbeats 4000000 in
set_option maxRecDepth 100000 in
theorem dropNode_no {w : World} {base p : Nat} {N : List Nd} {T : List Te} (h : OG w base p N T) (hs : SrtN N) (h60 : N.length ≤ 96) (id : Int) (hf : fndN id N = false) :
    Calls Try.prog 39 #[.pointer (some ⟨p, 0, none⟩), .int .i64 id] w fun e w' => e = .returned (errV 5) ∧ Below w.heap.size w w' := by
  obtain ⟨vn, vt, hbp, hpb, hN, hT⟩ := h
  have hpl : p < w.heap.size := (Array.getElem?_eq_some_iff.1 hpb).1
  obtain ⟨W0, hW0⟩ : ∃ W0, W0 = w.alloc (.cells #[.int .i64 id] 3) := ⟨_, rfl⟩
  have hB0 : Below w.heap.size w W0 := by rw [hW0]; exact b_alloc (Below.refl _ _) _
  have hi0 : W0.heap[w.heap.size]? = some (.cells #[.int .i64 id] 3 (0, 0)) := by rw [hW0]; exact heap_alloc_new w _
  have cF := fun W (hB : Below W0.heap.size W0 W) => findNode_any (hN.isN.on (on1K hB0 hB (Nat.le_refl _))) hs h60 id
  rw [hf] at cF
  obtain ⟨an, cn, hvn⟩ := own_slice hN.1
  obtain ⟨am, cm, hvt⟩ := own_slice hT
  subst hvn hvt
  have hs0 : W0.heap.size = w.heap.size + 1 := by rw [hW0]; simp
  have x0 : W0.cell? ⟨p, 0, none⟩ = some (.slice an N.length cn) := cell_at ((hB0.block p hpl).trans hpb) rfl
  have x1 : W0.cell? ⟨w.heap.size, 0, none⟩ = some (.int .i64 id) := cell_at hi0 rfl
  have HX : Hid (∀ W, Below W0.heap.size W0 W → W.cell? ⟨p, 0, none⟩ = some (.slice an N.length cn) ∧ W.cell? ⟨w.heap.size, 0, none⟩ = some (.int .i64 id)) := fun W hB => ⟨(hB.cell (by show p < _; omega)).trans x0, (hB.cell (by show w.heap.size < _; omega)).trans x1⟩
  have HB : Hid (Below w.heap.size w W0) := hB0
  clear hpb hN hT hB0 hi0 hf hs0
  generalize loN id N = lo at *
  go_enter Try.func39, Try.ntmps39
  go_wp2
  rw [← hW0]
  clear hW0
  first | (go_region_held (fun w' => w'.cell? ⟨p, 0, none⟩ = some (.slice an N.length cn) ∧ w'.cell? ⟨w.heap.size, 0, none⟩ = some (.int .i64 id)) (go_keep) (first | (go_at_call 55; refine (cF _ (b_drew (Below.refl _ W0))).mono ?_; rintro e W1 ⟨rfl, hB1'⟩; have hB1 := b_undrew hB1'; clear hB1'; obtain ⟨z0, z1⟩ := HX.out W1 hB1))) | fail
  all_goals
    go_wp2
    go_ret
    exact ⟨rfl, on1K HB.out hB1 (Nat.le_refl _)⟩

/-- A graph behind a pointer, with a word of its own beside it. -/
structure DnW (W : World) (base p q : Nat) (id : Int) (vn vt : Value) (N : List Nd) (T : List Te) : Prop where
  hp : W.heap[p]? = some (.cells #[vn, vt] 25 (0, 0))
  hq : W.heap[q]? = some (.cells #[.int .i64 id] 3 (0, 0))
  hN : OwnNs W base vn N
  hT : OwnTs W base vt T
theorem DnW.on {W W' : World} {base p q : Nat} {id : Int} {vn vt : Value} {N : List Nd} {T : List Te} (h : DnW W base p q id vn vt N T) (hB : Below W.heap.size W W') : DnW W' base p q id vn vt N T :=
  ⟨(hB.block p (Array.getElem?_eq_some_iff.1 h.hp).1).trans h.hp, (hB.block q (Array.getElem?_eq_some_iff.1 h.hq).1).trans h.hq, h.hN.kt (.of_below hB) (.of_below hB), h.hT.kt (.of_below hB)⟩
/-- Its nodes are others. -/
theorem DnW.nodes {W W' : World} {base p q : Nat} {id : Int} {vn vt vn' : Value} {N N' : List Nd} {T : List Te} (h : DnW W base p q id vn vt N T) (hg : W.grownBy W' vn.ownBlock) (hN : W'.ownsRow base 30 3 vn' N'.length (cellsN N')) (hs : ∀ n ∈ N', n ∈ N) : DnW (W'.setCell ⟨p, 0, none⟩ vn') base p q id vn' vt N' T := by
  have e1 : W'.heap[p]? = some (.cells #[vn, vt] 25 (0, 0)) := (hg.block p (Array.getElem?_eq_some_iff.1 h.hp).1 (fun e => row_apart h.hN.1 h.hp (by decide) e.symm)).trans h.hp
  have e2 : W'.heap[q]? = some (.cells #[.int .i64 id] 3 (0, 0)) := (hg.block q (Array.getElem?_eq_some_iff.1 h.hq).1 (fun e => row_apart h.hN.1 h.hq (by decide) e.symm)).trans h.hq
  have ne : q ≠ p := by
    intro e; subst e; have := h.hq; rw [h.hp] at this; injection this with e1; injection e1 with _ e2; exact absurd e2 (by decide)
  have ty : Ty W' p 25 := ⟨_, e1⟩
  have k29 : Kt 30 W' (W'.setCell ⟨p, 0, none⟩ vn') := (Kt.refl _ _).ty ty (by decide) _ _
  have k31 : Kt 40 W (W'.setCell ⟨p, 0, none⟩ vn') := (Kt.of_own h.hN.1 (by decide) hg).trans ((Kt.refl _ _).ty ty (by decide) _ _)
  have k59 : Kt 38 W (W'.setCell ⟨p, 0, none⟩ vn') := (Kt.of_own h.hN.1 (by decide) hg).trans ((Kt.refl _ _).ty ty (by decide) _ _)
  exact ⟨heap_setCell_same W' p 0 _ 25 vn' e1, (heap_setCell_other W' ⟨p, 0, none⟩ q vn' ne).trans e2, ⟨own_kt hN k29, fun n hn => (h.hN.2 n (hs n hn)).kt k59⟩, h.hT.kt k31⟩
/-- Its ties are others. -/
theorem DnW.ties {W W' : World} {base p q : Nat} {id : Int} {vn vt vt' : Value} {N : List Nd} {T T' : List Te} (h : DnW W base p q id vn vt N T) (hg : W.grownBy W' vt.ownBlock) (hT : OwnTs W' base vt' T') : DnW (W'.setCell ⟨p, 1, none⟩ vt') base p q id vn vt' N T' := by
  have e1 : W'.heap[p]? = some (.cells #[vn, vt] 25 (0, 0)) := (hg.block p (Array.getElem?_eq_some_iff.1 h.hp).1 (fun e => row_apart h.hT h.hp (by decide) e.symm)).trans h.hp
  have e2 : W'.heap[q]? = some (.cells #[.int .i64 id] 3 (0, 0)) := (hg.block q (Array.getElem?_eq_some_iff.1 h.hq).1 (fun e => row_apart h.hT h.hq (by decide) e.symm)).trans h.hq
  have ne : q ≠ p := by
    intro e; subst e; have := h.hq; rw [h.hp] at this; injection this with e1; injection e1 with _ e2; exact absurd e2 (by decide)
  have ty : Ty W' p 25 := ⟨_, e1⟩
  have k31 : Kt 40 W' (W'.setCell ⟨p, 1, none⟩ vt') := (Kt.refl _ _).ty ty (by decide) _ _
  have k29 : Kt 30 W (W'.setCell ⟨p, 1, none⟩ vt') := (Kt.of_own h.hT (by decide) hg).trans ((Kt.refl _ _).ty ty (by decide) _ _)
  have k59 : Kt 38 W (W'.setCell ⟨p, 1, none⟩ vt') := (Kt.of_own h.hT (by decide) hg).trans ((Kt.refl _ _).ty ty (by decide) _ _)
  exact ⟨heap_setCell_same W' p 1 _ 25 vt' e1, (heap_setCell_other W' ⟨p, 1, none⟩ q vt' ne).trans e2, h.hN.kt k29 k59, hT.kt k31⟩
theorem DnW.og {W : World} {base p q : Nat} {id : Int} {vn vt : Value} {N : List Nd} {T : List Te} (h : DnW W base p q id vn vt N T) (hb : base ≤ p) : OG W base p N T := ⟨vn, vt, hb, h.hp, h.hN, h.hT⟩
/-- What is behind a row that was written to. -/
theorem below_row {B base : Nat} {w0 w w' : World} {e : TypeId} {size n : Nat} {v : Value} {xs : List Value} (h : Below B w0 w) (ho : w.ownsRow base e size v n xs) (hg : w.grownBy w' v.ownBlock) (hle : B ≤ base) (hw : B ≤ w.heap.size) : Below B w0 w' :=
  below_grown h hg hw (fun k hk => Nat.le_trans hle (ho.lt k hk).1)

set_option maxHeartbeats 4000000 in
set_option maxRecDepth 100000 in
theorem dropNode_ok {w : World} {base p : Nat} {N : List Nd} {T : List Te} (h : OG w base p N T) (hbw : base ≤ w.heap.size) (hs : SrtN N) (h60 : N.length ≤ 96) (h120 : T.length ≤ 1000) (id : Int) (hf : fndN id N = true) :
    Calls Try.prog 39 #[.pointer (some ⟨p, 0, none⟩), .int .i64 id] w fun e w' => e = .returned .nilIface ∧ OG w' base p (N.eraseIdx (loN id N)) (T.filter (keepT id)) ∧ Below base w w' := by
  obtain ⟨vn, vt, hbp, hpb, hN, hT⟩ := h
  have hpl : p < w.heap.size := (Array.getElem?_eq_some_iff.1 hpb).1
  obtain ⟨W0, hW0⟩ : ∃ W0, W0 = w.alloc (.cells #[.int .i64 id] 3) := ⟨_, rfl⟩
  have hB0 : Below w.heap.size w W0 := by rw [hW0]; exact b_alloc (Below.refl _ _) _
  have hi0 : W0.heap[w.heap.size]? = some (.cells #[.int .i64 id] 3 (0, 0)) := by rw [hW0]; exact heap_alloc_new w _
  have hlt := fndN_lt hf
  have cF := fun W (hB : Below W0.heap.size W0 W) => findNode_any (hN.isN.on (on1K hB0 hB (Nat.le_refl _))) hs h60 id
  rw [hf] at cF
  have hD0 : DnW W0 base p w.heap.size id vn vt N T := ⟨(hB0.block p hpl).trans hpb, hi0, hN.kt (.of_below hB0) (.of_below hB0), hT.kt (.of_below hB0)⟩
  obtain ⟨an, cn, hvn⟩ := own_slice hN.1
  obtain ⟨am, cm, hvt⟩ := own_slice hT
  subst hvn hvt
  have hs0 : W0.heap.size = w.heap.size + 1 := by rw [hW0]; simp
  have x0 : W0.cell? ⟨p, 0, none⟩ = some (.slice an N.length cn) := cell_at hD0.hp rfl
  have x1 : W0.cell? ⟨w.heap.size, 0, none⟩ = some (.int .i64 id) := cell_at hi0 rfl
  have HX : Hid (∀ W, Below W0.heap.size W0 W → W.cell? ⟨p, 0, none⟩ = some (.slice an N.length cn) ∧ W.cell? ⟨w.heap.size, 0, none⟩ = some (.int .i64 id)) := fun W hB => ⟨(hB.cell (by show p < _; omega)).trans x0, (hB.cell (by show w.heap.size < _; omega)).trans x1⟩
  have HB : Hid (Below w.heap.size w W0 ∧ DnW W0 base p w.heap.size id (.slice an N.length cn) (.slice am T.length cm) N T) := ⟨hB0, hD0⟩
  clear hpb hN hT hB0 hi0 hf hD0
  generalize loN id N = lo at *
  have hlw : IntKind.i64.wrap ((lo : Int) + 1) = (lo : Int) + 1 := by rw [IntKind.wrap_i64]; omega
  go_enter Try.func39, Try.ntmps39
  go_wp2
  rw [← hW0]
  clear hW0
  first | (go_region_held (fun w' => w'.cell? ⟨p, 0, none⟩ = some (.slice an N.length cn) ∧ w'.cell? ⟨w.heap.size, 0, none⟩ = some (.int .i64 id)) (go_keep) (first | (go_at_call 55; refine (cF _ (b_drew (Below.refl _ W0))).mono ?_; rintro e W1 ⟨rfl, hB1'⟩; have hB1 := b_undrew hB1'; clear hB1'; obtain ⟨z0, z1⟩ := HX.out W1 hB1))) | fail
  all_goals
    have D1 := HB.out.2.on hB1
    have cD := deleteN_any D1.hN.1 (nd_one D1.hN.sl) (by omega) lo hlt
    have HB1 : Hid (Below w.heap.size w W1 ∧ DnW W1 base p w.heap.size id (.slice an N.length cn) (.slice am T.length cm) N T) := ⟨on1K HB.out.1 hB1 (Nat.le_refl _), D1⟩
    clear D1 hB1 cF HX HB
    go_wp2_with (first | (go_at_call 57; refine cD.mono ?_; rintro e W2 ⟨v2, rfl, ho2, hg2⟩; refine Hid.out ?_))
    refine Lib.hid ?_
    obtain ⟨a2, c2, hv2⟩ := own_slice ho2
    subst hv2
    have D2 := DnW.nodes HB1.out.2 hg2 ho2 (fun n hn => mem_erase hn)
    have hb2 : Below base w W2 := below_row (HB1.out.1.mono hbw) HB1.out.2.hN.1 hg2 (Nat.le_refl _) (Nat.le_trans hbw HB1.out.1.size)
    have hp2 : W2.heap[p]? = some (.cells #[.slice an N.length cn, .slice am T.length cm] 25 (0, 0)) := (hg2.block p (Array.getElem?_eq_some_iff.1 HB1.out.2.hp).1 (fun e => row_apart HB1.out.2.hN.1 HB1.out.2.hp (by decide) e.symm)).trans HB1.out.2.hp
    have hq2 : W2.heap[w.heap.size]? = some (.cells #[.int .i64 id] 3 (0, 0)) := (hg2.block _ (Array.getElem?_eq_some_iff.1 HB1.out.2.hq).1 (fun e => row_apart HB1.out.2.hN.1 HB1.out.2.hq (by decide) e.symm)).trans HB1.out.2.hq
    have y0 : W2.cell? ⟨p, 0, none⟩ = some (.slice an N.length cn) := cell_at hp2 rfl
    have y1 : W2.cell? ⟨p, 1, none⟩ = some (.slice am T.length cm) := cell_at hp2 rfl
    have g0 : W2.frozen? ⟨p, 0, none⟩ = false := frz_at hp2
    have cE := deleteFunc_any D2.hT h120 w.heap.size id (Array.getElem?_eq_some_iff.1 D2.hq).1 (cell_at D2.hq rfl) (row_apart D2.hT D2.hq (by decide))
    have HB2 : Hid (Below base w (W2.setCell ⟨p, 0, none⟩ (.slice a2 (N.eraseIdx lo).length c2)) ∧ DnW (W2.setCell ⟨p, 0, none⟩ (.slice a2 (N.eraseIdx lo).length c2)) base p w.heap.size id (.slice a2 (N.eraseIdx lo).length c2) (.slice am T.length cm) (N.eraseIdx lo) T) := ⟨hb2.setCell hbp _, D2⟩
    generalize (N.eraseIdx lo).length = nl at *
    clear D2 hb2 hp2 hq2 ho2 hg2 cD z0 z1
    go_wp2_with (first | (go_at_call 58; refine cE.mono ?_; rintro e W3 ⟨v3, rfl, ho3, hg3⟩; refine Hid.out ?_))
    refine Lib.hid ?_
    obtain ⟨a3, c3, hv3⟩ := own_slice ho3
    subst hv3
    have D3 := DnW.ties HB2.out.2 hg3 ho3
    have hb3 : Below base w W3 := below_row HB2.out.1 HB2.out.2.hT hg3 (Nat.le_refl _) (Nat.le_trans hbw HB2.out.1.size)
    have hp3 : W3.heap[p]? = some (.cells #[.slice a2 nl c2, .slice am T.length cm] 25 (0, 0)) := (hg3.block p (Array.getElem?_eq_some_iff.1 HB2.out.2.hp).1 (fun e => row_apart HB2.out.2.hT HB2.out.2.hp (by decide) e.symm)).trans HB2.out.2.hp
    have t1 : W3.cell? ⟨p, 1, none⟩ = some (.slice am T.length cm) := cell_at hp3 rfl
    have g1 : W3.frozen? ⟨p, 1, none⟩ = false := frz_at hp3
    have HB3 : Hid (Below base w (W3.setCell ⟨p, 1, none⟩ (.slice a3 (T.filter (keepT id)).length c3)) ∧ DnW (W3.setCell ⟨p, 1, none⟩ (.slice a3 (T.filter (keepT id)).length c3)) base p w.heap.size id (.slice a2 nl c2) (.slice a3 (T.filter (keepT id)).length c3) (N.eraseIdx lo) (T.filter (keepT id))) := ⟨hb3.setCell hbp _, D3⟩
    clear D3 hb3 hp3 ho3 hg3 cE y0 y1 g0
    generalize (T.filter (keepT id)).length = tl at *
    go_wp2
    go_ret
    exact ⟨rfl, HB3.out.2.og hbp, HB3.out.1⟩
end Go.Proofs.Ytkgblicmkijpdaa
