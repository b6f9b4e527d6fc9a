/-
  The walks of delta.dropTie and delta.addTie.
-/
import Derived.Test.YtikjmingkadjcaaGreatDoorA23
import Derived.Test.YtikjmingkadjcaaGreatDoorA26
import Derived.Test.YtikjmingkadjcaaGreatDoorA24
namespace Go.Proofs.YtikjmingkadjcaaGreatDoor
open Go.RowKit
set_option linter.unusedVariables false
set_option linter.unusedSimpArgs false

structure OGv (W : World) (base p : Nat) (vn vt : Value) (N : List Nd) (T : List Te) : Prop where
  hb : base ≤ p
  hp : W.heap[p]? = some (.cells #[vn, vt] 29 (0, 0))
  hN : OwnNs W base vn N
  hT : OwnTs W base vt T
theorem OGv.og {W : World} {base p : Nat} {vn vt : Value} {N : List Nd} {T : List Te} (h : OGv W base p vn vt N T) : OG W base p N T := ⟨vn, vt, h.hb, h.hp, h.hN, h.hT⟩
theorem OGv.pl {W : World} {base p : Nat} {vn vt : Value} {N : List Nd} {T : List Te} (h : OGv W base p vn vt N T) : p < W.heap.size := (Array.getElem?_eq_some_iff.1 h.hp).1
theorem OGv.on {W W' : World} {base p : Nat} {vn vt : Value} {N : List Nd} {T : List Te} (h : OGv W base p vn vt N T) (hB : Below W.heap.size W W') : OGv W' base p vn vt N T :=
  ⟨h.hb, (hB.block p h.pl).trans h.hp, h.hN.kt (.of_below hB) (.of_below hB), h.hT.kt (.of_below hB)⟩
theorem OGv.pN {W W' : World} {base p : Nat} {vn vt : Value} {N : List Nd} {T : List Te} (h : OGv W base p vn vt N T) (hg : W.grownBy W' vn.ownBlock) : W'.heap[p]? = some (.cells #[vn, vt] 29 (0, 0)) :=
  (hg.block p h.pl (fun e => row_apart h.hN.1 h.hp (by decide) e.symm)).trans h.hp
theorem OGv.pT {W W' : World} {base p : Nat} {vn vt : Value} {N : List Nd} {T : List Te} (h : OGv W base p vn vt N T) (hg : W.grownBy W' vt.ownBlock) : W'.heap[p]? = some (.cells #[vn, vt] 29 (0, 0)) :=
  (hg.block p h.pl (fun e => row_apart h.hT h.hp (by decide) e.symm)).trans h.hp
theorem OGv.nodes {W W' : World} {base p : Nat} {vn vt vn' : Value} {N N' : List Nd} {T : List Te} (h : OGv W base p vn vt N T) (hg : W.grownBy W' vn.ownBlock) (hN : OwnNs W' base vn' N') : OGv (W'.setCell ⟨p, 0, none⟩ vn') base p vn' vt N' T := by
  have e1 := h.pN hg
  have ty : Ty W' p 29 := ⟨_, e1⟩
  have k : ∀ t, 29 ≠ t → Kt t W' (W'.setCell ⟨p, 0, none⟩ vn') := fun t ht => (Kt.refl _ _).ty ty ht _ _
  exact ⟨h.hb, heap_setCell_same W' p 0 _ 29 vn' e1, hN.kt (k 46 (by decide)) (k 50 (by decide)), h.hT.kt ((Kt.of_own h.hN.1 (by decide) hg).trans (k 52 (by decide)))⟩
theorem OGv.ties {W W' : World} {base p : Nat} {vn vt vt' : Value} {N : List Nd} {T T' : List Te} (h : OGv W base p vn vt N T) (hg : W.grownBy W' vt.ownBlock) (hT : OwnTs W' base vt' T') : OGv (W'.setCell ⟨p, 1, none⟩ vt') base p vn vt' N T' := by
  have e1 := h.pT hg
  have ty : Ty W' p 29 := ⟨_, e1⟩
  have k : ∀ t, 29 ≠ t → Kt t W' (W'.setCell ⟨p, 1, none⟩ vt') := fun t ht => (Kt.refl _ _).ty ty ht _ _
  exact ⟨h.hb, heap_setCell_same W' p 1 _ 29 vt' e1, h.hN.kt ((Kt.of_own h.hT (by decide) hg).trans (k 46 (by decide))) ((Kt.of_own h.hT (by decide) hg).trans (k 50 (by decide))), hT.kt (k 52 (by decide))⟩
theorem fndT_lt {t : Te} {T : List Te} (hf : fndT t T = true) : loT t T < T.length := by
  rcases Nat.lt_or_ge (loT t T) T.length with h | h
  · exact h
  · unfold fndT at hf; rw [List.getElem?_eq_none h] at hf; cases hf

set_option maxHeartbeats 4000000 in
set_option maxRecDepth 100000 in
theorem dropTie_any {w : World} {base p : Nat} {N : List Nd} {T : List Te} (h : OG w base p N T) (hbw : base ≤ w.heap.size) (hs : SrtT T) (h120 : T.length ≤ 1000) (t : Te) :
    Calls Tryz.prog 65 #[.pointer (some ⟨p, 0, none⟩), t.one] w fun e w' => e = .returned (errV (if fndT t T = true then 0 else 5)) ∧ (fndT t T = true → OG w' base p N (T.eraseIdx (loT t T))) ∧ Below base w w' := by
  obtain ⟨vn, vt, hbp, hpb, hN, hT⟩ := h
  have D : OGv w base p vn vt N T := ⟨hbp, hpb, hN, hT⟩
  obtain ⟨W0, hW0⟩ : ∃ W0, W0 = w.alloc (.cells #[.string t.bd, .int .i64 t.fr, .int .i64 t.tt] 52) := ⟨_, rfl⟩
  have hB0 : Below w.heap.size w W0 := by rw [hW0]; exact b_alloc (Below.refl _ _) _
  have hi0 : W0.heap[w.heap.size]? = some (.cells #[.string t.bd, .int .i64 t.fr, .int .i64 t.tt] 52 (0, 0)) := by rw [hW0]; exact heap_alloc_new w _
  have D0 := D.on hB0
  have cF := fun W (hB : Below W0.heap.size W0 W) => findTie_any ((D0.on hB).hT.isT) hs h120 t
  obtain ⟨an, cn, hvn⟩ := own_slice hN.1
  obtain ⟨am, cm, hvt⟩ := own_slice hT
  subst hvn hvt
  have hs0 : W0.heap.size = w.heap.size + 1 := by rw [hW0]; simp
  have x0 : W0.cell? ⟨p, 1, none⟩ = some (.slice am T.length cm) := cell_at D0.hp rfl
  have x1 : W0.cell? ⟨w.heap.size, 0, none⟩ = some (.string t.bd) := cell_at hi0 rfl
  have x2 : W0.cell? ⟨w.heap.size, 1, none⟩ = some (.int .i64 t.fr) := cell_at hi0 rfl
  have x3 : W0.cell? ⟨w.heap.size, 2, none⟩ = some (.int .i64 t.tt) := cell_at hi0 rfl
  have hpl := D.pl
  have HX : Hid (∀ W, Below W0.heap.size W0 W → W.cell? ⟨p, 1, none⟩ = some (.slice am T.length cm) ∧ W.cell? ⟨w.heap.size, 0, none⟩ = some (.string t.bd) ∧ W.cell? ⟨w.heap.size, 1, none⟩ = some (.int .i64 t.fr) ∧ W.cell? ⟨w.heap.size, 2, none⟩ = some (.int .i64 t.tt)) := fun W hB => ⟨(hB.cell (by show p < _; omega)).trans x0, (hB.cell (by show w.heap.size < _; omega)).trans x1, (hB.cell (by show w.heap.size < _; omega)).trans x2, (hB.cell (by show w.heap.size < _; omega)).trans x3⟩
  have HB : Hid (Below w.heap.size w W0 ∧ OGv W0 base p (.slice an N.length cn) (.slice am T.length cm) N T) := ⟨hB0, D0⟩
  have hlt := fndT_lt (t := t) (T := T)
  clear hpb hN hT hB0 hi0 D D0
  obtain ⟨bd, fr, tt⟩ := t
  simp only at x1 x2 x3 HX
  generalize hlo : loT ⟨bd, fr, tt⟩ T = lo at *
  cases hf : fndT ⟨bd, fr, tt⟩ T with
  | false =>
    rw [hf] at cF
    simp only [Bool.false_eq_true, if_false, false_implies, true_and]
    rw [show errV 5 = .iface 79 (.int .i64 5) from rfl]
    clear hf hlt hlo
    go_enter Tryz.func65, Tryz.ntmps65
    go_wp2
    rw [← hW0]
    clear hW0
    first | (go_region_held (fun w' => w'.cell? ⟨p, 1, none⟩ = some (.slice am T.length cm) ∧ w'.cell? ⟨w.heap.size, 0, none⟩ = some (.string bd) ∧ w'.cell? ⟨w.heap.size, 1, none⟩ = some (.int .i64 fr) ∧ w'.cell? ⟨w.heap.size, 2, none⟩ = some (.int .i64 tt)) (go_keep) (first | (go_at_call 92; refine (cF _ (b_drew (Below.refl _ W0))).mono ?_; rintro e W1 ⟨rfl, hB1'⟩; have hB1 := b_undrew hB1'; clear hB1'; obtain ⟨z0, z1, z2, z3⟩ := HX.out W1 hB1))) | fail
    all_goals
      go_wp2
      go_ret
      exact ⟨rfl, (on1K HB.out.1 hB1 (Nat.le_refl _)).mono hbw⟩
  | true =>
    rw [hf] at cF
    replace hlt := hlt hf
    simp only [if_true, true_implies]
    rw [show errV 0 = .nilIface from rfl]
    clear hf hlo
    have hlw : IntKind.i64.wrap ((lo : Int) + 1) = (lo : Int) + 1 := by rw [IntKind.wrap_i64]; omega
    go_enter Tryz.func65, Tryz.ntmps65
    go_wp2
    rw [← hW0]
    clear hW0
    first | (go_region_held (fun w' => w'.cell? ⟨p, 1, none⟩ = some (.slice am T.length cm) ∧ w'.cell? ⟨w.heap.size, 0, none⟩ = some (.string bd) ∧ w'.cell? ⟨w.heap.size, 1, none⟩ = some (.int .i64 fr) ∧ w'.cell? ⟨w.heap.size, 2, none⟩ = some (.int .i64 tt)) (go_keep) (first | (go_at_call 92; refine (cF _ (b_drew (Below.refl _ W0))).mono ?_; rintro e W1 ⟨rfl, hB1'⟩; have hB1 := b_undrew hB1'; clear hB1'; obtain ⟨z0, z1, z2, z3⟩ := HX.out W1 hB1))) | fail
    all_goals
      have D1 := HB.out.2.on hB1
      have cD := deleteT_any D1.hT (te_one _) (by omega) lo hlt
      have HB1 : Hid (Below w.heap.size w W1 ∧ OGv W1 base p (.slice an N.length cn) (.slice am T.length cm) N T) := ⟨on1K HB.out.1 hB1 (Nat.le_refl _), D1⟩
      clear D1 hB1 cF HX HB
      go_wp2_with (first | (go_at_call 94; refine cD.mono ?_; rintro e W2 ⟨v2, rfl, ho2, hg2⟩; refine Hid.out ?_))
      refine Lib.hid ?_
      obtain ⟨a2, c2, hv2⟩ := own_slice ho2
      subst hv2
      have D2 := OGv.ties HB1.out.2 hg2 ho2
      have hb2 : Below base w W2 := below_row (HB1.out.1.mono hbw) HB1.out.2.hT hg2 (Nat.le_refl _) (Nat.le_trans hbw HB1.out.1.size)
      have hp2 := HB1.out.2.pT hg2
      have y0 : W2.cell? ⟨p, 1, none⟩ = some (.slice am T.length cm) := cell_at hp2 rfl
      have g0 : W2.frozen? ⟨p, 1, none⟩ = false := frz_at hp2
      have HB2 : Hid (Below base w (W2.setCell ⟨p, 1, none⟩ (.slice a2 (T.eraseIdx lo).length c2)) ∧ OGv (W2.setCell ⟨p, 1, none⟩ (.slice a2 (T.eraseIdx lo).length c2)) base p (.slice an N.length cn) (.slice a2 (T.eraseIdx lo).length c2) N (T.eraseIdx lo)) := ⟨hb2.setCell hbp _, D2⟩
      generalize (T.eraseIdx lo).length = nl at *
      clear D2 hb2 hp2 ho2 hg2 cD z0 z1 z2 z3
      go_wp2
      go_ret
      exact ⟨rfl, HB2.out.2.og, HB2.out.1⟩
end Go.Proofs.YtikjmingkadjcaaGreatDoor

/-
  The walk of delta.changeRecord, whatever the change.
-/
namespace Go.Proofs.YtikjmingkadjcaaGreatDoor
open Go.RowKit
set_option linter.unusedVariables false
set_option linter.unusedSimpArgs false

def ChP (F : Nat) (q : Nat) (rv : Value) (z : Int) (r' : List Pr) (w : World) : Prop := ∀ W, Below w.heap.size w W → Calls Tryz.prog F #[rv, .pointer (some ⟨q, 0, none⟩)] W fun e w' => ∃ a l c, e = .returned (.tuple #[.slice a l c, errV z]) ∧ (z = 0 → OwnRc w' W.heap.size (.slice a l c) r') ∧ Below W.heap.size W w'

set_option maxHeartbeats 2000000 in
set_option maxRecDepth 100000 in
theorem change_no {w : World} {base p : Nat} {N : List Nd} {T : List Te} (h : OG w base p N T) (hs : SrtN N) (h60 : N.length ≤ 96) (id : Int) (F q : Nat) (hf : fndN id N = false) :
    Calls Tryz.prog 59 #[.pointer (some ⟨p, 0, none⟩), .int .i64 id, .func (.func F) #[] #[.pointer (some ⟨q, 0, none⟩)]] w fun e w' => e = .returned (.iface 79 (.int .i64 5)) ∧ Below w.heap.size w w' := by
  obtain ⟨vn, vt, hbp, hpb, hN, hT⟩ := h
  have cF := findNode_any hN.isN hs h60 id
  rw [hf] at cF
  obtain ⟨an, cn, hvn⟩ := own_slice hN.1
  subst hvn
  have x0 : w.cell? ⟨p, 0, none⟩ = some (.slice an N.length cn) := cell_at hpb rfl
  generalize loN id N = lo at *
  clear hpb hN hT hf hs
  go_enter Tryz.func59, Tryz.ntmps59
  go_wp2_with (first | (go_at_call 84; refine cF.mono ?_; rintro e W1 ⟨rfl, hB1⟩))
  go_ret
  exact ⟨rfl, hB1⟩

theorem set_same {α : Type} {l : List α} {i : Nat} {a : α} (h : l[i]? = some a) : l.set i a = l := by
  apply List.ext_getElem?
  intro j
  by_cases e : i = j
  · subst e
    rw [List.getElem?_set_self (List.getElem?_eq_some_iff.1 h).1, h]
  · rw [List.getElem?_set_ne e]
theorem cellsN_rec (N : List Nd) (k : Nat) (n : Nd) (hn : N[k]? = some n) (v : Value) (r : List Pr) : (cellsN N).set (k * 3 + 2) v = cellsN (N.set k ⟨n.id, n.kd, v, r⟩) := by
  rw [← cellsN_set N k (List.getElem?_eq_some_iff.1 hn).1 n.id n.kd v r]
  have h0 : (cellsN N)[k * 3]? = some (.int .i64 n.id) := (flatK nd_len N k n 0 hn (by omega)).trans rfl
  have h1 : (cellsN N)[k * 3 + 1]? = some (.string n.kd) := (flatK nd_len N k n 1 hn (by omega)).trans rfl
  rw [set_same h0, set_same h1]
theorem rec_put {W : World} {base p g cn lo B : Nat} {vt v : Value} {N : List Nd} {T : List Te} {n : Nd} {r' : List Pr} (D : OGv W base p (.slice (some ⟨g, 0, none⟩) N.length cn) vt N T) (hn : N[lo]? = some n) (hO : OwnRc W B v r') (hB : base ≤ B) :
    OG (W.setCell ⟨g, lo * 3 + 2, none⟩ v) base p (N.set lo ⟨n.id, n.kd, v, r'⟩) T ∧ cN (N.set lo ⟨n.id, n.kd, v, r'⟩) = (cN N).set lo ⟨n.id, n.kd, .nilIface, r'⟩ := by
  obtain ⟨s1, s2⟩ := World.ownsRow.stored D.hN.1 (lo * 3 + 2) v
  rw [cellsN_rec N lo n hn v r'] at s1
  have k : ∀ t, 46 ≠ t → Kt t W (W.setCell ⟨g, lo * 3 + 2, none⟩ v) := fun t ht => Kt.of_own D.hN.1 ht s2
  have hp : (W.setCell ⟨g, lo * 3 + 2, none⟩ v).heap[p]? = some (.cells #[.slice (some ⟨g, 0, none⟩) N.length cn, vt] 29 (0, 0)) := D.pN s2
  refine ⟨⟨_, _, D.hb, hp, ⟨by rw [List.length_set]; exact s1, fun m hm => ?_⟩, D.hT.kt (k 52 (by decide))⟩, ?_⟩
  · rcases List.mem_or_eq_of_mem_set hm with h | rfl
    · exact (D.hN.2 m h).kt (k 50 (by decide))
    · exact OwnRc.kt (own_base hO hB) (k 50 (by decide))
  · unfold cN
    rw [List.map_set]
    rfl

set_option maxHeartbeats 4000000 in
set_option maxRecDepth 100000 in
theorem change67_yes {w : World} {base p : Nat} {N : List Nd} {T : List Te} (h : OG w base p N T) (hbw : base ≤ w.heap.size) (hs : SrtN N) (h60 : N.length ≤ 96) (id : Int) (q : Nat) (hf : fndN id N = true) {n : Nd} (hn : N[loN id N]? = some n) {z : Int} {r' : List Pr}
    (hch : ChP 60 q n.rv z r' w) :
    Calls Tryz.prog 59 #[.pointer (some ⟨p, 0, none⟩), .int .i64 id, .func (.func 60) #[] #[.pointer (some ⟨q, 0, none⟩)]] w fun e w' => e = .returned (errV z) ∧ (z = 0 → ∃ N', cN N' = (cN N).set (loN id N) ⟨n.id, n.kd, .nilIface, r'⟩ ∧ OG w' base p N' T) ∧ Below base w w' := by
  obtain ⟨vn, vt, hbp, hpb, hN, hT⟩ := h
  have D : OGv w base p vn vt N T := ⟨hbp, hpb, hN, hT⟩
  have cF := findNode_any hN.isN hs h60 id
  rw [hf] at cF
  have hlt := fndN_lt hf
  obtain ⟨an, cn, hvn⟩ := own_slice hN.1
  obtain ⟨am, cm, hvt⟩ := own_slice hT
  subst hvn hvt
  obtain ⟨g, rfl⟩ : ∃ g, an = some ⟨g, 0, none⟩ := by
    rcases hN.1.2 with ⟨e, h0⟩ | ⟨g', cap', cur, e, _⟩
    · omega
    · injection e with e1; exact ⟨g', e1⟩
  have hcap : N.length ≤ cn := by
    rcases hN.1.2 with ⟨e, h0⟩ | ⟨g', cap', cur, e, _, _, h1, _⟩
    · cases e
    · injection e with _ _ e3; subst e3; exact h1
  have hnm := List.mem_of_getElem? hn
  obtain ⟨av, lv, cv, hv⟩ := (hN.2 n hnm).sl
  generalize loN id N = lo at *
  have x0 : w.cell? ⟨p, 0, none⟩ = some (.slice (some ⟨g, 0, none⟩) N.length cn) := cell_at hpb rfl
  have HX : Hid (∀ W, Below w.heap.size w W → OGv W base p (.slice (some ⟨g, 0, none⟩) N.length cn) (.slice am T.length cm) N T ∧ W.cell? ⟨p, 0, none⟩ = some (.slice (some ⟨g, 0, none⟩) N.length cn) ∧ W.cell? ⟨g, lo * 3 + 2, none⟩ = some n.rv ∧ W.frozen? ⟨g, lo * 3 + 2, none⟩ = false) := fun W hB => by
    have D' := D.on hB
    have := World.ownsRow.cells D'.hN.1 rfl (lo * 3 + 2) n.rv ((flatK nd_len N lo n 2 hn (by omega)).trans rfl)
    rw [Addr.add_lit, Nat.zero_add] at this
    exact ⟨D', cell_at D'.hp rfl, this, World.ownsRow.frozenAt D'.hN.1 _⟩
  have HN : Hid (N[lo]? = some n) := hn
  obtain ⟨ni, kd, rv, rc⟩ := n
  simp only at hv HX hch ⊢
  subst hv
  clear hpb hN hT hf hs D hn hnm
  by_cases hz : z = 0
  · subst hz
    rw [show errV 0 = .nilIface from rfl]
    unfold ChP at hch
    rw [show errV 0 = .nilIface from rfl] at hch
    go_enter Tryz.func59, Tryz.ntmps59
    go_wp2_with (first | (go_at_call 84; refine cF.mono ?_; rintro e W1 ⟨rfl, hB1⟩; obtain ⟨D1, y0, y1, y2⟩ := HX.out W1 hB1; have c2 := hch W1 hB1; clear D1) | (go_at_call 60; refine c2.mono ?_; rintro e W2 ⟨a2, l2, c2', rfl, hO2, hB2⟩; refine Hid.out ?_))
    refine Lib.hid ?_
    obtain ⟨D2, t0, t1, t2⟩ := HX.out W2 (on1K hB1 hB2 (Nat.le_refl _))
    have hO := hO2 (by trivial)
    have HO := Lib.hid (And.intro hO (And.intro D2 (And.intro (on1K hB1 hB2 (Nat.le_refl _)) hB1.size)))
    clear hO2 hO D2 hB1 hB2 c2 cF hch y0 y1 y2 HX
    go_wp2
    go_ret
    obtain ⟨o1, o2, o3, o4⟩ := HO.out
    obtain ⟨r1, r2⟩ := rec_put o2 HN.out o1 (Nat.le_trans hbw o4)
    exact ⟨rfl, fun _ => ⟨_, r2, r1⟩, (o3.mono hbw).setCell (World.ownsRow.lt o2.hN.1 g rfl).1 _⟩
  · rw [errV_ne hz]
    unfold ChP at hch
    rw [errV_ne hz] at hch
    have HZ := Lib.hid hz
    clear hz
    go_enter Tryz.func59, Tryz.ntmps59
    go_wp2_with (first | (go_at_call 84; refine cF.mono ?_; rintro e W1 ⟨rfl, hB1⟩; obtain ⟨D1, y0, y1, y2⟩ := HX.out W1 hB1; have c2 := hch W1 hB1; clear D1) | (go_at_call 60; refine c2.mono ?_; rintro e W2 ⟨a2, l2, c2', rfl, hO2, hB2⟩))
    go_ret
    exact ⟨rfl, fun h => absurd h HZ.out, (on1K hB1 hB2 (Nat.le_refl _)).mono hbw⟩
set_option maxHeartbeats 4000000 in
set_option maxRecDepth 100000 in
theorem change69_yes {w : World} {base p : Nat} {N : List Nd} {T : List Te} (h : OG w base p N T) (hbw : base ≤ w.heap.size) (hs : SrtN N) (h60 : N.length ≤ 96) (id : Int) (q : Nat) (hf : fndN id N = true) {n : Nd} (hn : N[loN id N]? = some n) {z : Int} {r' : List Pr}
    (hch : ChP 62 q n.rv z r' w) :
    Calls Tryz.prog 59 #[.pointer (some ⟨p, 0, none⟩), .int .i64 id, .func (.func 62) #[] #[.pointer (some ⟨q, 0, none⟩)]] w fun e w' => e = .returned (errV z) ∧ (z = 0 → ∃ N', cN N' = (cN N).set (loN id N) ⟨n.id, n.kd, .nilIface, r'⟩ ∧ OG w' base p N' T) ∧ Below base w w' := by
  obtain ⟨vn, vt, hbp, hpb, hN, hT⟩ := h
  have D : OGv w base p vn vt N T := ⟨hbp, hpb, hN, hT⟩
  have cF := findNode_any hN.isN hs h60 id
  rw [hf] at cF
  have hlt := fndN_lt hf
  obtain ⟨an, cn, hvn⟩ := own_slice hN.1
  obtain ⟨am, cm, hvt⟩ := own_slice hT
  subst hvn hvt
  obtain ⟨g, rfl⟩ : ∃ g, an = some ⟨g, 0, none⟩ := by
    rcases hN.1.2 with ⟨e, h0⟩ | ⟨g', cap', cur, e, _⟩
    · omega
    · injection e with e1; exact ⟨g', e1⟩
  have hcap : N.length ≤ cn := by
    rcases hN.1.2 with ⟨e, h0⟩ | ⟨g', cap', cur, e, _, _, h1, _⟩
    · cases e
    · injection e with _ _ e3; subst e3; exact h1
  have hnm := List.mem_of_getElem? hn
  obtain ⟨av, lv, cv, hv⟩ := (hN.2 n hnm).sl
  generalize loN id N = lo at *
  have x0 : w.cell? ⟨p, 0, none⟩ = some (.slice (some ⟨g, 0, none⟩) N.length cn) := cell_at hpb rfl
  have HX : Hid (∀ W, Below w.heap.size w W → OGv W base p (.slice (some ⟨g, 0, none⟩) N.length cn) (.slice am T.length cm) N T ∧ W.cell? ⟨p, 0, none⟩ = some (.slice (some ⟨g, 0, none⟩) N.length cn) ∧ W.cell? ⟨g, lo * 3 + 2, none⟩ = some n.rv ∧ W.frozen? ⟨g, lo * 3 + 2, none⟩ = false) := fun W hB => by
    have D' := D.on hB
    have := World.ownsRow.cells D'.hN.1 rfl (lo * 3 + 2) n.rv ((flatK nd_len N lo n 2 hn (by omega)).trans rfl)
    rw [Addr.add_lit, Nat.zero_add] at this
    exact ⟨D', cell_at D'.hp rfl, this, World.ownsRow.frozenAt D'.hN.1 _⟩
  have HN : Hid (N[lo]? = some n) := hn
  obtain ⟨ni, kd, rv, rc⟩ := n
  simp only at hv HX hch ⊢
  subst hv
  clear hpb hN hT hf hs D hn hnm
  by_cases hz : z = 0
  · subst hz
    rw [show errV 0 = .nilIface from rfl]
    unfold ChP at hch
    rw [show errV 0 = .nilIface from rfl] at hch
    go_enter Tryz.func59, Tryz.ntmps59
    go_wp2_with (first | (go_at_call 84; refine cF.mono ?_; rintro e W1 ⟨rfl, hB1⟩; obtain ⟨D1, y0, y1, y2⟩ := HX.out W1 hB1; have c2 := hch W1 hB1; clear D1) | (go_at_call 62; refine c2.mono ?_; rintro e W2 ⟨a2, l2, c2', rfl, hO2, hB2⟩; refine Hid.out ?_))
    refine Lib.hid ?_
    obtain ⟨D2, t0, t1, t2⟩ := HX.out W2 (on1K hB1 hB2 (Nat.le_refl _))
    have hO := hO2 (by trivial)
    have HO := Lib.hid (And.intro hO (And.intro D2 (And.intro (on1K hB1 hB2 (Nat.le_refl _)) hB1.size)))
    clear hO2 hO D2 hB1 hB2 c2 cF hch y0 y1 y2 HX
    go_wp2
    go_ret
    obtain ⟨o1, o2, o3, o4⟩ := HO.out
    obtain ⟨r1, r2⟩ := rec_put o2 HN.out o1 (Nat.le_trans hbw o4)
    exact ⟨rfl, fun _ => ⟨_, r2, r1⟩, (o3.mono hbw).setCell (World.ownsRow.lt o2.hN.1 g rfl).1 _⟩
  · rw [errV_ne hz]
    unfold ChP at hch
    rw [errV_ne hz] at hch
    have HZ := Lib.hid hz
    clear hz
    go_enter Tryz.func59, Tryz.ntmps59
    go_wp2_with (first | (go_at_call 84; refine cF.mono ?_; rintro e W1 ⟨rfl, hB1⟩; obtain ⟨D1, y0, y1, y2⟩ := HX.out W1 hB1; have c2 := hch W1 hB1; clear D1) | (go_at_call 62; refine c2.mono ?_; rintro e W2 ⟨a2, l2, c2', rfl, hO2, hB2⟩))
    go_ret
    exact ⟨rfl, fun h => absurd h HZ.out, (on1K hB1 hB2 (Nat.le_refl _)).mono hbw⟩
end Go.Proofs.YtikjmingkadjcaaGreatDoor
