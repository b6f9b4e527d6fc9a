/-
  GuardNear where the ops cannot be done: Touched's error.
-/
import Derived.Test.YtffiddpnkiejkaaGreatM41
import Derived.Test.YtffiddpnkiejkaaGreatM37
import Derived.Test.YtffiddpnkiejkaaGreatM06
namespace Go.Proofs.YtffiddpnkiejkaaGreat
open Go.RowKit
set_option linter.unusedVariables false
set_option linter.unusedSimpArgs false

set_option maxHeartbeats 4000000 in
set_option maxRecDepth 100000 in
theorem near_no {vs vg vl : Value} {L : List Kd} {B : List Bd} {N : List Nd} {T : List Te} {O : List Opx} {w : World} (hs : IsSc w vs L B) (hg : IsG w vg N T) (hl : IsO w vl O) (zl : ∀ o ∈ O, OpSz o) (lO : O.length ≤ maxLen) (h : ¬ AllOk N T O) :
    Calls Tryz.prog 3 #[vs, vg, vl] w fun e w' => e = .returned (.bool true) ∧ Below w.heap.size w w' := by
  have HP : Hid (IsG w vg N T ∧ IsO w vl O) := ⟨hg, hl⟩
  obtain ⟨a1, n1, c1, b1, m1, d1, rfl⟩ := isSc_sl hs
  obtain ⟨a2, n2, c2, b2, m2, d2, rfl⟩ := isG_sl hg
  obtain ⟨a3, n3, c3, rfl⟩ := isO_sl hl
  obtain ⟨W0, hW0⟩ : ∃ W0, W0 = box2 w #[.slice a1 n1 c1, .slice b1 m1 d1] 25 #[.slice a2 n2 c2, .slice b2 m2 d2] 29 := ⟨_, rfl⟩
  have HB0 : Hid (Below w.heap.size w W0) := by rw [hW0]; exact box2_below _ _ _ _ _
  have x2 : W0.cell? ⟨w.heap.size + 1, 0, none⟩ = some (.slice a2 n2 c2) := by rw [hW0]; exact box2_b _ _ _ _ _ rfl
  have x3 : W0.cell? ⟨w.heap.size + 1, 1, none⟩ = some (.slice b2 m2 d2) := by rw [hW0]; exact box2_b _ _ _ _ _ rfl
  have hs0 : W0.heap.size = w.heap.size + 2 := by rw [hW0]; exact box2_size _ _ _ _ _
  have HC : Hid (∀ W, Below W0.heap.size W0 W → Below w.heap.size w W ∧ W.cell? ⟨w.heap.size + 1, 0, none⟩ = some (.slice a2 n2 c2) ∧ W.cell? ⟨w.heap.size + 1, 1, none⟩ = some (.slice b2 m2 d2)) := fun W hB =>
    ⟨on1K HB0.out hB (Nat.le_refl _), (hB.cell (p := ⟨w.heap.size + 1, 0, none⟩) (by show w.heap.size + 1 < _; omega)).trans x2, (hB.cell (p := ⟨w.heap.size + 1, 1, none⟩) (by show w.heap.size + 1 < _; omega)).trans x3⟩
  have cF := fc_any W0
  have HT : Hid (∀ W, Below w.heap.size w W → Calls Tryz.prog 5 #[.agg #[.slice a2 n2 c2, .slice b2 m2 d2], .slice a3 n3 c3] W fun e w' => ∃ z, z ≠ 0 ∧ e = .returned (.tuple #[.slice none 0 0, .iface 74 (.int .i64 z)]) ∧ Below W.heap.size W w') := fun W hB => by
    obtain ⟨vn, vt, e, hN, hT, zN, zT, lN, lT⟩ := HP.out.1
    injection e with e
    obtain ⟨rfl, rfl⟩ : .slice a2 n2 c2 = vn ∧ .slice b2 m2 d2 = vt := by simpa using e
    exact touched_no (hN.on hB) (hT.on hB) zN zT lN lT (HP.out.2.on hB) zl lO h
  clear hs hg hl zl lO h x2 x3 HP hs0
  go_enter Tryz.func3, Tryz.ntmps3
  go_upto_region 1 with fail
  unfold box2 at hW0
  rw [← hW0]
  clear hW0
  unfold oGW fcW at cF
  go_wp2_with (first
    | (go_at_call 5; have hq := HB1; refine cT.mono ?_; rintro e W2 ⟨z, hz, rfl, hB2⟩; have HB2 := Lib.hid hB2; clear hB2 hq)
    | (go_at_call 5; refine cF.mono ?_; rintro e W1 ⟨bf, cf, rfl, y0, hB1⟩; obtain ⟨hb1, y2, y3⟩ := HC.out W1 hB1; have cT := HT.out W1 hb1; have HB1 := Lib.hid hb1; clear hb1 hB1 cF))
  go_ret
  exact ⟨rfl, on1 HB1.out HB2.out⟩
end Go.Proofs.YtffiddpnkiejkaaGreat

/-
  The walk of graph.Node.
-/
namespace Go.Proofs.YtffiddpnkiejkaaGreat
open Go.RowKit
set_option linter.unusedVariables false
set_option linter.unusedSimpArgs false

theorem idxN_at (id : Int) : ∀ (N : List Nd) (s : Nat), hasId N id = true → ∃ k n, N[k]? = some n ∧ idxN id N s = ((s + k : Nat) : Int)
  | [], s, h => by simp [hasId] at h
  | n :: r, s, h => by
    by_cases e : n.id = id
    · exact ⟨0, n, rfl, by simp [idxN, e]⟩
    · have h' : hasId r id = true := by
        unfold hasId at h ⊢
        rw [List.any_cons, Bool.or_eq_true] at h
        rcases h with h | h
        · exact absurd (by simpa using h) e
        · exact h
      obtain ⟨k, x, hk, hx⟩ := idxN_at id r (s + 1) h'
      refine ⟨k + 1, x, by simpa using hk, ?_⟩
      have : idxN id (n :: r) s = idxN id r (s + 1) := by simp [idxN, e]
      rw [this, hx]
      congr 1
      omega

set_option maxHeartbeats 1000000 in
set_option maxRecDepth 100000 in
theorem find_ok {vn vt : Value} {N : List Nd} {T : List Te} {w : World} (hN : IsN w vn N) (hT : IsT w vt T) (zN : SzN N) (zT : SzT T) (hg : gErr N T = 0) (id : Int) (hh : hasId N id = true) :
    Calls Tryz.prog 23 #[.agg #[vn, vt], .int .i64 id] w fun e w' => e = .returned (.tuple #[.int .i64 (idxN id N 0), .nilIface]) ∧ Below w.heap.size w w' := by
  have hN' := hN
  obtain ⟨an, cn, rfl, hcn, hn⟩ := hN
  have hT' := hT
  obtain ⟨am, cm, rfl, hcm, hm⟩ := hT
  have hB : Below w.heap.size w ((w.alloc (.cells #[.slice an N.length cn, .slice am T.length cm] 29)).alloc (.cells #[.int .i64 id] 3)) := b_alloc (b_alloc (Below.refl _ _) _) _
  have hl := gErr_len hg
  have cc := gcheck_any (hN'.on hB) (hT'.on hB) zN zT (by unfold maxLen; omega) (by unfold maxLen; omega)
  rw [hg, errV_0] at cc
  have g0 : ((w.alloc (.cells #[.slice an N.length cn, .slice am T.length cm] 29)).alloc (.cells #[.int .i64 id] 3)).cell? ⟨w.heap.size, 0, none⟩ = some (.slice an N.length cn) := by simp
  have g2 : ((w.alloc (.cells #[.slice an N.length cn, .slice am T.length cm] 29)).alloc (.cells #[.int .i64 id] 3)).cell? ⟨w.heap.size + 1, 0, none⟩ = some (.int .i64 id) := by simp
  have ci := fun W (hW : Below ((w.alloc (.cells #[.slice an N.length cn, .slice am T.length cm] 29)).alloc (.cells #[.int .i64 id] 3)).heap.size ((w.alloc (.cells #[.slice an N.length cn, .slice am T.length cm] 29)).alloc (.cells #[.int .i64 id] 3)) W) => index_any (ao := an) (cn := cn) (N := N) (w := W) (by
    rcases hn with h | ⟨b, off, h1, h2, h3⟩
    · exact .inl h
    · exact .inr ⟨b, off, h1, Nat.lt_of_lt_of_le h2 (on1 hB hW).size, h3.on h2 (on1 hB hW)⟩) (gErr_len hg).1 (w.heap.size + 1) id (by have := hW.size; simp at this; omega) ((hW.cell (by simp)).trans g2)
  have HG : Hid (∀ W, Below ((w.alloc (.cells #[.slice an N.length cn, .slice am T.length cm] 29)).alloc (.cells #[.int .i64 id] 3)).heap.size ((w.alloc (.cells #[.slice an N.length cn, .slice am T.length cm] 29)).alloc (.cells #[.int .i64 id] 3)) W → W.cell? ⟨w.heap.size, 0, none⟩ = some (.slice an N.length cn)) := fun W hW => (hW.cell (by simp; omega)).trans g0
  obtain ⟨k, n, hk, hx⟩ := idxN_at id N 0 hh
  rw [Nat.zero_add] at hx
  rw [hx] at ci ⊢
  clear g0 g2 hg hn hm hx hh hk
  have hk0 : ¬ ((k : Int) < 0) := by omega
  go_enter Tryz.func23, Tryz.ntmps23
  go_wp2_with (first | (go_at_call 20; refine cc.mono ?_; rintro e W2 ⟨rfl, hB2⟩; have k0 := HG.out W2 hB2) | (go_at_call 43; refine (ci _ hB2).mono ?_; rintro e W3 ⟨rfl, hB3⟩))
  go_ret2
  exact ⟨rfl, on1 (on1 hB hB2) hB3⟩

/-- What Node gives: the node, its record its own, and the error. -/
def NoP (w : World) (N : List Nd) (T : List Te) (id : Int) (e : Ending) (w' : World) : Prop := ∃ i k a l c, e = .returned (.tuple #[.agg #[.int .i64 i, .string k, .slice a l c], errV (fE N T id)]) ∧ (hasId N id = true → ∃ (j : Nat) (n : Nd), N[j]? = some n ∧ idxN id N 0 = (j : Int) ∧ i = n.id ∧ k = n.kd ∧ OwnRc w' w.heap.size (.slice a l c) n.rc) ∧ Below w.heap.size w w'
set_option maxHeartbeats 2000000 in
set_option maxRecDepth 100000 in
theorem node_any {vn vt : Value} {N : List Nd} {T : List Te} {w : World} (hN : IsN w vn N) (hT : IsT w vt T) (zN : SzN N) (zT : SzT T) (hg : gErr N T = 0) (h8 : ∀ n ∈ N, n.rc.length ≤ 8) (id : Int) :
    Calls Tryz.prog 8 #[.agg #[vn, vt], .int .i64 id] w (NoP w N T id) := by
  obtain ⟨W0, hW0⟩ : ∃ W0, W0 = (w.alloc (.cells #[vn, vt] 29)).alloc (.cells #[.int .i64 0, .string ⟨#[]⟩, .slice none 0 0] 34) := ⟨_, rfl⟩
  have hB0 : Below w.heap.size w W0 := by rw [hW0]; exact b_alloc (b_alloc (Below.refl _ _) _) _
  have hs0 : W0.heap.size = w.heap.size + 2 := by rw [hW0]; simp
  have n0 : W0.heap[w.heap.size]? = some (.cells #[vn, vt] 29 (0, 0)) := by rw [hW0]; exact (heap_alloc_old _ _ (by simp)).trans (heap_alloc_new w _)
  have n1 : W0.heap[w.heap.size + 1]? = some (.cells #[.int .i64 0, .string ⟨#[]⟩, .slice none 0 0] 34 (0, 0)) := by
    have := heap_alloc_new (w.alloc (.cells #[vn, vt] 29)) (.cells #[.int .i64 0, .string ⟨#[]⟩, .slice none 0 0] 34)
    rw [World.size_alloc] at this; rw [hW0]; exact this
  have hl := gErr_len hg
  have x0 : W0.cell? ⟨w.heap.size, 0, none⟩ = some vn := cell_at n0 rfl
  have x1 : W0.cell? ⟨w.heap.size, 1, none⟩ = some vt := cell_at n0 rfl
  have hN0 := hN.on hB0
  have hT0 := hT.on hB0
  cases hh : hasId N id with
  | false =>
    have cF := find_any hN0 hT0 zN zT (by unfold maxLen; omega) (by unfold maxLen; omega) id
    rw [fE_no hg hh] at cF
    have HE : Hid (fE N T id = 5) := fE_no hg hh
    have HHh := Lib.hid hh
    have HI : Hid (Below w.heap.size w W0 ∧ ∀ W, Below W0.heap.size W0 W → W.heap[w.heap.size + 1]? = some (.cells #[.int .i64 0, .string ⟨#[]⟩, .slice none 0 0] 34 (0, 0))) := ⟨hB0, fun W hB => (hB.block _ (by omega)).trans n1⟩
    obtain ⟨an, cn, hvn, _⟩ := hN
    obtain ⟨am, cm, hvt, _⟩ := hT
    subst hvn hvt
    rw [show errV 5 = .iface 74 (.int .i64 5) from rfl] at cF
    clear n0 n1 hB0 hN0 hT0 hg hh
    go_enter Tryz.func8, Tryz.ntmps8
    go_upto_region 1 with fail
    rw [← hW0]
    clear hW0
    go_wp2_with (first | (go_at_call 23; refine cF.mono ?_; rintro e W1 ⟨x, rfl, hB1⟩; have q1 := HI.out.2 W1 hB1; have t0 : W1.cell? ⟨w.heap.size + 1, 0, none⟩ = some (.int .i64 0) := cell_at q1 rfl; have t1 : W1.cell? ⟨w.heap.size + 1, 1, none⟩ = some (.string ⟨#[]⟩) := cell_at q1 rfl; have t2 : W1.cell? ⟨w.heap.size + 1, 2, none⟩ = some (.slice none 0 0) := cell_at q1 rfl; have f0 : W1.frozen? ⟨w.heap.size + 1, 0, none⟩ = false := frz_at q1; have f1 : W1.frozen? ⟨w.heap.size + 1, 1, none⟩ = false := frz_at q1; have f2 : W1.frozen? ⟨w.heap.size + 1, 2, none⟩ = false := frz_at q1; have HQ := Lib.hid q1; clear q1))
    have u := heap_setCell_same _ _ 2 _ 34 (.slice none 0 0) (heap_setCell_same _ _ 1 _ 34 (.string ⟨#[]⟩) (heap_setCell_same W1 _ 0 _ 34 (.int .i64 0) HQ.out))
    have v0 : (((W1.setCell ⟨w.heap.size + 1, 0, none⟩ (.int .i64 0)).setCell ⟨w.heap.size + 1, 1, none⟩ (.string ⟨#[]⟩)).setCell ⟨w.heap.size + 1, 2, none⟩ (.slice none 0 0)).cell? ⟨w.heap.size + 1, 0, none⟩ = some (.int .i64 0) := cell_at u rfl
    have v1 : (((W1.setCell ⟨w.heap.size + 1, 0, none⟩ (.int .i64 0)).setCell ⟨w.heap.size + 1, 1, none⟩ (.string ⟨#[]⟩)).setCell ⟨w.heap.size + 1, 2, none⟩ (.slice none 0 0)).cell? ⟨w.heap.size + 1, 1, none⟩ = some (.string ⟨#[]⟩) := cell_at u rfl
    have v2 : (((W1.setCell ⟨w.heap.size + 1, 0, none⟩ (.int .i64 0)).setCell ⟨w.heap.size + 1, 1, none⟩ (.string ⟨#[]⟩)).setCell ⟨w.heap.size + 1, 2, none⟩ (.slice none 0 0)).cell? ⟨w.heap.size + 1, 2, none⟩ = some (.slice none 0 0) := cell_at u rfl
    refine bodyPost_ret (v := .tuple #[.agg #[.int .i64 0, .string ⟨#[]⟩, .slice none 0 0], .iface 74 (.int .i64 5)]) ?_ rfl ⟨_, _, _, _, _, by rw [HE.out]; rfl, fun h => absurd h (by rw [HHh.out]; decide), below_set3 (on1K HI.out.1 hB1 (Nat.le_refl _)) (by omega) _ _ _ _ _ _⟩
    simp [results, Tryz.results8, go_sem, v0, v1, v2]
  | true =>
    have cF := find_ok hN0 hT0 zN zT hg id hh
    obtain ⟨k, n, hk, hx⟩ := idxN_at id N 0 hh
    rw [Nat.zero_add] at hx
    rw [hx] at cF
    have hkl := (List.getElem?_eq_some_iff.1 hk).1
    have HE : Hid (fE N T id = 0) := fE_ok hg hh
    have hn8 := h8 n (List.mem_of_getElem? hk)
    obtain ⟨an, cn, hvn, hcn, hNN⟩ := hN0
    obtain ⟨am, cm, hvt, _⟩ := hT
    subst hvn hvt
    rcases hNN with h0 | ⟨b, off, hab, hb, hLL⟩
    · rw [h0] at hkl; exact absurd hkl (by simp)
    subst hab
    obtain ⟨c0, c1, c2, cR⟩ := hLL k n hk
    have HI : Hid (Below w.heap.size w W0 ∧ ∀ W, Below W0.heap.size W0 W → W.heap[w.heap.size + 1]? = some (.cells #[.int .i64 0, .string ⟨#[]⟩, .slice none 0 0] 34 (0, 0)) ∧ W.cell? ⟨w.heap.size, 0, none⟩ = some (.slice (some ⟨b, off, none⟩) N.length cn) ∧ W.cell? ⟨b, off + k * 3, none⟩ = some (.int .i64 n.id) ∧ W.cell? ⟨b, off + k * 3 + 1, none⟩ = some (.string n.kd) ∧ W.cell? ⟨b, off + k * 3 + 2, none⟩ = some n.rv ∧ IsR W n.rv n.rc ∧ w.heap.size + 2 ≤ W.heap.size) := ⟨hB0, fun W hB => ⟨(hB.block _ (by omega)).trans n1, (hB.cell (by show w.heap.size < W0.heap.size; omega)).trans x0, (hB.cell hb).trans c0, (hB.cell hb).trans c1, (hB.cell hb).trans c2, cR.on hB, by have := hB.size; omega⟩⟩
    have HK : Hid (N[k]? = some n ∧ idxN id N 0 = (k : Int)) := ⟨hk, hx⟩
    clear n0 n1 hB0 hT0 hg hh hN c0 c1 c2 hLL hk hx hcn
    go_enter Tryz.func8, Tryz.ntmps8
    go_upto_region 1 with fail
    rw [← hW0]
    clear hW0
    obtain ⟨av, lv, cv, hv⟩ := cR.sl
    obtain ⟨ni, kd, rv, rc⟩ := n
    simp only at hv HI hn8
    subst hv
    clear cR
    go_wp2_with (first | (go_at_call 23; refine cF.mono ?_; rintro e W1 ⟨rfl, hB1⟩; refine Hid.out ?_))
    refine Lib.hid ?_
    obtain ⟨q1, q2, q3, q4, q5, q6, q7⟩ := HI.out.2 W1 hB1
    have cc := copiedNode_any ⟨ni, kd, .slice av lv cv, rc⟩ W1 q6 (by show rc.length ≤ 1000; omega)
    have HP : Hid (W1.heap[w.heap.size + 1]? = some (.cells #[.int .i64 0, .string ⟨#[]⟩, .slice none 0 0] 34 (0, 0)) ∧ Below w.heap.size w W1 ∧ w.heap.size + 2 ≤ W1.heap.size) := ⟨q1, on1K HI.out.1 hB1 (Nat.le_refl _), q7⟩
    have hki : (k : Int) < (N.length : Int) := by omega
    clear q1 q6 q7 hB1 HI cF x0 x1
    go_wp2_with (first | (go_at_call 24; refine cc.mono ?_; rintro e W2 ⟨v2, rfl, hR2, hB2⟩; obtain ⟨a3, l3, c3, rfl⟩ := OwnRc.sl hR2; have k1 := (hB2.block (w.heap.size + 1) (by have := HP.out.2.2; omega)).trans HP.out.1; have t0 : W2.cell? ⟨w.heap.size + 1, 0, none⟩ = some (.int .i64 0) := cell_at k1 rfl; have t1 : W2.cell? ⟨w.heap.size + 1, 1, none⟩ = some (.string ⟨#[]⟩) := cell_at k1 rfl; have t2 : W2.cell? ⟨w.heap.size + 1, 2, none⟩ = some (.slice none 0 0) := cell_at k1 rfl; have f0 : W2.frozen? ⟨w.heap.size + 1, 0, none⟩ = false := frz_at k1; have f1 : W2.frozen? ⟨w.heap.size + 1, 1, none⟩ = false := frz_at k1; have f2 : W2.frozen? ⟨w.heap.size + 1, 2, none⟩ = false := frz_at k1; have HF : Hid (Below w.heap.size w W2 ∧ W2.heap[w.heap.size + 1]? = some (.cells #[.int .i64 0, .string ⟨#[]⟩, .slice none 0 0] 34 (0, 0)) ∧ OwnRc W2 w.heap.size (.slice a3 l3 c3) rc) := ⟨on1K HP.out.2.1 hB2 (Nat.le_refl _), k1, own_base hR2 (by have := HP.out.2.2; omega)⟩; clear k1 hR2 hB2))
    obtain ⟨z1, z2, z3⟩ := HF.out
    have u := heap_setCell_same _ _ 2 _ 34 (.slice a3 l3 c3) (heap_setCell_same _ _ 1 _ 34 (.string kd) (heap_setCell_same W2 _ 0 _ 34 (.int .i64 ni) z2))
    have v0 : (((W2.setCell ⟨w.heap.size + 1, 0, none⟩ (.int .i64 ni)).setCell ⟨w.heap.size + 1, 1, none⟩ (.string kd)).setCell ⟨w.heap.size + 1, 2, none⟩ (.slice a3 l3 c3)).cell? ⟨w.heap.size + 1, 0, none⟩ = some (.int .i64 ni) := cell_at u rfl
    have v1 : (((W2.setCell ⟨w.heap.size + 1, 0, none⟩ (.int .i64 ni)).setCell ⟨w.heap.size + 1, 1, none⟩ (.string kd)).setCell ⟨w.heap.size + 1, 2, none⟩ (.slice a3 l3 c3)).cell? ⟨w.heap.size + 1, 1, none⟩ = some (.string kd) := cell_at u rfl
    have v2 : (((W2.setCell ⟨w.heap.size + 1, 0, none⟩ (.int .i64 ni)).setCell ⟨w.heap.size + 1, 1, none⟩ (.string kd)).setCell ⟨w.heap.size + 1, 2, none⟩ (.slice a3 l3 c3)).cell? ⟨w.heap.size + 1, 2, none⟩ = some (.slice a3 l3 c3) := cell_at u rfl
    have ty : Ty W2 (w.heap.size + 1) 34 := ⟨_, z2⟩
    refine bodyPost_ret (v := .tuple #[.agg #[.int .i64 ni, .string kd, .slice a3 l3 c3], .nilIface]) ?_ rfl ⟨_, _, _, _, _, by rw [HE.out]; rfl, fun _ => ⟨k, ⟨ni, kd, .slice av lv cv, rc⟩, HK.out.1, HK.out.2, rfl, rfl, OwnRc.kt z3 ((Kt.refl _ _).ty3 ty (by decide) _ _ _ _ _ _)⟩, below_set3 z1 (by omega) _ _ _ _ _ _⟩
    simp [results, Tryz.results8, go_sem, v0, v1, v2]
end Go.Proofs.YtffiddpnkiejkaaGreat

/-
  What GuardNear's own walk needs of a node that is not touched.
-/
namespace Go.Proofs.YtffiddpnkiejkaaGreat
open Go.RowKit
set_option linter.unusedVariables false
set_option linter.unusedSimpArgs false

theorem idxN_ge (id : Int) : ∀ (N : List Nd) (s : Nat), idxN id N s = -1 ∨ (s : Int) ≤ idxN id N s
  | [], s => .inl rfl
  | n :: r, s => by
    unfold idxN
    by_cases e : n.id = id
    · rw [if_pos e]; exact .inr (Int.le_refl _)
    · rw [if_neg e]
      rcases idxN_ge id r (s + 1) with h | h
      · exact .inl h
      · exact .inr (by omega)
theorem idxN_id (id : Int) : ∀ (N : List Nd) (s j : Nat) (m : Nd), N[j]? = some m → idxN id N s = ((s + j : Nat) : Int) → m.id = id
  | [], s, j, m, h, _ => by simp at h
  | n :: r, s, j, m, h, hx => by
    by_cases e : n.id = id
    · have h0 : idxN id (n :: r) s = (s : Int) := by unfold idxN; rw [if_pos e]
      have hj : j = 0 := by omega
      subst hj
      obtain rfl : n = m := by simpa using h
      exact e
    · have h0 : idxN id (n :: r) s = idxN id r (s + 1) := by conv => lhs; unfold idxN
                                                             rw [if_neg e]
      match j with
      | 0 => rcases idxN_ge id r (s + 1) with q | q <;> omega
      | j + 1 => exact idxN_id id r (s + 1) j m (by simpa using h) (by omega)
/-- A node that is not touched stands there as it stood. -/
theorem near_node {N M : List Nd} {T : List Te} {O : List Opx} (h : AllOk N T O) (hM : cN M = resN N T O) (hg : gErr M (resT N T O) = 0) {n : Nd} (hn : n ∈ N) (hi : n.id ∉ touA T O) :
    fE N T n.id = 0 ∧ fE M (resT N T O) n.id = 0 ∧ hasId M n.id = true ∧ ∀ (j : Nat) (m : Nd), M[j]? = some m → idxN n.id M 0 = (j : Int) → m.id = n.id ∧ m.kd = n.kd ∧ m.rc = n.rc := by
  obtain ⟨hu, _⟩ := near_all h
  have h1 : n.c ∈ cN N := List.mem_map.2 ⟨n, hn, rfl⟩
  have h2 : n.c ∈ resN N T O := (hu.nd n.c hi).2 h1
  rw [← hM] at h2
  obtain ⟨m, hm, hc⟩ := List.mem_map.1 h2
  have c1 : m.id = n.id := by have q := congrArg Nd.id hc; exact q
  have c2 : m.kd = n.kd := by have q := congrArg Nd.kd hc; exact q
  have c3 : m.rc = n.rc := by have q := congrArg Nd.rc hc; exact q
  have hh : hasId M n.id = true := by unfold hasId; rw [List.any_eq_true]; exact ⟨m, hm, by simpa using c1⟩
  have hh0 : hasId N n.id = true := by unfold hasId; rw [List.any_eq_true]; exact ⟨n, hn, by simp⟩
  refine ⟨fE_ok h.2.1 hh0, fE_ok hg hh, hh, fun j x hx hj => ?_⟩
  have hxi : x.id = n.id := idxN_id n.id M 0 j x hx (by rw [hj, Nat.zero_add])
  obtain ⟨⟨_, s1, _⟩, _⟩ := (gErr_iff _ _).1 hg
  obtain rfl : x = m := srtN_uniq s1 (List.mem_of_getElem? hx) hm (hxi.trans c1.symm)
  exact ⟨c1, c2, c3⟩
theorem near_outs {N M : List Nd} {T : List Te} {O : List Opx} (h : AllOk N T O) {id : Int} (hi : id ∉ touA T O) (bd : ByteArray) : outs (resT N T O) bd id = outs T bd id := by
  obtain ⟨hu, hg⟩ := near_all h
  obtain ⟨_, ⟨_, t1, _⟩⟩ := (gErr_iff _ _).1 hg
  obtain ⟨_, ⟨_, t0, _⟩⟩ := (gErr_iff _ _).1 h.2.1
  exact outs_near hu t0 t1 hi bd
/-- graph.Node of what the ops made, at a node that is not touched. -/
theorem node_near {vn vt : Value} {N M : List Nd} {T : List Te} {O : List Opx} {W : World} (h : AllOk N T O) (hM : cN M = resN N T O) (hg : gErr M (resT N T O) = 0) (h1 : IsN W vn M) (h2 : IsT W vt (resT N T O)) {n : Nd} (hn : n ∈ N) (hi : n.id ∉ touA T O) :
    Calls Tryz.prog 8 #[.agg #[vn, vt], .int .i64 n.id] W fun e w' => ∃ a l c, e = .returned (.tuple #[.agg #[.int .i64 n.id, .string n.kd, .slice a l c], .nilIface]) ∧ IsR w' (.slice a l c) n.rc ∧ Below W.heap.size W w' := by
  obtain ⟨_, f1, hh, hj⟩ := near_node h hM hg hn hi
  obtain ⟨z1, z2⟩ := gErr_sz hg
  refine (node_any h1 h2 z1 z2 hg (fun x hx => rErr_le ((ndE_iff x).1 (((gErr_iff _ _).1 hg).1.2.2 x hx)).2.2) n.id).mono ?_
  rintro e w' ⟨i, k, a, l, c, rfl, hp, hB⟩
  obtain ⟨j, m, hm, hx, rfl, rfl, ho⟩ := hp hh
  obtain ⟨q1, q2, q3⟩ := hj j m hm hx
  rw [q3] at ho
  exact ⟨a, l, c, by rw [f1, errV_0, q1, q2], ho.isR, hB⟩
/-- graph.Out at a node that is not touched, of both graphs. -/
theorem out_near0 {vn vt : Value} {N : List Nd} {T : List Te} {O : List Opx} {W : World} (h : AllOk N T O) (h1 : IsN W vn N) (h2 : IsT W vt T) {n : Nd} (hn : n ∈ N) (bd : ByteArray) :
    Calls Tryz.prog 10 #[.agg #[vn, vt], .int .i64 n.id, .string bd] W fun e w' => ∃ v, e = .returned (.tuple #[v, .nilIface]) ∧ IsI w' v (outs T bd n.id) ∧ Below W.heap.size W w' := by
  have hh0 : hasId N n.id = true := by unfold hasId; rw [List.any_eq_true]; exact ⟨n, hn, by simp⟩
  have f := fE_ok h.2.1 hh0
  obtain ⟨z1, z2⟩ := gErr_sz h.2.1
  have hl := gErr_len h.2.1
  refine (out_all h1 h2 z1 z2 (by unfold maxLen; omega) (by unfold maxLen; omega) n.id bd).mono ?_
  rintro e w' ⟨v, rfl, hI, hB⟩
  unfold outL at hI
  rw [if_pos f] at hI
  exact ⟨v, by rw [f, errV_0], hI, hB⟩
theorem out_near1 {vn vt : Value} {N M : List Nd} {T : List Te} {O : List Opx} {W : World} (h : AllOk N T O) (hM : cN M = resN N T O) (hg : gErr M (resT N T O) = 0) (h1 : IsN W vn M) (h2 : IsT W vt (resT N T O)) {n : Nd} (hn : n ∈ N) (hi : n.id ∉ touA T O) (bd : ByteArray) :
    Calls Tryz.prog 10 #[.agg #[vn, vt], .int .i64 n.id, .string bd] W fun e w' => ∃ v, e = .returned (.tuple #[v, .nilIface]) ∧ IsI w' v (outs T bd n.id) ∧ Below W.heap.size W w' := by
  obtain ⟨_, f, _, _⟩ := near_node h hM hg hn hi
  obtain ⟨z1, z2⟩ := gErr_sz hg
  have hl := gErr_len hg
  refine (out_all h1 h2 z1 z2 (by unfold maxLen; omega) (by unfold maxLen; omega) n.id bd).mono ?_
  rintro e w' ⟨v, rfl, hI, hB⟩
  unfold outL at hI
  rw [if_pos f, near_outs (M := M) h hi bd] at hI
  exact ⟨v, by rw [f, errV_0], hI, hB⟩
/-- A list of faults lies there. -/
def IsX (w : World) (v : Value) (F : List Ft) : Prop :=
  ∃ ao c, v = .slice ao F.length c ∧ F.length ≤ maxLen ∧ (F = [] ∨ ∃ b, ao = some ⟨b, 0, none⟩ ∧ b < w.heap.size ∧ ∀ k f, F[k]? = some f → w.cell? ⟨b, k * 3, none⟩ = some (.int .i64 f.wh) ∧ w.cell? ⟨b, k * 3 + 1, none⟩ = some (.int .i64 f.id))
theorem IsX.on {w w' : World} {v : Value} {F : List Ft} (h : IsX w v F) (hB : Below w.heap.size w w') : IsX w' v F := by
  obtain ⟨ao, c, rfl, hm, h0 | ⟨b, rfl, hb, hL⟩⟩ := h
  · exact ⟨ao, c, rfl, hm, .inl h0⟩
  · exact ⟨_, c, rfl, hm, .inr ⟨b, rfl, Nat.lt_of_lt_of_le hb hB.size, fun k f hf => ⟨(hB.cell hb).trans (hL k f hf).1, (hB.cell hb).trans (hL k f hf).2⟩⟩⟩
theorem cellsX_at : ∀ (F : List Ft) (k i : Nat) (f : Ft) (u : Value), F[k]? = some f → f.cells[i]? = some u → (cellsX F)[k * 3 + i]? = some u
  | [], k, i, f, u, h, _ => by simp at h
  | g :: r, 0, i, f, u, h, hu => by
    obtain rfl : g = f := by simpa using h
    have hi : i < 3 := (List.getElem?_eq_some_iff.1 hu).1
    show (g.cells ++ cellsX r)[0 * 3 + i]? = some u
    rw [Nat.zero_mul, Nat.zero_add, List.getElem?_append_left hi]
    exact hu
  | g :: r, k + 1, i, f, u, h, hu => by
    have ih := cellsX_at r k i f u (by simpa using h) hu
    show (g.cells ++ cellsX r)[(k + 1) * 3 + i]? = some u
    rw [List.getElem?_append_right (by show 3 ≤ _; omega)]
    show (cellsX r)[(k + 1) * 3 + i - 3]? = some u
    rw [show (k + 1) * 3 + i - 3 = k * 3 + i by omega]
    exact ih
theorem ownX_isX {w : World} {base : Nat} {v : Value} {F : List Ft} (h : OwnX w base v F) : IsX w v F := by
  have hc : ∀ g, v.ownBlock = some g → ∀ j u, (cellsX F)[j]? = some u → w.cell? ((⟨g, 0, none⟩ : Addr).add j) = some u := fun g hg => World.ownsRow.cells h hg
  rcases h.2 with ⟨rfl, h0⟩ | ⟨g, cap, cur, rfl, hb, hg, hle, hcm, hcs, ht⟩
  · obtain rfl := List.eq_nil_of_length_eq_zero h0
    exact ⟨none, 0, rfl, Nat.zero_le _, .inl rfl⟩
  · refine ⟨_, cap, rfl, Nat.le_trans hle hcm, .inr ⟨g, rfl, (Array.getElem?_eq_some_iff.1 hg).1, fun k f hf => ⟨?_, ?_⟩⟩⟩
    · have d0 := hc g rfl (k * 3 + 0) (.int .i64 f.wh) (cellsX_at F k 0 f _ hf rfl)
      rw [Addr.add_lit, Nat.zero_add] at d0
      exact d0
    · have d0 := hc g rfl (k * 3 + 1) (.int .i64 f.id) (cellsX_at F k 1 f _ hf rfl)
      rw [Addr.add_lit, Nat.zero_add] at d0
      exact d0
/-- guard.Check: each fault names a node that was touched, or is that of a key. -/
theorem gd_near {vs vg vl : Value} {L : List Kd} {B : List Bd} {N : List Nd} {T : List Te} {O : List Opx} {w : World} (hs : IsSc w vs L B) (hg : IsG w vg N T) (hl : IsO w vl O) (zl : ∀ o ∈ O, OpSz o) (lO : O.length ≤ maxLen) (h : AllOk N T O) :
    Calls Tryz.prog 12 #[vs, vg, vl] w fun e w' => ∃ a c e2 F, e = .returned (.tuple #[.slice a (F : List Ft).length c, e2]) ∧ IsX w' (.slice a F.length c) F ∧ (∀ f ∈ F, f.id ∈ touA T O ∨ f.wh = 4) ∧ Below w.heap.size w w' := by
  by_cases hk : CkOk L B N T O
  · refine (gdcheck_yes hs hg hl zl hk).mono ?_
    rintro e w' ⟨u, rfl, ho, hB⟩
    have hx := ownX_isX ho
    have hx' := hx
    obtain ⟨ao, c, rfl, _⟩ := hx'
    have h0 : allF L B N T = [] := by
      have := hk.2.1
      unfold confB at this
      simp only [Bool.and_eq_true, decide_eq_true_eq] at this
      exact List.eq_nil_of_length_eq_zero this.2
    exact ⟨ao, c, .nilIface, _, rfl, hx, near_faulty h h0, hB⟩
  · refine (gdcheck_no hs hg hl zl lO hk).mono ?_
    rintro e w' ⟨z, _, rfl, hB⟩
    exact ⟨none, 0, _, [], rfl, ⟨none, 0, rfl, Nat.zero_le _, .inl rfl⟩, fun f hf => (by cases hf), hB⟩
/-- Where a loop stands. -/
def NrI (n : Nat) (W : World) (i : Value) (wr : World) : Prop := ∃ k : Nat, k ≤ n ∧ i = .int .i64 k ∧ Below W.heap.size W wr
end Go.Proofs.YtffiddpnkiejkaaGreat
