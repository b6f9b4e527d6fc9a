/-
  The walk of graph.Node.
-/
import Derived.Test.YtelbmianojomgaaGraG
import Derived.Test.YtelbmianojomgaaDelA
namespace Go.Proofs.Ytelbmianojomgaa
open Go.RowKit
set_option linter.unusedVariables false
set_option linter.unusedSimpArgs false

theorem idxN_at (id : Int) : ∀ (N : List Nd) (s : Nat), hasId N id = true → ∃ k n, N[k]? = some n ∧ idxN id N s = ((s + k : Nat) : Int)
  | [], s, h => by simp [hasId] at h
  | n :: r, s, h => by
    by_cases e : n.id = id
    · exact ⟨0, n, rfl, by simp [idxN, e]⟩
    · have h' : hasId r id = true := by
        unfold hasId at h ⊢
        rw [List.any_cons, Bool.or_eq_true] at h
        rcases h with h | h
        · exact absurd (by simpa using h) e
        · exact h
      obtain ⟨k, x, hk, hx⟩ := idxN_at id r (s + 1) h'
      refine ⟨k + 1, x, by simpa using hk, ?_⟩
      have : idxN id (n :: r) s = idxN id r (s + 1) := by simp [idxN, e]
      rw [this, hx]
      congr 1
      omega

set_option maxHeartbeats 1000000 in
set_option maxRecDepth 100000 in
theorem find_ok {vn vt : Value} {N : List Nd} {T : List Te} {w : World} (hN : IsN w vn N) (hT : IsT w vt T) (zN : SzN N) (zT : SzT T) (hg : gErr N T = 0) (id : Int) (hh : hasId N id = true) :
    Calls Try.prog 24 #[.agg #[vn, vt], .int .i64 id] w fun e w' => e = .returned (.tuple #[.int .i64 (idxN id N 0), .nilIface]) ∧ Below w.heap.size w w' := by
  have hN' := hN
  obtain ⟨an, cn, rfl, hcn, hn⟩ := hN
  have hT' := hT
  obtain ⟨am, cm, rfl, hcm, hm⟩ := hT
  have hB : Below w.heap.size w ((w.alloc (.cells #[.slice an N.length cn, .slice am T.length cm] 25)).alloc (.cells #[.int .i64 id] 3)) := b_alloc (b_alloc (Below.refl _ _) _) _
  have hl := gErr_len hg
  have cc := gcheck_any (hN'.on hB) (hT'.on hB) zN zT (by unfold maxLen; omega) (by unfold maxLen; omega)
  rw [hg, errV_0] at cc
  have g0 : ((w.alloc (.cells #[.slice an N.length cn, .slice am T.length cm] 25)).alloc (.cells #[.int .i64 id] 3)).cell? ⟨w.heap.size, 0, none⟩ = some (.slice an N.length cn) := by simp
  have g2 : ((w.alloc (.cells #[.slice an N.length cn, .slice am T.length cm] 25)).alloc (.cells #[.int .i64 id] 3)).cell? ⟨w.heap.size + 1, 0, none⟩ = some (.int .i64 id) := by simp
  have ci := fun W (hW : Below ((w.alloc (.cells #[.slice an N.length cn, .slice am T.length cm] 25)).alloc (.cells #[.int .i64 id] 3)).heap.size ((w.alloc (.cells #[.slice an N.length cn, .slice am T.length cm] 25)).alloc (.cells #[.int .i64 id] 3)) W) => index_any (ao := an) (cn := cn) (N := N) (w := W) (by
    rcases hn with h | ⟨b, off, h1, h2, h3⟩
    · exact .inl h
    · exact .inr ⟨b, off, h1, Nat.lt_of_lt_of_le h2 (on1 hB hW).size, h3.on h2 (on1 hB hW)⟩) (gErr_len hg).1 (w.heap.size + 1) id (by have := hW.size; simp at this; omega) ((hW.cell (by simp)).trans g2)
  have HG : Hid (∀ W, Below ((w.alloc (.cells #[.slice an N.length cn, .slice am T.length cm] 25)).alloc (.cells #[.int .i64 id] 3)).heap.size ((w.alloc (.cells #[.slice an N.length cn, .slice am T.length cm] 25)).alloc (.cells #[.int .i64 id] 3)) W → W.cell? ⟨w.heap.size, 0, none⟩ = some (.slice an N.length cn)) := fun W hW => (hW.cell (by simp; omega)).trans g0
  obtain ⟨k, n, hk, hx⟩ := idxN_at id N 0 hh
  rw [Nat.zero_add] at hx
  rw [hx] at ci ⊢
  clear g0 g2 hg hn hm hx hh hk
  have hk0 : ¬ ((k : Int) < 0) := by omega
  go_enter Try.func24, Try.ntmps24
  go_wp2_with (first | (go_at_call 9; refine cc.mono ?_; rintro e W2 ⟨rfl, hB2⟩; have k0 := HG.out W2 hB2) | (go_at_call 37; refine (ci _ hB2).mono ?_; rintro e W3 ⟨rfl, hB3⟩))
  go_ret2
  exact ⟨rfl, on1 (on1 hB hB2) hB3⟩

/-- What Node gives: any node, and the error. -/
def NoP (w : World) (N : List Nd) (T : List Te) (id : Int) (e : Ending) (w' : World) : Prop := ∃ i k a l c, e = .returned (.tuple #[.agg #[.int .i64 i, .string k, .slice a l c], errV (fE N T id)]) ∧ Below w.heap.size w w'

set_option maxHeartbeats 2000000 in
set_option maxRecDepth 100000 in
theorem node_any {vn vt : Value} {N : List Nd} {T : List Te} {w : World} (hN : IsN w vn N) (hT : IsT w vt T) (zN : SzN N) (zT : SzT T) (hg : gErr N T = 0) (h8 : ∀ n ∈ N, n.rc.length ≤ 8) (id : Int) :
    Calls Try.prog 23 #[.agg #[vn, vt], .int .i64 id] w (NoP w N T id) := by
  obtain ⟨W0, hW0⟩ : ∃ W0, W0 = (w.alloc (.cells #[vn, vt] 25)).alloc (.cells #[.int .i64 0, .string ⟨#[]⟩, .slice none 0 0] 29) := ⟨_, rfl⟩
  have hB0 : Below w.heap.size w W0 := by rw [hW0]; exact b_alloc (b_alloc (Below.refl _ _) _) _
  have hs0 : W0.heap.size = w.heap.size + 2 := by rw [hW0]; simp
  have n0 : W0.heap[w.heap.size]? = some (.cells #[vn, vt] 25 (0, 0)) := by rw [hW0]; exact (heap_alloc_old _ _ (by simp)).trans (heap_alloc_new w _)
  have n1 : W0.heap[w.heap.size + 1]? = some (.cells #[.int .i64 0, .string ⟨#[]⟩, .slice none 0 0] 29 (0, 0)) := by
    have := heap_alloc_new (w.alloc (.cells #[vn, vt] 25)) (.cells #[.int .i64 0, .string ⟨#[]⟩, .slice none 0 0] 29)
    rw [World.size_alloc] at this; rw [hW0]; exact this
  have hl := gErr_len hg
  have x0 : W0.cell? ⟨w.heap.size, 0, none⟩ = some vn := cell_at n0 rfl
  have x1 : W0.cell? ⟨w.heap.size, 1, none⟩ = some vt := cell_at n0 rfl
  have hN0 := hN.on hB0
  have hT0 := hT.on hB0
  cases hh : hasId N id with
  | false =>
    have cF := find_any hN0 hT0 zN zT (by unfold maxLen; omega) (by unfold maxLen; omega) id
    rw [fE_no hg hh] at cF
    have HE : Hid (fE N T id = 5) := fE_no hg hh
    have HI : Hid (Below w.heap.size w W0 ∧ ∀ W, Below W0.heap.size W0 W → W.heap[w.heap.size + 1]? = some (.cells #[.int .i64 0, .string ⟨#[]⟩, .slice none 0 0] 29 (0, 0))) := ⟨hB0, fun W hB => (hB.block _ (by omega)).trans n1⟩
    obtain ⟨an, cn, hvn, _⟩ := hN
    obtain ⟨am, cm, hvt, _⟩ := hT
    subst hvn hvt
    rw [show errV 5 = .iface 78 (.int .i64 5) from rfl] at cF
    clear n0 n1 hB0 hN0 hT0 hg hh
    go_enter Try.func23, Try.ntmps23
    go_upto_region 1 with fail
    rw [← hW0]
    clear hW0
    go_wp2_with (first | (go_at_call 24; refine cF.mono ?_; rintro e W1 ⟨x, rfl, hB1⟩; have q1 := HI.out.2 W1 hB1; have t0 : W1.cell? ⟨w.heap.size + 1, 0, none⟩ = some (.int .i64 0) := cell_at q1 rfl; have t1 : W1.cell? ⟨w.heap.size + 1, 1, none⟩ = some (.string ⟨#[]⟩) := cell_at q1 rfl; have t2 : W1.cell? ⟨w.heap.size + 1, 2, none⟩ = some (.slice none 0 0) := cell_at q1 rfl; have f0 : W1.frozen? ⟨w.heap.size + 1, 0, none⟩ = false := frz_at q1; have f1 : W1.frozen? ⟨w.heap.size + 1, 1, none⟩ = false := frz_at q1; have f2 : W1.frozen? ⟨w.heap.size + 1, 2, none⟩ = false := frz_at q1; have HQ := Lib.hid q1; clear q1))
    have u := heap_setCell_same _ _ 2 _ 29 (.slice none 0 0) (heap_setCell_same _ _ 1 _ 29 (.string ⟨#[]⟩) (heap_setCell_same W1 _ 0 _ 29 (.int .i64 0) HQ.out))
    have v0 : (((W1.setCell ⟨w.heap.size + 1, 0, none⟩ (.int .i64 0)).setCell ⟨w.heap.size + 1, 1, none⟩ (.string ⟨#[]⟩)).setCell ⟨w.heap.size + 1, 2, none⟩ (.slice none 0 0)).cell? ⟨w.heap.size + 1, 0, none⟩ = some (.int .i64 0) := cell_at u rfl
    have v1 : (((W1.setCell ⟨w.heap.size + 1, 0, none⟩ (.int .i64 0)).setCell ⟨w.heap.size + 1, 1, none⟩ (.string ⟨#[]⟩)).setCell ⟨w.heap.size + 1, 2, none⟩ (.slice none 0 0)).cell? ⟨w.heap.size + 1, 1, none⟩ = some (.string ⟨#[]⟩) := cell_at u rfl
    have v2 : (((W1.setCell ⟨w.heap.size + 1, 0, none⟩ (.int .i64 0)).setCell ⟨w.heap.size + 1, 1, none⟩ (.string ⟨#[]⟩)).setCell ⟨w.heap.size + 1, 2, none⟩ (.slice none 0 0)).cell? ⟨w.heap.size + 1, 2, none⟩ = some (.slice none 0 0) := cell_at u rfl
    refine bodyPost_ret (v := .tuple #[.agg #[.int .i64 0, .string ⟨#[]⟩, .slice none 0 0], .iface 78 (.int .i64 5)]) ?_ rfl ⟨_, _, _, _, _, by rw [HE.out]; rfl, below_set3 (on1K HI.out.1 hB1 (Nat.le_refl _)) (by omega) _ _ _ _ _ _⟩
    simp [results, Try.results23, go_sem, v0, v1, v2]
  | true =>
    have cF := find_ok hN0 hT0 zN zT hg id hh
    obtain ⟨k, n, hk, hx⟩ := idxN_at id N 0 hh
    rw [Nat.zero_add] at hx
    rw [hx] at cF
    have hkl := (List.getElem?_eq_some_iff.1 hk).1
    have HE : Hid (fE N T id = 0) := fE_ok hg hh
    have hn8 := h8 n (List.mem_of_getElem? hk)
    obtain ⟨an, cn, hvn, hcn, hNN⟩ := hN0
    obtain ⟨am, cm, hvt, _⟩ := hT
    subst hvn hvt
    rcases hNN with h0 | ⟨b, off, hab, hb, hLL⟩
    · rw [h0] at hkl; exact absurd hkl (by simp)
    subst hab
    obtain ⟨c0, c1, c2, cR⟩ := hLL k n hk
    have HI : Hid (Below w.heap.size w W0 ∧ ∀ W, Below W0.heap.size W0 W → W.heap[w.heap.size + 1]? = some (.cells #[.int .i64 0, .string ⟨#[]⟩, .slice none 0 0] 29 (0, 0)) ∧ W.cell? ⟨w.heap.size, 0, none⟩ = some (.slice (some ⟨b, off, none⟩) N.length cn) ∧ W.cell? ⟨b, off + k * 3, none⟩ = some (.int .i64 n.id) ∧ W.cell? ⟨b, off + k * 3 + 1, none⟩ = some (.string n.kd) ∧ W.cell? ⟨b, off + k * 3 + 2, none⟩ = some n.rv ∧ IsR W n.rv n.rc ∧ w.heap.size + 2 ≤ W.heap.size) := ⟨hB0, fun W hB => ⟨(hB.block _ (by omega)).trans n1, (hB.cell (by show w.heap.size < _; omega)).trans x0, (hB.cell hb).trans c0, (hB.cell hb).trans c1, (hB.cell hb).trans c2, cR.on hB, by have := hB.size; omega⟩⟩
    clear n0 n1 hB0 hT0 hg hh hN c0 c1 c2 hLL hk hx hcn
    go_enter Try.func23, Try.ntmps23
    go_upto_region 1 with fail
    rw [← hW0]
    clear hW0
    obtain ⟨av, lv, cv, hv⟩ := cR.sl
    obtain ⟨ni, kd, rv, rc⟩ := n
    simp only at hv HI hn8
    subst hv
    clear cR
    go_wp2_with (first | (go_at_call 24; refine cF.mono ?_; rintro e W1 ⟨rfl, hB1⟩; refine Hid.out ?_))
    refine Lib.hid ?_
    obtain ⟨q1, q2, q3, q4, q5, q6, q7⟩ := HI.out.2 W1 hB1
    have hX : Below W1.heap.size W1 (W1.alloc (.cells #[.int .i64 ni, .string kd, .slice av lv cv] 29)) := b_alloc (Below.refl _ _) _
    have hcl := fun ty => clone_rec (W1.alloc (.cells #[.int .i64 ni, .string kd, .slice av lv cv] 29)) w.heap.size (by simp; omega) (q6.on hX) (by omega) ty
    have p1 := (hX.block (w.heap.size + 1) (by omega)).trans q1
    have p2 := heap_alloc_new W1 (.cells #[.int .i64 ni, .string kd, .slice av lv cv] 29)
    have hbw : Below w.heap.size w (W1.alloc (.cells #[.int .i64 ni, .string kd, .slice av lv cv] 29)) := on1K (on1K HI.out.1 hB1 (Nat.le_refl _)) hX (Nat.le_refl _)
    have HP : Hid ((W1.alloc (.cells #[.int .i64 ni, .string kd, .slice av lv cv] 29)).heap[w.heap.size + 1]? = some (.cells #[.int .i64 0, .string ⟨#[]⟩, .slice none 0 0] 29 (0, 0)) ∧ (W1.alloc (.cells #[.int .i64 ni, .string kd, .slice av lv cv] 29)).heap[W1.heap.size]? = some (.cells #[.int .i64 ni, .string kd, .slice av lv cv] 29 (0, 0)) ∧ Below w.heap.size w (W1.alloc (.cells #[.int .i64 ni, .string kd, .slice av lv cv] 29)) ∧ w.heap.size + 2 ≤ W1.heap.size) := ⟨p1, p2, hbw, q7⟩
    clear q1 q6 q7 hX p1 p2 hbw hB1 HI cF x0 x1
    go_wp2_with (first | (at_builtin; refine wpList_append_E rfl _ _ 27 rfl _ _ rfl rfl (hcl _) ?_; rintro v2 W2 ⟨hown, hgrow⟩; refine Hid.out ?_))
    refine Lib.hid ?_
    obtain ⟨a3, c3, hu3⟩ := own_slice hown
    subst hu3
    obtain ⟨p1, p2, p3, p4⟩ := HP.out
    have k1 := (hgrow.block (w.heap.size + 1) (by simp; omega) (by simp)).trans p1
    have k2 := (hgrow.block W1.heap.size (by simp) (by simp)).trans p2
    have hb2 : Below w.heap.size w W2 := on1K p3 (grown_below hgrow) (Nat.le_refl _)
    have e0 : W2.cell? ⟨W1.heap.size, 0, none⟩ = some (.int .i64 ni) := cell_at k2 rfl
    have e1 : W2.cell? ⟨W1.heap.size, 1, none⟩ = some (.string kd) := cell_at k2 rfl
    have e2 : W2.cell? ⟨W1.heap.size, 2, none⟩ = some (.slice av lv cv) := cell_at k2 rfl
    have g2 : W2.frozen? ⟨W1.heap.size, 2, none⟩ = false := frz_at k2
    have t0 : W2.cell? ⟨w.heap.size + 1, 0, none⟩ = some (.int .i64 0) := cell_at k1 rfl
    have t1 : W2.cell? ⟨w.heap.size + 1, 1, none⟩ = some (.string ⟨#[]⟩) := cell_at k1 rfl
    have t2 : W2.cell? ⟨w.heap.size + 1, 2, none⟩ = some (.slice none 0 0) := cell_at k1 rfl
    have f0 : W2.frozen? ⟨w.heap.size + 1, 0, none⟩ = false := frz_at k1
    have f1 : W2.frozen? ⟨w.heap.size + 1, 1, none⟩ = false := frz_at k1
    have f2 : W2.frozen? ⟨w.heap.size + 1, 2, none⟩ = false := frz_at k1
    have hne : ¬ W1.heap.size = w.heap.size + 1 := by omega
    have hne' : ¬ w.heap.size + 1 = W1.heap.size := by omega
    have HF : Hid (Below w.heap.size w W2 ∧ W2.heap[w.heap.size + 1]? = some (.cells #[.int .i64 0, .string ⟨#[]⟩, .slice none 0 0] 29 (0, 0)) ∧ w.heap.size + 1 ≠ W1.heap.size ∧ w.heap.size ≤ W1.heap.size) := ⟨hb2, k1, hne', by omega⟩
    clear p1 p2 p3 p4 k1 k2 hb2 hown hgrow HP hcl
    go_wp2
    obtain ⟨z1, z2, z3, z4⟩ := HF.out
    have u := heap_setCell_same _ _ 2 _ 29 (.slice a3 rc.length c3) (heap_setCell_same _ _ 1 _ 29 (.string kd) (heap_setCell_same _ _ 0 _ 29 (.int .i64 ni) ((heap_setCell_other W2 ⟨W1.heap.size, 2, none⟩ (w.heap.size + 1) (.slice a3 rc.length c3) z3).trans z2)))
    have v0 : ((((W2.setCell ⟨W1.heap.size, 2, none⟩ (.slice a3 rc.length c3)).setCell ⟨w.heap.size + 1, 0, none⟩ (.int .i64 ni)).setCell ⟨w.heap.size + 1, 1, none⟩ (.string kd)).setCell ⟨w.heap.size + 1, 2, none⟩ (.slice a3 rc.length c3)).cell? ⟨w.heap.size + 1, 0, none⟩ = some (.int .i64 ni) := cell_at u rfl
    have v1 : ((((W2.setCell ⟨W1.heap.size, 2, none⟩ (.slice a3 rc.length c3)).setCell ⟨w.heap.size + 1, 0, none⟩ (.int .i64 ni)).setCell ⟨w.heap.size + 1, 1, none⟩ (.string kd)).setCell ⟨w.heap.size + 1, 2, none⟩ (.slice a3 rc.length c3)).cell? ⟨w.heap.size + 1, 1, none⟩ = some (.string kd) := cell_at u rfl
    have v2 : ((((W2.setCell ⟨W1.heap.size, 2, none⟩ (.slice a3 rc.length c3)).setCell ⟨w.heap.size + 1, 0, none⟩ (.int .i64 ni)).setCell ⟨w.heap.size + 1, 1, none⟩ (.string kd)).setCell ⟨w.heap.size + 1, 2, none⟩ (.slice a3 rc.length c3)).cell? ⟨w.heap.size + 1, 2, none⟩ = some (.slice a3 rc.length c3) := cell_at u rfl
    refine bodyPost_ret (v := .tuple #[.agg #[.int .i64 ni, .string kd, .slice a3 rc.length c3], .nilIface]) ?_ rfl ⟨_, _, _, _, _, by rw [HE.out]; rfl, below_set3 (z1.setCell z4 _) (by omega) _ _ _ _ _ _⟩
    simp [results, Try.results23, go_sem, v0, v1, v2]
end Go.Proofs.Ytelbmianojomgaa
