/-
  The walk of graph.Node.
-/
import Derived.Test.YtelbmianojomgaaM25
import Derived.Test.YtelbmianojomgaaM05
import Derived.Test.YtelbmianojomgaaM04
import Derived.Test.YtelbmianojomgaaM10
namespace Go.Proofs.Ytelbmianojomgaa
open Go.RowKit
set_option linter.unusedVariables false
set_option linter.unusedSimpArgs false

theorem idxN_at (id : Int) : ∀ (N : List Nd) (s : Nat), hasId N id = true → ∃ k n, N[k]? = some n ∧ idxN id N s = ((s + k : Nat) : Int)
  | [], s, h => by simp [hasId] at h
  | n :: r, s, h => by
    by_cases e : n.id = id
    · exact ⟨0, n, rfl, by simp [idxN, e]⟩
    · have h' : hasId r id = true := by
        unfold hasId at h ⊢
        rw [List.any_cons, Bool.or_eq_true] at h
        rcases h with h | h
        · exact absurd (by simpa using h) e
        · exact h
      obtain ⟨k, x, hk, hx⟩ := idxN_at id r (s + 1) h'
      refine ⟨k + 1, x, by simpa using hk, ?_⟩
      have : idxN id (n :: r) s = idxN id r (s + 1) := by simp [idxN, e]
      rw [this, hx]
      congr 1
      omega

set_option maxHeartbeats 1000000 in
set_option maxRecDepth 100000 in
theorem find_ok {vn vt : Value} {N : List Nd} {T : List Te} {w : World} (hN : IsN w vn N) (hT : IsT w vt T) (zN : SzN N) (zT : SzT T) (hg : gErr N T = 0) (id : Int) (hh : hasId N id = true) :
    Calls Try.prog 24 #[.agg #[vn, vt], .int .i64 id] w fun e w' => e = .returned (.tuple #[.int .i64 (idxN id N 0), .nilIface]) ∧ Below w.heap.size w w' := by
  have hN' := hN
  obtain ⟨an, cn, rfl, hcn, hn⟩ := hN
  have hT' := hT
  obtain ⟨am, cm, rfl, hcm, hm⟩ := hT
  have hB : Below w.heap.size w ((w.alloc (.cells #[.slice an N.length cn, .slice am T.length cm] 25)).alloc (.cells #[.int .i64 id] 3)) := b_alloc (b_alloc (Below.refl _ _) _) _
  have hl := gErr_len hg
  have cc := gcheck_any (hN'.on hB) (hT'.on hB) zN zT (by unfold maxLen; omega) (by unfold maxLen; omega)
  rw [hg, errV_0] at cc
  have g0 : ((w.alloc (.cells #[.slice an N.length cn, .slice am T.length cm] 25)).alloc (.cells #[.int .i64 id] 3)).cell? ⟨w.heap.size, 0, none⟩ = some (.slice an N.length cn) := by simp
  have g2 : ((w.alloc (.cells #[.slice an N.length cn, .slice am T.length cm] 25)).alloc (.cells #[.int .i64 id] 3)).cell? ⟨w.heap.size + 1, 0, none⟩ = some (.int .i64 id) := by simp
  have ci := fun W (hW : Below ((w.alloc (.cells #[.slice an N.length cn, .slice am T.length cm] 25)).alloc (.cells #[.int .i64 id] 3)).heap.size ((w.alloc (.cells #[.slice an N.length cn, .slice am T.length cm] 25)).alloc (.cells #[.int .i64 id] 3)) W) => index_any (ao := an) (cn := cn) (N := N) (w := W) (by
    rcases hn with h | ⟨b, off, h1, h2, h3⟩
    · exact .inl h
    · exact .inr ⟨b, off, h1, Nat.lt_of_lt_of_le h2 (on1 hB hW).size, h3.on h2 (on1 hB hW)⟩) (gErr_len hg).1 (w.heap.size + 1) id (by have := hW.size; simp at this; omega) ((hW.cell (by simp)).trans g2)
  have HG : Hid (∀ W, Below ((w.alloc (.cells #[.slice an N.length cn, .slice am T.length cm] 25)).alloc (.cells #[.int .i64 id] 3)).heap.size ((w.alloc (.cells #[.slice an N.length cn, .slice am T.length cm] 25)).alloc (.cells #[.int .i64 id] 3)) W → W.cell? ⟨w.heap.size, 0, none⟩ = some (.slice an N.length cn)) := fun W hW => (hW.cell (by simp; omega)).trans g0
  obtain ⟨k, n, hk, hx⟩ := idxN_at id N 0 hh
  rw [Nat.zero_add] at hx
  rw [hx] at ci ⊢
  clear g0 g2 hg hn hm hx hh hk
  have hk0 : ¬ ((k : Int) < 0) := by omega
  go_enter Try.func24, Try.ntmps24
  go_wp2_with (first | (go_at_call 9; refine cc.mono ?_; rintro e W2 ⟨rfl, hB2⟩; have k0 := HG.out W2 hB2) | (go_at_call 37; refine (ci _ hB2).mono ?_; rintro e W3 ⟨rfl, hB3⟩))
  go_ret2
  exact ⟨rfl, on1 (on1 hB hB2) hB3⟩

/-- What Node gives: any node, and the error. -/
def NoP (w : World) (N : List Nd) (T : List Te) (id : Int) (e : Ending) (w' : World) : Prop := ∃ i k a l c, e = .returned (.tuple #[.agg #[.int .i64 i, .string k, .slice a l c], errV (fE N T id)]) ∧ Below w.heap.size w w'

set_option maxHeartbeats 2000000 in
set_option maxRecDepth 100000 in
theorem node_any {vn vt : Value} {N : List Nd} {T : List Te} {w : World} (hN : IsN w vn N) (hT : IsT w vt T) (zN : SzN N) (zT : SzT T) (hg : gErr N T = 0) (h8 : ∀ n ∈ N, n.rc.length ≤ 8) (id : Int) :
    Calls Try.prog 23 #[.agg #[vn, vt], .int .i64 id] w (NoP w N T id) := by
  obtain ⟨W0, hW0⟩ : ∃ W0, W0 = (w.alloc (.cells #[vn, vt] 25)).alloc (.cells #[.int .i64 0, .string ⟨#[]⟩, .slice none 0 0] 29) := ⟨_, rfl⟩
  have hB0 : Below w.heap.size w W0 := by rw [hW0]; exact b_alloc (b_alloc (Below.refl _ _) _) _
  have hs0 : W0.heap.size = w.heap.size + 2 := by rw [hW0]; simp
  have n0 : W0.heap[w.heap.size]? = some (.cells #[vn, vt] 25 (0, 0)) := by rw [hW0]; exact (heap_alloc_old _ _ (by simp)).trans (heap_alloc_new w _)
  have n1 : W0.heap[w.heap.size + 1]? = some (.cells #[.int .i64 0, .string ⟨#[]⟩, .slice none 0 0] 29 (0, 0)) := by
    have := heap_alloc_new (w.alloc (.cells #[vn, vt] 25)) (.cells #[.int .i64 0, .string ⟨#[]⟩, .slice none 0 0] 29)
    rw [World.size_alloc] at this; rw [hW0]; exact this
  have hl := gErr_len hg
  have x0 : W0.cell? ⟨w.heap.size, 0, none⟩ = some vn := cell_at n0 rfl
  have x1 : W0.cell? ⟨w.heap.size, 1, none⟩ = some vt := cell_at n0 rfl
  have hN0 := hN.on hB0
  have hT0 := hT.on hB0
  cases hh : hasId N id with
  | false =>
    have cF := find_any hN0 hT0 zN zT (by unfold maxLen; omega) (by unfold maxLen; omega) id
    rw [fE_no hg hh] at cF
    have HE : Hid (fE N T id = 5) := fE_no hg hh
    have HI : Hid (Below w.heap.size w W0 ∧ ∀ W, Below W0.heap.size W0 W → W.heap[w.heap.size + 1]? = some (.cells #[.int .i64 0, .string ⟨#[]⟩, .slice none 0 0] 29 (0, 0))) := ⟨hB0, fun W hB => (hB.block _ (by omega)).trans n1⟩
    obtain ⟨an, cn, hvn, _⟩ := hN
    obtain ⟨am, cm, hvt, _⟩ := hT
    subst hvn hvt
    rw [show errV 5 = .iface 78 (.int .i64 5) from rfl] at cF
    clear n0 n1 hB0 hN0 hT0 hg hh
    go_enter Try.func23, Try.ntmps23
    go_upto_region 1 with fail
    rw [← hW0]
    clear hW0
    go_wp2_with (first | (go_at_call 24; refine cF.mono ?_; rintro e W1 ⟨x, rfl, hB1⟩; have q1 := HI.out.2 W1 hB1; have t0 : W1.cell? ⟨w.heap.size + 1, 0, none⟩ = some (.int .i64 0) := cell_at q1 rfl; have t1 : W1.cell? ⟨w.heap.size + 1, 1, none⟩ = some (.string ⟨#[]⟩) := cell_at q1 rfl; have t2 : W1.cell? ⟨w.heap.size + 1, 2, none⟩ = some (.slice none 0 0) := cell_at q1 rfl; have f0 : W1.frozen? ⟨w.heap.size + 1, 0, none⟩ = false := frz_at q1; have f1 : W1.frozen? ⟨w.heap.size + 1, 1, none⟩ = false := frz_at q1; have f2 : W1.frozen? ⟨w.heap.size + 1, 2, none⟩ = false := frz_at q1; have HQ := Lib.hid q1; clear q1))
    have u := heap_setCell_same _ _ 2 _ 29 (.slice none 0 0) (heap_setCell_same _ _ 1 _ 29 (.string ⟨#[]⟩) (heap_setCell_same W1 _ 0 _ 29 (.int .i64 0) HQ.out))
    have v0 : (((W1.setCell ⟨w.heap.size + 1, 0, none⟩ (.int .i64 0)).setCell ⟨w.heap.size + 1, 1, none⟩ (.string ⟨#[]⟩)).setCell ⟨w.heap.size + 1, 2, none⟩ (.slice none 0 0)).cell? ⟨w.heap.size + 1, 0, none⟩ = some (.int .i64 0) := cell_at u rfl
    have v1 : (((W1.setCell ⟨w.heap.size + 1, 0, none⟩ (.int .i64 0)).setCell ⟨w.heap.size + 1, 1, none⟩ (.string ⟨#[]⟩)).setCell ⟨w.heap.size + 1, 2, none⟩ (.slice none 0 0)).cell? ⟨w.heap.size + 1, 1, none⟩ = some (.string ⟨#[]⟩) := cell_at u rfl
    have v2 : (((W1.setCell ⟨w.heap.size + 1, 0, none⟩ (.int .i64 0)).setCell ⟨w.heap.size + 1, 1, none⟩ (.string ⟨#[]⟩)).setCell ⟨w.heap.size + 1, 2, none⟩ (.slice none 0 0)).cell? ⟨w.heap.size + 1, 2, none⟩ = some (.slice none 0 0) := cell_at u rfl
    refine bodyPost_ret (v := .tuple #[.agg #[.int .i64 0, .string ⟨#[]⟩, .slice none 0 0], .iface 78 (.int .i64 5)]) ?_ rfl ⟨_, _, _, _, _, by rw [HE.out]; rfl, below_set3 (on1K HI.out.1 hB1 (Nat.le_refl _)) (by omega) _ _ _ _ _ _⟩
    simp [results, Try.results23, go_sem, v0, v1, v2]
  | true =>
    have cF := find_ok hN0 hT0 zN zT hg id hh
    obtain ⟨k, n, hk, hx⟩ := idxN_at id N 0 hh
    rw [Nat.zero_add] at hx
    rw [hx] at cF
    have hkl := (List.getElem?_eq_some_iff.1 hk).1
    have HE : Hid (fE N T id = 0) := fE_ok hg hh
    have hn8 := h8 n (List.mem_of_getElem? hk)
    obtain ⟨an, cn, hvn, hcn, hNN⟩ := hN0
    obtain ⟨am, cm, hvt, _⟩ := hT
    subst hvn hvt
    rcases hNN with h0 | ⟨b, off, hab, hb, hLL⟩
    · rw [h0] at hkl; exact absurd hkl (by simp)
    subst hab
    obtain ⟨c0, c1, c2, cR⟩ := hLL k n hk
    have HI : Hid (Below w.heap.size w W0 ∧ ∀ W, Below W0.heap.size W0 W → W.heap[w.heap.size + 1]? = some (.cells #[.int .i64 0, .string ⟨#[]⟩, .slice none 0 0] 29 (0, 0)) ∧ W.cell? ⟨w.heap.size, 0, none⟩ = some (.slice (some ⟨b, off, none⟩) N.length cn) ∧ W.cell? ⟨b, off + k * 3, none⟩ = some (.int .i64 n.id) ∧ W.cell? ⟨b, off + k * 3 + 1, none⟩ = some (.string n.kd) ∧ W.cell? ⟨b, off + k * 3 + 2, none⟩ = some n.rv ∧ IsR W n.rv n.rc ∧ w.heap.size + 2 ≤ W.heap.size) := ⟨hB0, fun W hB => ⟨(hB.block _ (by omega)).trans n1, (hB.cell (by show w.heap.size < _; omega)).trans x0, (hB.cell hb).trans c0, (hB.cell hb).trans c1, (hB.cell hb).trans c2, cR.on hB, by have := hB.size; omega⟩⟩
    clear n0 n1 hB0 hT0 hg hh hN c0 c1 c2 hLL hk hx hcn
    go_enter Try.func23, Try.ntmps23
    go_upto_region 1 with fail
    rw [← hW0]
    clear hW0
    obtain ⟨av, lv, cv, hv⟩ := cR.sl
    obtain ⟨ni, kd, rv, rc⟩ := n
    simp only at hv HI hn8
    subst hv
    clear cR
    go_wp2_with (first | (go_at_call 24; refine cF.mono ?_; rintro e W1 ⟨rfl, hB1⟩; refine Hid.out ?_))
    refine Lib.hid ?_
    obtain ⟨q1, q2, q3, q4, q5, q6, q7⟩ := HI.out.2 W1 hB1
    have hX : Below W1.heap.size W1 (W1.alloc (.cells #[.int .i64 ni, .string kd, .slice av lv cv] 29)) := b_alloc (Below.refl _ _) _
    have hcl := fun ty => clone_rec (W1.alloc (.cells #[.int .i64 ni, .string kd, .slice av lv cv] 29)) w.heap.size (by simp; omega) (q6.on hX) (by omega) ty
    have p1 := (hX.block (w.heap.size + 1) (by omega)).trans q1
    have p2 := heap_alloc_new W1 (.cells #[.int .i64 ni, .string kd, .slice av lv cv] 29)
    have hbw : Below w.heap.size w (W1.alloc (.cells #[.int .i64 ni, .string kd, .slice av lv cv] 29)) := on1K (on1K HI.out.1 hB1 (Nat.le_refl _)) hX (Nat.le_refl _)
    have HP : Hid ((W1.alloc (.cells #[.int .i64 ni, .string kd, .slice av lv cv] 29)).heap[w.heap.size + 1]? = some (.cells #[.int .i64 0, .string ⟨#[]⟩, .slice none 0 0] 29 (0, 0)) ∧ (W1.alloc (.cells #[.int .i64 ni, .string kd, .slice av lv cv] 29)).heap[W1.heap.size]? = some (.cells #[.int .i64 ni, .string kd, .slice av lv cv] 29 (0, 0)) ∧ Below w.heap.size w (W1.alloc (.cells #[.int .i64 ni, .string kd, .slice av lv cv] 29)) ∧ w.heap.size + 2 ≤ W1.heap.size) := ⟨p1, p2, hbw, q7⟩
    clear q1 q6 q7 hX p1 p2 hbw hB1 HI cF x0 x1
    go_wp2_with (first | (at_builtin; refine wpList_append_E rfl _ _ 27 rfl _ _ rfl rfl (hcl _) ?_; rintro v2 W2 ⟨hown, hgrow⟩; refine Hid.out ?_))
    refine Lib.hid ?_
    obtain ⟨a3, c3, hu3⟩ := own_slice hown
    subst hu3
    obtain ⟨p1, p2, p3, p4⟩ := HP.out
    have k1 := (hgrow.block (w.heap.size + 1) (by simp; omega) (by simp)).trans p1
    have k2 := (hgrow.block W1.heap.size (by simp) (by simp)).trans p2
    have hb2 : Below w.heap.size w W2 := on1K p3 (grown_below hgrow) (Nat.le_refl _)
    have e0 : W2.cell? ⟨W1.heap.size, 0, none⟩ = some (.int .i64 ni) := cell_at k2 rfl
    have e1 : W2.cell? ⟨W1.heap.size, 1, none⟩ = some (.string kd) := cell_at k2 rfl
    have e2 : W2.cell? ⟨W1.heap.size, 2, none⟩ = some (.slice av lv cv) := cell_at k2 rfl
    have g2 : W2.frozen? ⟨W1.heap.size, 2, none⟩ = false := frz_at k2
    have t0 : W2.cell? ⟨w.heap.size + 1, 0, none⟩ = some (.int .i64 0) := cell_at k1 rfl
    have t1 : W2.cell? ⟨w.heap.size + 1, 1, none⟩ = some (.string ⟨#[]⟩) := cell_at k1 rfl
    have t2 : W2.cell? ⟨w.heap.size + 1, 2, none⟩ = some (.slice none 0 0) := cell_at k1 rfl
    have f0 : W2.frozen? ⟨w.heap.size + 1, 0, none⟩ = false := frz_at k1
    have f1 : W2.frozen? ⟨w.heap.size + 1, 1, none⟩ = false := frz_at k1
    have f2 : W2.frozen? ⟨w.heap.size + 1, 2, none⟩ = false := frz_at k1
    have hne : ¬ W1.heap.size = w.heap.size + 1 := by omega
    have hne' : ¬ w.heap.size + 1 = W1.heap.size := by omega
    have HF : Hid (Below w.heap.size w W2 ∧ W2.heap[w.heap.size + 1]? = some (.cells #[.int .i64 0, .string ⟨#[]⟩, .slice none 0 0] 29 (0, 0)) ∧ w.heap.size + 1 ≠ W1.heap.size ∧ w.heap.size ≤ W1.heap.size) := ⟨hb2, k1, hne', by omega⟩
    clear p1 p2 p3 p4 k1 k2 hb2 hown hgrow HP hcl
    go_wp2
    obtain ⟨z1, z2, z3, z4⟩ := HF.out
    have u := heap_setCell_same _ _ 2 _ 29 (.slice a3 rc.length c3) (heap_setCell_same _ _ 1 _ 29 (.string kd) (heap_setCell_same _ _ 0 _ 29 (.int .i64 ni) ((heap_setCell_other W2 ⟨W1.heap.size, 2, none⟩ (w.heap.size + 1) (.slice a3 rc.length c3) z3).trans z2)))
    have v0 : ((((W2.setCell ⟨W1.heap.size, 2, none⟩ (.slice a3 rc.length c3)).setCell ⟨w.heap.size + 1, 0, none⟩ (.int .i64 ni)).setCell ⟨w.heap.size + 1, 1, none⟩ (.string kd)).setCell ⟨w.heap.size + 1, 2, none⟩ (.slice a3 rc.length c3)).cell? ⟨w.heap.size + 1, 0, none⟩ = some (.int .i64 ni) := cell_at u rfl
    have v1 : ((((W2.setCell ⟨W1.heap.size, 2, none⟩ (.slice a3 rc.length c3)).setCell ⟨w.heap.size + 1, 0, none⟩ (.int .i64 ni)).setCell ⟨w.heap.size + 1, 1, none⟩ (.string kd)).setCell ⟨w.heap.size + 1, 2, none⟩ (.slice a3 rc.length c3)).cell? ⟨w.heap.size + 1, 1, none⟩ = some (.string kd) := cell_at u rfl
    have v2 : ((((W2.setCell ⟨W1.heap.size, 2, none⟩ (.slice a3 rc.length c3)).setCell ⟨w.heap.size + 1, 0, none⟩ (.int .i64 ni)).setCell ⟨w.heap.size + 1, 1, none⟩ (.string kd)).setCell ⟨w.heap.size + 1, 2, none⟩ (.slice a3 rc.length c3)).cell? ⟨w.heap.size + 1, 2, none⟩ = some (.slice a3 rc.length c3) := cell_at u rfl
    refine bodyPost_ret (v := .tuple #[.agg #[.int .i64 ni, .string kd, .slice a3 rc.length c3], .nilIface]) ?_ rfl ⟨_, _, _, _, _, by rw [HE.out]; rfl, below_set3 (z1.setCell z4 _) (by omega) _ _ _ _ _ _⟩
    simp [results, Try.results23, go_sem, v0, v1, v2]
end Go.Proofs.Ytelbmianojomgaa

/-
  The walk of many.
-/
namespace Go.Proofs.Ytelbmianojomgaa
open Go.RowKit
set_option linter.unusedVariables false
set_option linter.unusedSimpArgs false

theorem cell_oth {w : World} {b i j : Nat} {u : Value} (h : i ≠ j) : (w.setCell ⟨b, i, none⟩ u).cell? ⟨b, j, none⟩ = w.cell? ⟨b, j, none⟩ := World.cell?_setCell_other _ _ _ _ (by intro e; exact h (by injection e))
/-- What many gives. -/
def ManyP (w : World) (n m : Nat) (e : Ending) (w' : World) : Prop := ∃ an cn am cm, e = .returned (.agg #[.slice an n cn, .slice am m cm]) ∧ RowN w.heap.size w' (.slice an n cn) n ∧ IsT w' (.slice am m cm) (rowT m) ∧ Below w.heap.size w w'
set_option maxHeartbeats 2000000 in
set_option maxRecDepth 100000 in
theorem many_any (n m : Nat) (hn : n ≤ 80) (hm : m ≤ 140) (w : World) : Calls Try.prog 15 #[.int .i64 n, .int .i64 m] w (ManyP w n m) := by
  obtain ⟨i0, hi0, hz0, hz1, hz2⟩ := info_parts infoN
  obtain ⟨i1, ji0, jz0, jz1, jz2⟩ := info_parts infoT
  go_enter Try.func15, Try.ntmps15
  go_wp2
  go_loopw [6] (fun i wr => M1 w n i wr) (fun i _ => n + 1 - (intOf i).toNat)
  case atStart => exact ⟨[], .slice none 0 0, Nat.zero_le _, rfl, World.ownsRow_nil _ _ _ _, (by have := heap_alloc_new (w.alloc (.cells #[.slice none 0 0, .slice none 0 0] 25)) (.cells #[.slice none 0 0, .slice none 0 0] 25); rwa [World.size_alloc] at this), (Below.heap_alloc _ _ _ (by simp)).trans (heap_alloc_new w _), fun j n h => by simp at h, b_alloc (b_alloc (Below.refl _ _) _) _⟩
  case round =>
    obtain ⟨N, v, hk, rfl, hO, hG, hR, hRe, hB⟩ := hrel
    have g0 := cell_of (i := 0) hG rfl
    have f0 := frz_of (i := 0) hG
    have g1 := cell_of (i := 1) hG rfl
    have HH : Hid (Recs wr N ∧ Below w.heap.size w wr ∧ wr.heap[w.heap.size + 1]? = some (.cells #[v, .slice none 0 0] 25 (0, 0)) ∧ wr.heap[w.heap.size]? = some (.cells #[.slice none 0 0, .slice none 0 0] 25 (0, 0))) := ⟨hRe, hB, hG, hR⟩
    have hgl : w.heap.size + 1 < wr.heap.size := (Array.getElem?_eq_some_iff.1 hG).1
    have hgn : ¬ w.heap.size + 1 = wr.heap.size := by omega
    obtain ⟨k, hkk⟩ : ∃ k, N.length = k := ⟨_, rfl⟩
    rw [hkk] at hk hO ⊢
    by_cases hlt : k < n
    · have hle : ((k : Int) + 1 ≤ (n : Int)) := by omega
      have hO' : (wK wr k).ownsRow w.heap.size 29 3 v k (cellsN N) := own_drew (((hO.alloc _).alloc _).alloc _)
      have hcs : ∀ j u, (ndK k (wr.heap.size + 1)).cells[j]? = some u → (wK wr k).cell? ((⟨wr.heap.size + 1 + 1, 0, none⟩ : Addr).add j) = some u := by
        have := new_at ((wr.alloc (.cells #[.int .i64 1, .int .i64 ((k : Int) + 1), .string ⟨#[]⟩] 56)).alloc (.cells #[.string ⟨#[107]⟩, .int .i64 1, .int .i64 ((k : Int) + 1), .string ⟨#[]⟩] 59)) (ndK k (wr.heap.size + 1)).cells 29
        simp only [World.size_alloc] at this
        exact this
      have h1c : ∀ u ∈ (ndK k (wr.heap.size + 1)).cells, u.oneCell' = true := by simp [Nd.cells, Value.oneCell']
      have hbs : w.heap.size ≤ (wK wr k).heap.size := by simp [wK]; omega
      have HO : Hid ((wK wr k).ownsRow w.heap.size 29 3 v k (cellsN N) ∧ (∀ j u, (ndK k (wr.heap.size + 1)).cells[j]? = some u → (wK wr k).cell? ((⟨wr.heap.size + 1 + 1, 0, none⟩ : Addr).add j) = some u) ∧ (∀ u ∈ (ndK k (wr.heap.size + 1)).cells, u.oneCell' = true) ∧ w.heap.size ≤ (wK wr k).heap.size ∧ (k + 1 ≤ maxLen ∧ (k + 1) * 48 ≤ 140737488355328)) := ⟨hO', hcs, h1c, hbs, by unfold maxLen; omega, by omega⟩
      have HK : Hid (∀ w1, (wK wr k).grownBy w1 v.ownBlock → w1.cell? ⟨w.heap.size + 1, 0, none⟩ = some v ∧ w1.frozen? ⟨w.heap.size + 1, 0, none⟩ = false ∧ w1.cell? ⟨w.heap.size + 1, 1, none⟩ = some (.slice none 0 0)) := fun w1 hg1 => by
        have hne := row_apart hO hG (by decide)
        have hbk : w1.heap[w.heap.size + 1]? = some (.cells #[v, .slice none 0 0] 25 (0, 0)) := (hg1.block _ (Nat.lt_of_lt_of_le hgl (bK wr k).size) (fun h => hne h.symm)).trans (((bK wr k).block _ hgl).trans hG)
        exact ⟨cell_of hbk rfl, frz_of hbk, cell_of hbk rfl⟩
      have hx3 : (wK wr k).cell? ⟨w.heap.size + 1, 0, none⟩ = some v := (bK wr k).cell hgl |>.trans g0
      unfold wK at hx3
      have hy3 : (wK wr k).cell? ⟨w.heap.size + 1, 1, none⟩ = some (.slice none 0 0) := (bK wr k).cell hgl |>.trans g1
      unfold wK at hy3
      have hx2 : ((wr.alloc (.cells #[.int .i64 1, .int .i64 ((k : Int) + 1), .string ⟨#[]⟩] 56)).alloc (.cells #[.string ⟨#[107]⟩, .int .i64 1, .int .i64 ((k : Int) + 1), .string ⟨#[]⟩] 59)).drew.cell? ⟨w.heap.size + 1, 0, none⟩ = some v := ((b_drew (b_alloc (b_alloc (Below.refl wr.heap.size wr) _) _)).cell hgl).trans g0
      have hx1 : (wr.alloc (.cells #[.int .i64 1, .int .i64 ((k : Int) + 1), .string ⟨#[]⟩] 56)).drew.cell? ⟨w.heap.size + 1, 0, none⟩ = some v := ((b_drew (b_alloc (Below.refl wr.heap.size wr) _)).cell hgl).trans g0
      have HQ : Hid (N.length = k ∧ wr.ownsRow w.heap.size 29 3 v k (cellsN N)) := ⟨hkk, hO⟩
      have hwi : IntKind.i64.wrap ((k : Int) + 1 + 1) = (k : Int) + 1 + 1 := by rw [IntKind.wrap_i64]; omega
      clear hRe hB hG hR hkk hO hO' hcs h1c hbs
      go_wp2
      go_region_law (first | (go_simp; go_at_call 17; refine (number_any _ _).mono ?_; rintro e W1 ⟨rfl, rfl⟩) | (refine step_append_own rfl (.tmp 14) (.tmp 21) 22 rfl w.heap.size 29 i0 _ 3 48 Try.underlying22 hi0 hz0 hz1 hz2 rfl (by decide) v k (cellsN N) (by simp [Act.eval, Act.put]) HO.out.1 ⟨wr.heap.size + 1 + 1, 0, none⟩ 1 1 (ndK k (wr.heap.size + 1)).cells (by simp [Act.eval, Act.put]) rfl HO.out.2.1 HO.out.2.2.1 HO.out.2.2.2.2.1 HO.out.2.2.2.2.2 HO.out.2.2.2.1 ?_; intro v1 w1 hown1 hgrow1; obtain ⟨q0, q1, q2⟩ := HK.out w1 hgrow1; obtain ⟨a1, c1, rfl⟩ := own_slice hown1))
      all_goals
        have HR2 : Hid (M1 w n (.int .i64 ((k : Int) + 1 + 1)) (w1.setCell ⟨w.heap.size + 1, 0, none⟩ (.slice a1 (k + 1) c1))) := m1_step HQ.out.1 hlt HH.out.1 HH.out.2.1 HH.out.2.2.1 HH.out.2.2.2 HQ.out.2 hown1 hgrow1
        clear hown1 hgrow1
        go_wp2
        refine ⟨?_, ?_⟩
        · first | exact HR2.out | ((repeat apply Exists.intro); refine ⟨?_, rfl⟩; exact HR2.out)
        · simp [intOf]
          try omega
    · obtain rfl : k = n := by omega
      obtain ⟨an, cn, rfl⟩ := own_slice hO
      have HX : Hid (N.length = k ∧ wr.ownsRow w.heap.size 29 3 (.slice an k cn) k (cellsN N) ∧ Recs wr N ∧ wr.heap[w.heap.size]? = some (.cells #[.slice none 0 0, .slice none 0 0] 25 (0, 0))) := ⟨hkk, hO, hRe, hR⟩
      have HS : Hid (wr.heap[w.heap.size + 1]? = some (.cells #[.slice an k cn, .slice none 0 0] 25 (0, 0)) ∧ Below w.heap.size w wr) := ⟨hG, hB⟩
      clear hkk hO hRe hR hB hG HH g0 g1 f0
      obtain ⟨W, hW⟩ : ∃ W, W = wr := ⟨wr, rfl⟩
      subst hW
      go_wp2
      go_loopw [7] (fun i wr => M2 w W (.slice an k cn) m i wr) (fun i _ => m + 1 - (intOf i).toNat)
      case atStart => exact ⟨0, .slice none 0 0, Nat.zero_le _, rfl, World.ownsRow_nil _ _ _ _, HS.out.1, fun _ _ _ => rfl, Nat.le_refl _, HS.out.2⟩
      case round =>
        obtain ⟨j, v2, hj, rfl, hO, hG, hK, hs, hB⟩ := hrel
        obtain ⟨a2, c2, rfl⟩ := own_slice hO
        have g0 := cell_of (i := 0) hG rfl
        have g1 := cell_of (i := 1) hG rfl
        have f1 := frz_of (i := 1) hG
        have hgr : w.heap.size + 1 < wr.heap.size := (Array.getElem?_eq_some_iff.1 hG).1
        have hgn2 : ¬ w.heap.size + 1 = wr.heap.size := by omega
        have HH : Hid (wr.ownsRow W.heap.size 31 3 (.slice a2 j c2) j (cellsT (rowT j)) ∧ wr.heap[w.heap.size + 1]? = some (.cells #[.slice an k cn, .slice a2 j c2] 25 (0, 0)) ∧ (∀ b, b < W.heap.size → b ≠ w.heap.size + 1 → wr.heap[b]? = W.heap[b]?) ∧ W.heap.size ≤ wr.heap.size ∧ Below w.heap.size w wr) := ⟨hO, hG, hK, hs, hB⟩
        by_cases hlt2 : j < m
        · have hle2 : (j : Int) + 1 ≤ (m : Int) := by omega
          have hwj : IntKind.i64.wrap ((j : Int) + 1 + 1) = (j : Int) + 1 + 1 := by rw [IntKind.wrap_i64]; omega
          have HO : Hid ((wr.alloc (.cells #[.string ⟨#[112]⟩, .int .i64 ((j : Int) + 1), .int .i64 ((j : Int) + 1 + 1)] 31)).ownsRow W.heap.size 31 3 (.slice a2 j c2) j (cellsT (rowT j)) ∧ (j + 1 ≤ maxLen ∧ (j + 1) * 32 ≤ 140737488355328) ∧ W.heap.size ≤ (wr.alloc (.cells #[.string ⟨#[112]⟩, .int .i64 ((j : Int) + 1), .int .i64 ((j : Int) + 1 + 1)] 31)).heap.size) := ⟨hO.alloc _, ⟨by unfold maxLen; omega, by omega⟩, by simp; omega⟩
          have HK : Hid (∀ w1, (wr.alloc (.cells #[.string ⟨#[112]⟩, .int .i64 ((j : Int) + 1), .int .i64 ((j : Int) + 1 + 1)] 31)).grownBy w1 (Value.slice a2 j c2).ownBlock → w1.cell? ⟨w.heap.size + 1, 1, none⟩ = some (.slice a2 j c2) ∧ w1.frozen? ⟨w.heap.size + 1, 1, none⟩ = false) := fun w1 hg1 => by
            have hne := row_apart hO hG (by decide)
            have hbk : w1.heap[w.heap.size + 1]? = some (.cells #[.slice an k cn, .slice a2 j c2] 25 (0, 0)) := (hg1.block _ (by simp; omega) (fun h => hne h.symm)).trans ((Below.heap_alloc _ _ _ hgr).trans hG)
            exact ⟨cell_of hbk rfl, frz_of hbk⟩
          clear hO hG hK hs hB
          go_wp2_with (at_builtin; refine wpList_append_own _ rfl (.tmp 30) (.tmp 35) 23 rfl W.heap.size 31 i1 _ 3 32 Try.underlying23 ji0 jz0 jz1 jz2 rfl (by decide) (.slice a2 j c2) j (cellsT (rowT j)) rfl HO.out.1 ⟨wr.heap.size, 0, none⟩ 1 1 (tK j).cells rfl rfl (new_at wr (tK j).cells 31) (by simp [tK, Te.cells, Value.oneCell']) HO.out.2.1.1 HO.out.2.1.2 HO.out.2.2 ?_; intro v1 w1 hown1 hgrow1 _; obtain ⟨q0, q1⟩ := HK.out w1 hgrow1; obtain ⟨a1, c1, rfl⟩ := own_slice hown1)
          have HR2 : Hid (M2 w W (.slice an k cn) m (.int .i64 ((j : Int) + 1 + 1)) (w1.setCell ⟨w.heap.size + 1, 1, none⟩ (.slice a1 (j + 1) c1))) := m2_step hlt2 hgl HH.out.1 HH.out.2.1 HH.out.2.2.1 HH.out.2.2.2.1 HH.out.2.2.2.2 hown1 hgrow1
          refine ⟨?_, ?_⟩
          · first | exact HR2.out | ((repeat apply Exists.intro); refine ⟨?_, rfl⟩; exact HR2.out)
          · simp [intOf]
            try omega
        · obtain rfl : j = m := by omega
          have hR2 : wr.heap[w.heap.size]? = some (.cells #[.slice none 0 0, .slice none 0 0] 25 (0, 0)) := (hK _ (by omega) (by omega)).trans HX.out.2.2.2
          have r0 := cell_of (i := 0) hR2 rfl
          have r1 := cell_of (i := 1) hR2 rfl
          have fr0 := frz_of (i := 0) hR2
          have fr1 := frz_of (i := 1) hR2
          have hfin := many_end HX.out.1 HX.out.2.1 HX.out.2.2.1 HX.out.2.2.2 hgl HS.out.1 HH.out.1 HH.out.2.1 HH.out.2.2.1 HH.out.2.2.2.1 HH.out.2.2.2.2
          have HF : Hid (RowN w.heap.size ((wr.setCell ⟨w.heap.size, 0, none⟩ (.slice an k cn)).setCell ⟨w.heap.size, 1, none⟩ (.slice a2 j c2)) (.slice an k cn) k ∧ IsT ((wr.setCell ⟨w.heap.size, 0, none⟩ (.slice an k cn)).setCell ⟨w.heap.size, 1, none⟩ (.slice a2 j c2)) (.slice a2 j c2) (rowT j) ∧ Below w.heap.size w ((wr.setCell ⟨w.heap.size, 0, none⟩ (.slice an k cn)).setCell ⟨w.heap.size, 1, none⟩ (.slice a2 j c2))) := hfin
          clear hO hG hK hs hB hfin hR2
          have s1 : ((wr.setCell ⟨w.heap.size, 0, none⟩ (.slice an k cn)).setCell ⟨w.heap.size, 1, none⟩ (.slice a2 j c2)).cell? ⟨w.heap.size, 1, none⟩ = some (.slice a2 j c2) := World.cell?_setCell_same' _ _ _ (by rw [cell_oth (by simp), r1]; rfl)
          have s0 : ((wr.setCell ⟨w.heap.size, 0, none⟩ (.slice an k cn)).setCell ⟨w.heap.size, 1, none⟩ (.slice a2 j c2)).cell? ⟨w.heap.size, 0, none⟩ = some (.slice an k cn) := by
            refine (cell_oth (by simp)).trans ?_
            exact World.cell?_setCell_same' _ _ _ (by rw [r0]; rfl)
          have HS01 : Hid (((wr.setCell ⟨w.heap.size, 0, none⟩ (.slice an k cn)).setCell ⟨w.heap.size, 1, none⟩ (.slice a2 j c2)).cell? ⟨w.heap.size, 0, none⟩ = some (.slice an k cn) ∧ ((wr.setCell ⟨w.heap.size, 0, none⟩ (.slice an k cn)).setCell ⟨w.heap.size, 1, none⟩ (.slice a2 j c2)).cell? ⟨w.heap.size, 1, none⟩ = some (.slice a2 j c2)) := ⟨s0, s1⟩
          clear s0 s1
          go_wp2
          refine bodyPost_ret (v := .agg #[.slice an k cn, .slice a2 j c2]) ?_ rfl ⟨an, cn, a2, c2, rfl, HF.out⟩
          obtain ⟨s0, s1⟩ := HS01.out
          simp [results, Try.results15, go_sem, s0, s1]
end Go.Proofs.Ytelbmianojomgaa

/-
  DeltaEmpties in plain words: what is left of a graph whose nodes are gone, one by one; the graph of two nodes and one tie.
-/
namespace Go.Proofs.Ytelbmianojomgaa
open Go.RowKit
set_option linter.unusedVariables false
set_option linter.unusedSimpArgs false

/-- Gone of a node. -/
abbrev oG (id : Int) : Opx := ⟨2, ⟨id, ⟨#[]⟩, .slice none 0 0, []⟩, ⟨⟨#[]⟩, 0, 0, ⟨#[]⟩⟩, ⟨⟨#[]⟩, 0, 0⟩⟩
theorem oG_sz (id : Int) : OpSz (oG id) := by
  have h0 : (⟨#[]⟩ : ByteArray).size ≤ maxLen := by decide
  exact ⟨⟨h0, fun p hp => (by cases hp), by show 0 ≤ maxLen; decide⟩, ⟨h0, h0⟩, h0⟩
theorem isR_nil (w : World) : IsR w (.slice none 0 0) [] := ⟨none, 0, rfl, .inl rfl⟩
/-- Do of Gone. -/
theorem doG {vn vt : Value} {N : List Nd} {T : List Te} {w : World} (hN : IsN w vn N) (hT : IsT w vt T) (zN : SzN N) (zT : SzT T) (he : gErr N T = 0) (id : Int) (hf : fndN id N = true) :
    Calls Try.prog 19 #[.agg #[vn, vt], (oG id).one] w fun e w' => ∃ un ut M, e = .returned (.tuple #[.agg #[un, ut], .nilIface]) ∧ (cN M = (cN N).eraseIdx (loN id N) ∧ OwnNs w' w.heap.size un M ∧ OwnTs w' w.heap.size ut (T.filter (keepT id)) ∧ gErr M (T.filter (keepT id)) = 0) ∧ Below w.heap.size w w' :=
  (do_in goneS hN hT zN zT he (isR_nil w) (oG_sz id) (gone_ap rfl) (gone_keeps _)).mono fun e w' h => by
    have h0 : goneS.e (oG id) (cN N) T = 0 := by
      show goneE id (cN N) = 0
      unfold goneE; rw [fndN_c, hf]; rfl
    obtain ⟨hB, ⟨_, un, ut, M, rfl, hM, h1, h2, h3⟩ | ⟨h1, _⟩⟩ := h
    · refine ⟨un, ut, M, rfl, ⟨?_, h1, h2, h3⟩, hB⟩
      rw [hM]
      show (cN N).eraseIdx (loN id (cN N)) = _
      rw [loN_c]
    · exact absurd h0 h1

/-- The graph of two nodes and one tie. -/
def two : List Nd := [⟨1, ⟨#[97]⟩, .nilIface, [prK 1]⟩, ⟨2, ⟨#[97]⟩, .nilIface, [prK 2]⟩]
def oneT : List Te := [⟨⟨#[112]⟩, 1, 2⟩]
theorem two_of {N : List Nd} (hl : N.length = 2) (h : ∀ (j : Nat) (x : Nd), N[j]? = some x → x.id = (j : Int) + 1 ∧ x.kd = ⟨#[97]⟩ ∧ x.rc = [prK ((j : Int) + 1)]) : cN N = two := by
  match N, hl with
  | [a, b], _ =>
    obtain ⟨a1, a2, a3⟩ := h 0 a rfl
    obtain ⟨b1, b2, b3⟩ := h 1 b rfl
    obtain ⟨ai, ak, av, ar⟩ := a
    obtain ⟨bi, bk, bv, br⟩ := b
    simp only at a1 a2 a3 b1 b2 b3
    subst a1 a2 a3 b1 b2 b3
    rfl
theorem rowT_one : rowT 1 = oneT := by simp [rowT, List.range_succ, tK, oneT]
theorem two_err : gErr two oneT = 0 := by decide +kernel
theorem two_fnd : fndN 2 two = true := by decide +kernel
theorem two_lo : loN 2 two = 1 := by decide +kernel
theorem two_tie : oneT.filter (keepT 2) = [] := by decide +kernel
theorem two_szN {N : List Nd} (h : cN N = two) : SzN N := fun n hn => by
  have : n.c ∈ two := by rw [← h]; exact List.mem_map.2 ⟨n, hn, rfl⟩
  have hk : (⟨#[97]⟩ : ByteArray).size ≤ maxLen := by decide
  have hz : ∀ i, Sz [prK i] := fun i p hp => by
    simp at hp; subst hp
    exact ⟨by show (⟨#[107]⟩ : ByteArray).size ≤ maxLen; decide, by show (⟨#[]⟩ : ByteArray).size ≤ maxLen; decide⟩
  obtain ⟨i, kd, rv, rc⟩ := n
  simp [two, Nd.c] at this
  rcases this with ⟨_, rfl, rfl⟩ | ⟨_, rfl, rfl⟩ <;> exact ⟨hk, hz _, by show 1 ≤ maxLen; decide⟩
theorem one_szT : SzT oneT := fun t ht => by
  simp [oneT] at ht; subst ht
  show (⟨#[112]⟩ : ByteArray).size ≤ maxLen
  decide
/-- The fact that opens the law: of two nodes with a tie one is gone, and the tie with it. -/
theorem fact_two {N : List Nd} {vn vt : Value} {w : World} (hl : N.length = 2) (h : ∀ (j : Nat) (x : Nd), N[j]? = some x → x.id = (j : Int) + 1 ∧ x.kd = ⟨#[97]⟩ ∧ x.rc = [prK ((j : Int) + 1)]) (hN : IsN w vn N) (hT : IsT w vt (rowT 1)) :
    Calls Try.prog 19 #[.agg #[vn, vt], (oG 2).one] w fun e w' => ∃ a c b d, e = .returned (.tuple #[.agg #[.slice a 1 c, .slice b 0 d], .nilIface]) ∧ Below w.heap.size w w' := by
  have hc := two_of hl h
  rw [rowT_one] at hT
  have he : gErr N oneT = 0 := by rw [← gErr_c, hc]; exact two_err
  have hf : fndN 2 N = true := by rw [← fndN_c, hc]; exact two_fnd
  refine (doG hN hT (two_szN hc) one_szT he 2 hf).mono ?_
  rintro e w' ⟨un, ut, M, rfl, ⟨hM, h1, h2, _⟩, hB⟩
  rw [two_tie] at h2
  obtain ⟨a, c, rfl⟩ := own_slice h1.1
  obtain ⟨b, d, rfl⟩ := own_slice h2
  have : M.length = 1 := by
    have := congrArg List.length hM
    rw [cN_len, List.length_eraseIdx_of_lt (by rw [cN_len]; exact fndN_lt hf), cN_len, hl] at this
    exact this
  rw [this]
  exact ⟨a, c, b, d, rfl, hB⟩

/-- Ties of which no end is a node. -/
def looseT (N : List Nd) (t : Te) : Bool := !hasId N t.fr && !hasId N t.tt
theorem keep_all (N : List Nd) (T : List Te) : N.foldl (fun U n => U.filter (keepT n.id)) T = T.filter (looseT N) := by
  induction N generalizing T with
  | nil =>
    rw [List.foldl_nil]
    exact (List.filter_eq_self.2 (fun t _ => by simp [looseT, hasId])).symm
  | cons n r ih =>
    rw [List.foldl_cons, ih, List.filter_filter]
    congr 1
    funext t
    unfold looseT keepT Te.end hasId
    rw [List.any_cons, List.any_cons, Bool.beq_comm (a := n.id) (b := t.fr), Bool.beq_comm (a := n.id) (b := t.tt)]
    cases (t.fr == n.id) <;> cases (t.tt == n.id) <;> simp
/-- The first one is found at the front. -/
theorem first_fnd (n : Nd) (r : List Nd) : fndN n.id (n :: r) = true ∧ loN n.id (n :: r) = 0 := by
  have h : loN n.id (n :: r) = 0 := by simp [loN]
  refine ⟨?_, h⟩
  unfold fndN
  rw [h]
  simp
end Go.Proofs.Ytelbmianojomgaa

/-
  Where the loops of DeltaEmpties stand.
-/
namespace Go.Proofs.Ytelbmianojomgaa
open Go.RowKit
set_option linter.unusedVariables false
set_option linter.unusedSimpArgs false

theorem take_count {α : Type} (f : α → Bool) {T : List α} {i : Nat} {t : α} (h : T[i]? = some t) : ((T.take (i + 1)).filter f).length = ((T.take i).filter f).length + (if f t = true then 1 else 0) := by
  obtain ⟨hi, rfl⟩ := List.getElem?_eq_some_iff.1 h
  rw [List.take_succ_eq_append_getElem hi, List.filter_append, List.length_append]
  congr 1
  cases hf : f T[i] <;> simp [List.filter, hf]
/-- Where the second loop stands. -/
def EmI (W0 : World) (N : List Nd) (T : List Te) (q i : Nat) (wr : World) : Prop := ∃ vn vt M U, wr.heap[q]? = some (.cells #[vn, vt] 25 (0, 0)) ∧ (∀ W, wr.grownBy W (some q) → IsN W vn M ∧ IsT W vt U) ∧ cN M = (cN N).drop i ∧ U = (N.take i).foldl (fun U n => U.filter (keepT n.id)) T ∧ gErr M U = 0 ∧ SzN M ∧ SzT U ∧ Below W0.heap.size W0 wr
/-- What a round of it has made. -/
def EmC (W0 : World) (vn vt : Value) (K : List Nd) (U : List Te) (q : Nat) (s13 s14 : Value) (wx : World) : Prop := ∃ p2 un ut M, s13 = .pointer (some ⟨p2, 0, none⟩) ∧ s14 = .nilIface ∧ wx.heap[p2]? = some (.cells #[un, ut] 25 (0, 0)) ∧ OwnNs wx 0 un M ∧ OwnTs wx 0 ut U ∧ cN M = K ∧ gErr M U = 0 ∧ wx.heap[q]? = some (.cells #[vn, vt] 25 (0, 0)) ∧ Below W0.heap.size W0 wx
theorem szN_c {N M : List Nd} (h : SzN N) (hs : ∀ m ∈ cN M, m ∈ cN N) : SzN M := fun n hn => by
  obtain ⟨x, hx, e⟩ := List.mem_map.1 (hs n.c (List.mem_map.2 ⟨n, hn, rfl⟩))
  have := h x hx
  obtain ⟨i, kd, rv, rc⟩ := n
  obtain ⟨j, ke, rw', rd⟩ := x
  simp [Nd.c] at e
  obtain ⟨rfl, rfl, rfl⟩ := e
  exact this
theorem grown_two {W' : World} (q : Nat) (u v : Value) : W'.grownBy ((W'.setCell ⟨q, 0, none⟩ u).setCell ⟨q, 1, none⟩ v) (some q) :=
  ⟨rfl, rfl, rfl, by simp, fun k _ hk => (heap_setCell_other _ ⟨q, 1, none⟩ k v (fun e => hk (by simp [e]))).trans (heap_setCell_other _ ⟨q, 0, none⟩ k u (fun e => hk (by simp [e])))⟩
theorem em_step {W0 wc : World} {N : List Nd} {T U : List Te} {q i : Nat} {n : Nd} {M : List Nd} {vn vt un ut : Value} (hn : N[i]? = some n) (hU : U = (N.take i).foldl (fun U n => U.filter (keepT n.id)) T) (h1 : OwnNs wc 0 un M) (h2 : OwnTs wc 0 ut (U.filter (keepT n.id))) (h3 : cN M = (cN N).drop (i + 1)) (h4 : gErr M (U.filter (keepT n.id)) = 0) (h5 : wc.heap[q]? = some (.cells #[vn, vt] 25 (0, 0))) (h6 : Below W0.heap.size W0 wc) (hq : W0.heap.size ≤ q) (zN : SzN N) (zU : SzT U) :
    EmI W0 N T q (i + 1) ((wc.setCell ⟨q, 0, none⟩ un).setCell ⟨q, 1, none⟩ ut) := by
  have hq3 : ((wc.setCell ⟨q, 0, none⟩ un).setCell ⟨q, 1, none⟩ ut).heap[q]? = some (.cells #[un, ut] 25 (0, 0)) := heap_setCell_same _ _ 1 _ 25 _ (heap_setCell_same wc _ 0 _ 25 _ h5)
  refine ⟨un, ut, M, _, hq3, fun W hg => ?_, h3, ?_, h4, szN_c zN (fun m hm => ?_), fun t ht => zU t (List.mem_filter.1 ht).1, (h6.setCell hq _).setCell hq _⟩
  · have hw : wc.grownBy W (some q) := grown_trans (grown_two q un ut) hg
    exact ⟨(h1.kt (.of_grown h5 (by decide) hw) (.of_grown h5 (by decide) hw)).isN, (h2.kt (.of_grown h5 (by decide) hw)).isT⟩
  · rw [hU]
    have e : N.take (i + 1) = N.take i ++ [n] := by
      obtain ⟨h, rfl⟩ := List.getElem?_eq_some_iff.1 hn
      rw [List.take_succ_eq_append_getElem h]
    rw [e, List.foldl_append]
    rfl
  · rw [h3] at hm
    exact List.mem_of_mem_drop hm
theorem em_start {W0 wr : World} {N : List Nd} {T : List Te} {vn vt : Value} {w : World} (hN : IsN w vn N) (hT : IsT w vt T) (zN : SzN N) (zT : SzT T) (he : gErr N T = 0) (hw : Below w.heap.size w W0) (hB : Below W0.heap.size W0 wr) : EmI W0 N T wr.heap.size 0 (wr.alloc (.cells #[vn, vt] 25)) := by
  have hb : Below w.heap.size w (wr.alloc (.cells #[vn, vt] 25)) := on1K hw (b_alloc hB _) (Nat.le_refl _)
  refine ⟨vn, vt, N, T, heap_alloc_new wr _, fun W hg => ?_, rfl, rfl, he, zN, zT, b_alloc hB _⟩
  have : Below w.heap.size w W := below_grown hb hg hb.size (fun k hk => by injection hk with hk; subst hk; exact Nat.le_trans hw.size hB.size)
  exact ⟨hN.on this, hT.on this⟩
theorem emC_alloc {W0 W2 : World} {vn vt un ut : Value} {K M : List Nd} {U : List Te} {q B : Nat} (h1 : OwnNs W2 B un M) (h2 : OwnTs W2 B ut U) (h3 : cN M = K) (h4 : gErr M U = 0) (h5 : W2.heap[q]? = some (.cells #[vn, vt] 25 (0, 0))) (h6 : Below W0.heap.size W0 W2) :
    EmC W0 vn vt K U q (.pointer (some ⟨W2.heap.size, 0, none⟩)) .nilIface (W2.alloc (.cells #[un, ut] 25)) := by
  have hb : Below W2.heap.size W2 (W2.alloc (.cells #[un, ut] 25)) := b_alloc (Below.refl _ _) _
  refine ⟨W2.heap.size, un, ut, M, rfl, rfl, heap_alloc_new W2 _, ⟨own_base (own_kt h1.1 (.of_below hb)) (Nat.zero_le _), fun n hn => own_base ((h1.2 n hn).kt (.of_below hb)) (Nat.zero_le _)⟩, own_base (h2.kt (.of_below hb)) (Nat.zero_le _), h3, h4, (hb.block q (Array.getElem?_eq_some_iff.1 h5).1).trans h5, on1K h6 hb (Nat.le_refl _)⟩
theorem emC_set {W0 W2 : World} {vn vt un ut z1 z2 : Value} {K M : List Nd} {U : List Te} {q B p2 : Nat} (hp2 : W2.heap[p2]? = some (.cells #[z1, z2] 25 (0, 0))) (hpq : q ≠ p2) (hp0 : W0.heap.size ≤ p2) (h1 : OwnNs W2 B un M) (h2 : OwnTs W2 B ut U) (h3 : cN M = K) (h4 : gErr M U = 0) (h5 : W2.heap[q]? = some (.cells #[vn, vt] 25 (0, 0))) (h6 : Below W0.heap.size W0 W2) :
    EmC W0 vn vt K U q (.pointer (some ⟨p2, 0, none⟩)) .nilIface ((W2.setCell ⟨p2, 0, none⟩ un).setCell ⟨p2, 1, none⟩ ut) := by
  have ty : Ty W2 p2 25 := ⟨_, hp2⟩
  have k : ∀ t, 25 ≠ t → Kt t W2 ((W2.setCell ⟨p2, 0, none⟩ un).setCell ⟨p2, 1, none⟩ ut) := fun t ht => ((Kt.refl _ _).ty ty ht _ _).ty (ty.set _ _ _) ht _ _
  refine ⟨p2, un, ut, M, rfl, rfl, heap_setCell_same _ _ 1 _ 25 _ (heap_setCell_same W2 _ 0 _ 25 _ hp2), ⟨own_base (own_kt h1.1 (k 29 (by decide))) (Nat.zero_le _), fun n hn => own_base ((h1.2 n hn).kt (k 59 (by decide))) (Nat.zero_le _)⟩, own_base (h2.kt (k 31 (by decide))) (Nat.zero_le _), h3, h4, ?_, (h6.setCell hp0 _).setCell hp0 _⟩
  exact (heap_setCell_other _ ⟨p2, 1, none⟩ q ut hpq).trans ((heap_setCell_other _ ⟨p2, 0, none⟩ q un hpq).trans h5)
/-- A round's first node. -/
theorem em_first {M N : List Nd} {i : Nat} {n : Nd} (h : cN M = (cN N).drop i) (hn : N[i]? = some n) : fndN n.id M = true ∧ (cN M).eraseIdx (loN n.id M) = (cN N).drop (i + 1) := by
  have hd : (cN N).drop i = n.c :: (cN N).drop (i + 1) := by
    have : (cN N)[i]? = some n.c := by unfold cN; rw [List.getElem?_map, hn]; rfl
    obtain ⟨h, e⟩ := List.getElem?_eq_some_iff.1 this
    rw [← e]
    exact List.drop_eq_getElem_cons h
  rw [hd] at h
  obtain ⟨h1, h2⟩ := first_fnd n.c ((cN N).drop (i + 1))
  rw [← h, fndN_c] at h1
  rw [← h, loN_c] at h2
  refine ⟨h1, ?_⟩
  have e : loN n.id M = 0 := h2
  rw [e, h]
  rfl
end Go.Proofs.Ytelbmianojomgaa
