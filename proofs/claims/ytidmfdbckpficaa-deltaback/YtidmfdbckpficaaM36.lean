/-
  The walk of graph.Node.
-/
import Derived.Test.YtidmfdbckpficaaM35
import Derived.Test.YtidmfdbckpficaaM06
import Derived.Test.YtidmfdbckpficaaM04
namespace Go.Proofs.Ytidmfdbckpficaa
open Go.RowKit
set_option linter.unusedVariables false
set_option linter.unusedSimpArgs false

theorem idxN_at (id : Int) : ∀ (N : List Nd) (s : Nat), hasId N id = true → ∃ k n, N[k]? = some n ∧ idxN id N s = ((s + k : Nat) : Int)
  | [], s, h => by simp [hasId] at h
  | n :: r, s, h => by
    by_cases e : n.id = id
    · exact ⟨0, n, rfl, by simp [idxN, e]⟩
    · have h' : hasId r id = true := by
        unfold hasId at h ⊢
        rw [List.any_cons, Bool.or_eq_true] at h
        rcases h with h | h
        · exact absurd (by simpa using h) e
        · exact h
      obtain ⟨k, x, hk, hx⟩ := idxN_at id r (s + 1) h'
      refine ⟨k + 1, x, by simpa using hk, ?_⟩
      have : idxN id (n :: r) s = idxN id r (s + 1) := by simp [idxN, e]
      rw [this, hx]
      congr 1
      omega

set_option maxHeartbeats 1000000 in
set_option maxRecDepth 100000 in
theorem find_ok {vn vt : Value} {N : List Nd} {T : List Te} {w : World} (hN : IsN w vn N) (hT : IsT w vt T) (zN : SzN N) (zT : SzT T) (hg : gErr N T = 0) (id : Int) (hh : hasId N id = true) :
    Calls Try.prog 22 #[.agg #[vn, vt], .int .i64 id] w fun e w' => e = .returned (.tuple #[.int .i64 (idxN id N 0), .nilIface]) ∧ Below w.heap.size w w' := by
  have hN' := hN
  obtain ⟨an, cn, rfl, hcn, hn⟩ := hN
  have hT' := hT
  obtain ⟨am, cm, rfl, hcm, hm⟩ := hT
  have hB : Below w.heap.size w ((w.alloc (.cells #[.slice an N.length cn, .slice am T.length cm] 25)).alloc (.cells #[.int .i64 id] 3)) := b_alloc (b_alloc (Below.refl _ _) _) _
  have hl := gErr_len hg
  have cc := gcheck_any (hN'.on hB) (hT'.on hB) zN zT (by unfold maxLen; omega) (by unfold maxLen; omega)
  rw [hg, errV_0] at cc
  have g0 : ((w.alloc (.cells #[.slice an N.length cn, .slice am T.length cm] 25)).alloc (.cells #[.int .i64 id] 3)).cell? ⟨w.heap.size, 0, none⟩ = some (.slice an N.length cn) := by simp
  have g2 : ((w.alloc (.cells #[.slice an N.length cn, .slice am T.length cm] 25)).alloc (.cells #[.int .i64 id] 3)).cell? ⟨w.heap.size + 1, 0, none⟩ = some (.int .i64 id) := by simp
  have ci := fun W (hW : Below ((w.alloc (.cells #[.slice an N.length cn, .slice am T.length cm] 25)).alloc (.cells #[.int .i64 id] 3)).heap.size ((w.alloc (.cells #[.slice an N.length cn, .slice am T.length cm] 25)).alloc (.cells #[.int .i64 id] 3)) W) => index_any (ao := an) (cn := cn) (N := N) (w := W) (by
    rcases hn with h | ⟨b, off, h1, h2, h3⟩
    · exact .inl h
    · exact .inr ⟨b, off, h1, Nat.lt_of_lt_of_le h2 (on1 hB hW).size, h3.on h2 (on1 hB hW)⟩) (gErr_len hg).1 (w.heap.size + 1) id (by have := hW.size; simp at this; omega) ((hW.cell (by simp)).trans g2)
  have HG : Hid (∀ W, Below ((w.alloc (.cells #[.slice an N.length cn, .slice am T.length cm] 25)).alloc (.cells #[.int .i64 id] 3)).heap.size ((w.alloc (.cells #[.slice an N.length cn, .slice am T.length cm] 25)).alloc (.cells #[.int .i64 id] 3)) W → W.cell? ⟨w.heap.size, 0, none⟩ = some (.slice an N.length cn)) := fun W hW => (hW.cell (by simp; omega)).trans g0
  obtain ⟨k, n, hk, hx⟩ := idxN_at id N 0 hh
  rw [Nat.zero_add] at hx
  rw [hx] at ci ⊢
  clear g0 g2 hg hn hm hx hh hk
  have hk0 : ¬ ((k : Int) < 0) := by omega
  go_enter Try.func22, Try.ntmps22
  go_wp2_with (first | (go_at_call 11; refine cc.mono ?_; rintro e W2 ⟨rfl, hB2⟩; have k0 := HG.out W2 hB2) | (go_at_call 51; refine (ci _ hB2).mono ?_; rintro e W3 ⟨rfl, hB3⟩))
  go_ret2
  exact ⟨rfl, on1 (on1 hB hB2) hB3⟩

/-- What Node gives: the node, its record its own, and the error. -/
def NoP (w : World) (N : List Nd) (T : List Te) (id : Int) (e : Ending) (w' : World) : Prop := ∃ i k a l c, e = .returned (.tuple #[.agg #[.int .i64 i, .string k, .slice a l c], errV (fE N T id)]) ∧ (hasId N id = true → ∃ (j : Nat) (n : Nd), N[j]? = some n ∧ idxN id N 0 = (j : Int) ∧ i = n.id ∧ k = n.kd ∧ OwnRc w' w.heap.size (.slice a l c) n.rc) ∧ Below w.heap.size w w'
set_option maxHeartbeats 2000000 in
set_option maxRecDepth 100000 in
theorem node_any {vn vt : Value} {N : List Nd} {T : List Te} {w : World} (hN : IsN w vn N) (hT : IsT w vt T) (zN : SzN N) (zT : SzT T) (hg : gErr N T = 0) (h8 : ∀ n ∈ N, n.rc.length ≤ 8) (id : Int) :
    Calls Try.prog 12 #[.agg #[vn, vt], .int .i64 id] w (NoP w N T id) := by
  obtain ⟨W0, hW0⟩ : ∃ W0, W0 = (w.alloc (.cells #[vn, vt] 25)).alloc (.cells #[.int .i64 0, .string ⟨#[]⟩, .slice none 0 0] 30) := ⟨_, rfl⟩
  have hB0 : Below w.heap.size w W0 := by rw [hW0]; exact b_alloc (b_alloc (Below.refl _ _) _) _
  have hs0 : W0.heap.size = w.heap.size + 2 := by rw [hW0]; simp
  have n0 : W0.heap[w.heap.size]? = some (.cells #[vn, vt] 25 (0, 0)) := by rw [hW0]; exact (heap_alloc_old _ _ (by simp)).trans (heap_alloc_new w _)
  have n1 : W0.heap[w.heap.size + 1]? = some (.cells #[.int .i64 0, .string ⟨#[]⟩, .slice none 0 0] 30 (0, 0)) := by
    have := heap_alloc_new (w.alloc (.cells #[vn, vt] 25)) (.cells #[.int .i64 0, .string ⟨#[]⟩, .slice none 0 0] 30)
    rw [World.size_alloc] at this; rw [hW0]; exact this
  have hl := gErr_len hg
  have x0 : W0.cell? ⟨w.heap.size, 0, none⟩ = some vn := cell_at n0 rfl
  have x1 : W0.cell? ⟨w.heap.size, 1, none⟩ = some vt := cell_at n0 rfl
  have hN0 := hN.on hB0
  have hT0 := hT.on hB0
  cases hh : hasId N id with
  | false =>
    have cF := find_any hN0 hT0 zN zT (by unfold maxLen; omega) (by unfold maxLen; omega) id
    rw [fE_no hg hh] at cF
    have HE : Hid (fE N T id = 5) := fE_no hg hh
    have HHh := Lib.hid hh
    have HI : Hid (Below w.heap.size w W0 ∧ ∀ W, Below W0.heap.size W0 W → W.heap[w.heap.size + 1]? = some (.cells #[.int .i64 0, .string ⟨#[]⟩, .slice none 0 0] 30 (0, 0))) := ⟨hB0, fun W hB => (hB.block _ (by omega)).trans n1⟩
    obtain ⟨an, cn, hvn, _⟩ := hN
    obtain ⟨am, cm, hvt, _⟩ := hT
    subst hvn hvt
    rw [show errV 5 = .iface 60 (.int .i64 5) from rfl] at cF
    clear n0 n1 hB0 hN0 hT0 hg hh
    go_enter Try.func12, Try.ntmps12
    go_upto_region 1 with fail
    rw [← hW0]
    clear hW0
    go_wp2_with (first | (go_at_call 22; refine cF.mono ?_; rintro e W1 ⟨x, rfl, hB1⟩; have q1 := HI.out.2 W1 hB1; have t0 : W1.cell? ⟨w.heap.size + 1, 0, none⟩ = some (.int .i64 0) := cell_at q1 rfl; have t1 : W1.cell? ⟨w.heap.size + 1, 1, none⟩ = some (.string ⟨#[]⟩) := cell_at q1 rfl; have t2 : W1.cell? ⟨w.heap.size + 1, 2, none⟩ = some (.slice none 0 0) := cell_at q1 rfl; have f0 : W1.frozen? ⟨w.heap.size + 1, 0, none⟩ = false := frz_at q1; have f1 : W1.frozen? ⟨w.heap.size + 1, 1, none⟩ = false := frz_at q1; have f2 : W1.frozen? ⟨w.heap.size + 1, 2, none⟩ = false := frz_at q1; have HQ := Lib.hid q1; clear q1))
    have u := heap_setCell_same _ _ 2 _ 30 (.slice none 0 0) (heap_setCell_same _ _ 1 _ 30 (.string ⟨#[]⟩) (heap_setCell_same W1 _ 0 _ 30 (.int .i64 0) HQ.out))
    have v0 : (((W1.setCell ⟨w.heap.size + 1, 0, none⟩ (.int .i64 0)).setCell ⟨w.heap.size + 1, 1, none⟩ (.string ⟨#[]⟩)).setCell ⟨w.heap.size + 1, 2, none⟩ (.slice none 0 0)).cell? ⟨w.heap.size + 1, 0, none⟩ = some (.int .i64 0) := cell_at u rfl
    have v1 : (((W1.setCell ⟨w.heap.size + 1, 0, none⟩ (.int .i64 0)).setCell ⟨w.heap.size + 1, 1, none⟩ (.string ⟨#[]⟩)).setCell ⟨w.heap.size + 1, 2, none⟩ (.slice none 0 0)).cell? ⟨w.heap.size + 1, 1, none⟩ = some (.string ⟨#[]⟩) := cell_at u rfl
    have v2 : (((W1.setCell ⟨w.heap.size + 1, 0, none⟩ (.int .i64 0)).setCell ⟨w.heap.size + 1, 1, none⟩ (.string ⟨#[]⟩)).setCell ⟨w.heap.size + 1, 2, none⟩ (.slice none 0 0)).cell? ⟨w.heap.size + 1, 2, none⟩ = some (.slice none 0 0) := cell_at u rfl
    refine bodyPost_ret (v := .tuple #[.agg #[.int .i64 0, .string ⟨#[]⟩, .slice none 0 0], .iface 60 (.int .i64 5)]) ?_ rfl ⟨_, _, _, _, _, by rw [HE.out]; rfl, fun h => absurd h (by rw [HHh.out]; decide), below_set3 (on1K HI.out.1 hB1 (Nat.le_refl _)) (by omega) _ _ _ _ _ _⟩
    simp [results, Try.results12, go_sem, v0, v1, v2]
  | true =>
    have cF := find_ok hN0 hT0 zN zT hg id hh
    obtain ⟨k, n, hk, hx⟩ := idxN_at id N 0 hh
    rw [Nat.zero_add] at hx
    rw [hx] at cF
    have hkl := (List.getElem?_eq_some_iff.1 hk).1
    have HE : Hid (fE N T id = 0) := fE_ok hg hh
    have hn8 := h8 n (List.mem_of_getElem? hk)
    obtain ⟨an, cn, hvn, hcn, hNN⟩ := hN0
    obtain ⟨am, cm, hvt, _⟩ := hT
    subst hvn hvt
    rcases hNN with h0 | ⟨b, off, hab, hb, hLL⟩
    · rw [h0] at hkl; exact absurd hkl (by simp)
    subst hab
    obtain ⟨c0, c1, c2, cR⟩ := hLL k n hk
    have HI : Hid (Below w.heap.size w W0 ∧ ∀ W, Below W0.heap.size W0 W → W.heap[w.heap.size + 1]? = some (.cells #[.int .i64 0, .string ⟨#[]⟩, .slice none 0 0] 30 (0, 0)) ∧ W.cell? ⟨w.heap.size, 0, none⟩ = some (.slice (some ⟨b, off, none⟩) N.length cn) ∧ W.cell? ⟨b, off + k * 3, none⟩ = some (.int .i64 n.id) ∧ W.cell? ⟨b, off + k * 3 + 1, none⟩ = some (.string n.kd) ∧ W.cell? ⟨b, off + k * 3 + 2, none⟩ = some n.rv ∧ IsR W n.rv n.rc ∧ w.heap.size + 2 ≤ W.heap.size) := ⟨hB0, fun W hB => ⟨(hB.block _ (by omega)).trans n1, (hB.cell (by show w.heap.size < W0.heap.size; omega)).trans x0, (hB.cell hb).trans c0, (hB.cell hb).trans c1, (hB.cell hb).trans c2, cR.on hB, by have := hB.size; omega⟩⟩
    have HK : Hid (N[k]? = some n ∧ idxN id N 0 = (k : Int)) := ⟨hk, hx⟩
    clear n0 n1 hB0 hT0 hg hh hN c0 c1 c2 hLL hk hx hcn
    go_enter Try.func12, Try.ntmps12
    go_upto_region 1 with fail
    rw [← hW0]
    clear hW0
    obtain ⟨av, lv, cv, hv⟩ := cR.sl
    obtain ⟨ni, kd, rv, rc⟩ := n
    simp only at hv HI hn8
    subst hv
    clear cR
    go_wp2_with (first | (go_at_call 22; refine cF.mono ?_; rintro e W1 ⟨rfl, hB1⟩; refine Hid.out ?_))
    refine Lib.hid ?_
    obtain ⟨q1, q2, q3, q4, q5, q6, q7⟩ := HI.out.2 W1 hB1
    have cc := copiedNode_any ⟨ni, kd, .slice av lv cv, rc⟩ W1 q6 (by show rc.length ≤ 1000; omega)
    have HP : Hid (W1.heap[w.heap.size + 1]? = some (.cells #[.int .i64 0, .string ⟨#[]⟩, .slice none 0 0] 30 (0, 0)) ∧ Below w.heap.size w W1 ∧ w.heap.size + 2 ≤ W1.heap.size) := ⟨q1, on1K HI.out.1 hB1 (Nat.le_refl _), q7⟩
    have hki : (k : Int) < (N.length : Int) := by omega
    clear q1 q6 q7 hB1 HI cF x0 x1
    go_wp2_with (first | (go_at_call 23; refine cc.mono ?_; rintro e W2 ⟨v2, rfl, hR2, hB2⟩; obtain ⟨a3, l3, c3, rfl⟩ := OwnRc.sl hR2; have k1 := (hB2.block (w.heap.size + 1) (by have := HP.out.2.2; omega)).trans HP.out.1; have t0 : W2.cell? ⟨w.heap.size + 1, 0, none⟩ = some (.int .i64 0) := cell_at k1 rfl; have t1 : W2.cell? ⟨w.heap.size + 1, 1, none⟩ = some (.string ⟨#[]⟩) := cell_at k1 rfl; have t2 : W2.cell? ⟨w.heap.size + 1, 2, none⟩ = some (.slice none 0 0) := cell_at k1 rfl; have f0 : W2.frozen? ⟨w.heap.size + 1, 0, none⟩ = false := frz_at k1; have f1 : W2.frozen? ⟨w.heap.size + 1, 1, none⟩ = false := frz_at k1; have f2 : W2.frozen? ⟨w.heap.size + 1, 2, none⟩ = false := frz_at k1; have HF : Hid (Below w.heap.size w W2 ∧ W2.heap[w.heap.size + 1]? = some (.cells #[.int .i64 0, .string ⟨#[]⟩, .slice none 0 0] 30 (0, 0)) ∧ OwnRc W2 w.heap.size (.slice a3 l3 c3) rc) := ⟨on1K HP.out.2.1 hB2 (Nat.le_refl _), k1, own_base hR2 (by have := HP.out.2.2; omega)⟩; clear k1 hR2 hB2))
    obtain ⟨z1, z2, z3⟩ := HF.out
    have u := heap_setCell_same _ _ 2 _ 30 (.slice a3 l3 c3) (heap_setCell_same _ _ 1 _ 30 (.string kd) (heap_setCell_same W2 _ 0 _ 30 (.int .i64 ni) z2))
    have v0 : (((W2.setCell ⟨w.heap.size + 1, 0, none⟩ (.int .i64 ni)).setCell ⟨w.heap.size + 1, 1, none⟩ (.string kd)).setCell ⟨w.heap.size + 1, 2, none⟩ (.slice a3 l3 c3)).cell? ⟨w.heap.size + 1, 0, none⟩ = some (.int .i64 ni) := cell_at u rfl
    have v1 : (((W2.setCell ⟨w.heap.size + 1, 0, none⟩ (.int .i64 ni)).setCell ⟨w.heap.size + 1, 1, none⟩ (.string kd)).setCell ⟨w.heap.size + 1, 2, none⟩ (.slice a3 l3 c3)).cell? ⟨w.heap.size + 1, 1, none⟩ = some (.string kd) := cell_at u rfl
    have v2 : (((W2.setCell ⟨w.heap.size + 1, 0, none⟩ (.int .i64 ni)).setCell ⟨w.heap.size + 1, 1, none⟩ (.string kd)).setCell ⟨w.heap.size + 1, 2, none⟩ (.slice a3 l3 c3)).cell? ⟨w.heap.size + 1, 2, none⟩ = some (.slice a3 l3 c3) := cell_at u rfl
    have ty : Ty W2 (w.heap.size + 1) 30 := ⟨_, z2⟩
    refine bodyPost_ret (v := .tuple #[.agg #[.int .i64 ni, .string kd, .slice a3 l3 c3], .nilIface]) ?_ rfl ⟨_, _, _, _, _, by rw [HE.out]; rfl, fun _ => ⟨k, ⟨ni, kd, .slice av lv cv, rc⟩, HK.out.1, HK.out.2, rfl, rfl, OwnRc.kt z3 ((Kt.refl _ _).ty3 ty (by decide) _ _ _ _ _ _)⟩, below_set3 z1 (by omega) _ _ _ _ _ _⟩
    simp [results, Try.results12, go_sem, v0, v1, v2]
end Go.Proofs.Ytidmfdbckpficaa

/-
  The walk of many.
-/
namespace Go.Proofs.Ytidmfdbckpficaa
open Go.RowKit
set_option linter.unusedVariables false
set_option linter.unusedSimpArgs false

theorem cell_oth {w : World} {b i j : Nat} {u : Value} (h : i ≠ j) : (w.setCell ⟨b, i, none⟩ u).cell? ⟨b, j, none⟩ = w.cell? ⟨b, j, none⟩ := World.cell?_setCell_other _ _ _ _ (by intro e; exact h (by injection e))
/-- What many gives. -/
def ManyP (w : World) (n m : Nat) (e : Ending) (w' : World) : Prop := ∃ an cn am cm, e = .returned (.agg #[.slice an n cn, .slice am m cm]) ∧ RowN w.heap.size w' (.slice an n cn) n ∧ IsT w' (.slice am m cm) (rowT m) ∧ Below w.heap.size w w'
set_option maxHeartbeats 2000000 in
set_option maxRecDepth 100000 in
theorem many_any (n m : Nat) (hn : n ≤ 80) (hm : m ≤ 140) (w : World) : Calls Try.prog 10 #[.int .i64 n, .int .i64 m] w (ManyP w n m) := by
  obtain ⟨i0, hi0, hz0, hz1, hz2⟩ := info_parts infoN
  obtain ⟨i1, ji0, jz0, jz1, jz2⟩ := info_parts infoT
  go_enter Try.func10, Try.ntmps10
  go_wp2
  go_loopw [6] (fun i wr => M1 w n i wr) (fun i _ => n + 1 - (intOf i).toNat)
  case atStart => exact ⟨[], .slice none 0 0, Nat.zero_le _, rfl, World.ownsRow_nil _ _ _ _, (by have := heap_alloc_new (w.alloc (.cells #[.slice none 0 0, .slice none 0 0] 25)) (.cells #[.slice none 0 0, .slice none 0 0] 25); rwa [World.size_alloc] at this), (Below.heap_alloc _ _ _ (by simp)).trans (heap_alloc_new w _), fun j n h => by simp at h, b_alloc (b_alloc (Below.refl _ _) _) _⟩
  case round =>
    obtain ⟨N, v, hk, rfl, hO, hG, hR, hRe, hB⟩ := hrel
    have g0 := cell_of (i := 0) hG rfl
    have f0 := frz_of (i := 0) hG
    have g1 := cell_of (i := 1) hG rfl
    have HH : Hid (Recs wr N ∧ Below w.heap.size w wr ∧ wr.heap[w.heap.size + 1]? = some (.cells #[v, .slice none 0 0] 25 (0, 0)) ∧ wr.heap[w.heap.size]? = some (.cells #[.slice none 0 0, .slice none 0 0] 25 (0, 0))) := ⟨hRe, hB, hG, hR⟩
    have hgl : w.heap.size + 1 < wr.heap.size := (Array.getElem?_eq_some_iff.1 hG).1
    have hgn : ¬ w.heap.size + 1 = wr.heap.size := by omega
    obtain ⟨k, hkk⟩ : ∃ k, N.length = k := ⟨_, rfl⟩
    rw [hkk] at hk hO ⊢
    by_cases hlt : k < n
    · have hle : ((k : Int) + 1 ≤ (n : Int)) := by omega
      have hO' : (wK wr k).ownsRow w.heap.size 30 3 v k (cellsN N) := own_drew (((hO.alloc _).alloc _).alloc _)
      have hcs : ∀ j u, (ndK k (wr.heap.size + 1)).cells[j]? = some u → (wK wr k).cell? ((⟨wr.heap.size + 1 + 1, 0, none⟩ : Addr).add j) = some u := by
        have := new_at ((wr.alloc (.cells #[.int .i64 1, .int .i64 ((k : Int) + 1), .string ⟨#[]⟩] 36)).alloc (.cells #[.string ⟨#[107]⟩, .int .i64 1, .int .i64 ((k : Int) + 1), .string ⟨#[]⟩] 38)) (ndK k (wr.heap.size + 1)).cells 30
        simp only [World.size_alloc] at this
        exact this
      have h1c : ∀ u ∈ (ndK k (wr.heap.size + 1)).cells, u.oneCell' = true := by simp [Nd.cells, Value.oneCell']
      have hbs : w.heap.size ≤ (wK wr k).heap.size := by simp [wK]; omega
      have HO : Hid ((wK wr k).ownsRow w.heap.size 30 3 v k (cellsN N) ∧ (∀ j u, (ndK k (wr.heap.size + 1)).cells[j]? = some u → (wK wr k).cell? ((⟨wr.heap.size + 1 + 1, 0, none⟩ : Addr).add j) = some u) ∧ (∀ u ∈ (ndK k (wr.heap.size + 1)).cells, u.oneCell' = true) ∧ w.heap.size ≤ (wK wr k).heap.size ∧ (k + 1 ≤ maxLen ∧ (k + 1) * 48 ≤ 140737488355328)) := ⟨hO', hcs, h1c, hbs, by unfold maxLen; omega, by omega⟩
      have HK : Hid (∀ w1, (wK wr k).grownBy w1 v.ownBlock → w1.cell? ⟨w.heap.size + 1, 0, none⟩ = some v ∧ w1.frozen? ⟨w.heap.size + 1, 0, none⟩ = false ∧ w1.cell? ⟨w.heap.size + 1, 1, none⟩ = some (.slice none 0 0)) := fun w1 hg1 => by
        have hne := row_apart hO hG (by decide)
        have hbk : w1.heap[w.heap.size + 1]? = some (.cells #[v, .slice none 0 0] 25 (0, 0)) := (hg1.block _ (Nat.lt_of_lt_of_le hgl (bK wr k).size) (fun h => hne h.symm)).trans (((bK wr k).block _ hgl).trans hG)
        exact ⟨cell_of hbk rfl, frz_of hbk, cell_of hbk rfl⟩
      have hx3 : (wK wr k).cell? ⟨w.heap.size + 1, 0, none⟩ = some v := (bK wr k).cell hgl |>.trans g0
      unfold wK at hx3
      have hy3 : (wK wr k).cell? ⟨w.heap.size + 1, 1, none⟩ = some (.slice none 0 0) := (bK wr k).cell hgl |>.trans g1
      unfold wK at hy3
      have hx2 : ((wr.alloc (.cells #[.int .i64 1, .int .i64 ((k : Int) + 1), .string ⟨#[]⟩] 36)).alloc (.cells #[.string ⟨#[107]⟩, .int .i64 1, .int .i64 ((k : Int) + 1), .string ⟨#[]⟩] 38)).drew.cell? ⟨w.heap.size + 1, 0, none⟩ = some v := ((b_drew (b_alloc (b_alloc (Below.refl wr.heap.size wr) _) _)).cell hgl).trans g0
      have hx1 : (wr.alloc (.cells #[.int .i64 1, .int .i64 ((k : Int) + 1), .string ⟨#[]⟩] 36)).drew.cell? ⟨w.heap.size + 1, 0, none⟩ = some v := ((b_drew (b_alloc (Below.refl wr.heap.size wr) _)).cell hgl).trans g0
      have HQ : Hid (N.length = k ∧ wr.ownsRow w.heap.size 30 3 v k (cellsN N)) := ⟨hkk, hO⟩
      have hwi : IntKind.i64.wrap ((k : Int) + 1 + 1) = (k : Int) + 1 + 1 := by rw [IntKind.wrap_i64]; omega
      clear hRe hB hG hR hkk hO hO' hcs h1c hbs
      go_wp2
      go_region_law (first | (go_simp; go_at_call 19; refine (number_any _ _).mono ?_; rintro e W1 ⟨rfl, rfl⟩) | (refine step_append_own rfl (.tmp 14) (.tmp 21) 22 rfl w.heap.size 30 i0 _ 3 48 Try.underlying22 hi0 hz0 hz1 hz2 rfl (by decide) v k (cellsN N) (by simp [Act.eval, Act.put]) HO.out.1 ⟨wr.heap.size + 1 + 1, 0, none⟩ 1 1 (ndK k (wr.heap.size + 1)).cells (by simp [Act.eval, Act.put]) rfl HO.out.2.1 HO.out.2.2.1 HO.out.2.2.2.2.1 HO.out.2.2.2.2.2 HO.out.2.2.2.1 ?_; intro v1 w1 hown1 hgrow1; obtain ⟨q0, q1, q2⟩ := HK.out w1 hgrow1; obtain ⟨a1, c1, rfl⟩ := own_slice hown1))
      all_goals
        have HR2 : Hid (M1 w n (.int .i64 ((k : Int) + 1 + 1)) (w1.setCell ⟨w.heap.size + 1, 0, none⟩ (.slice a1 (k + 1) c1))) := m1_step HQ.out.1 hlt HH.out.1 HH.out.2.1 HH.out.2.2.1 HH.out.2.2.2 HQ.out.2 hown1 hgrow1
        clear hown1 hgrow1
        go_wp2
        refine ⟨?_, ?_⟩
        · first | exact HR2.out | ((repeat apply Exists.intro); refine ⟨?_, rfl⟩; exact HR2.out)
        · simp [intOf]
          try omega
    · obtain rfl : k = n := by omega
      obtain ⟨an, cn, rfl⟩ := own_slice hO
      have HX : Hid (N.length = k ∧ wr.ownsRow w.heap.size 30 3 (.slice an k cn) k (cellsN N) ∧ Recs wr N ∧ wr.heap[w.heap.size]? = some (.cells #[.slice none 0 0, .slice none 0 0] 25 (0, 0))) := ⟨hkk, hO, hRe, hR⟩
      have HS : Hid (wr.heap[w.heap.size + 1]? = some (.cells #[.slice an k cn, .slice none 0 0] 25 (0, 0)) ∧ Below w.heap.size w wr) := ⟨hG, hB⟩
      clear hkk hO hRe hR hB hG HH g0 g1 f0
      obtain ⟨W, hW⟩ : ∃ W, W = wr := ⟨wr, rfl⟩
      subst hW
      go_wp2
      go_loopw [7] (fun i wr => M2 w W (.slice an k cn) m i wr) (fun i _ => m + 1 - (intOf i).toNat)
      case atStart => exact ⟨0, .slice none 0 0, Nat.zero_le _, rfl, World.ownsRow_nil _ _ _ _, HS.out.1, fun _ _ _ => rfl, Nat.le_refl _, HS.out.2⟩
      case round =>
        obtain ⟨j, v2, hj, rfl, hO, hG, hK, hs, hB⟩ := hrel
        obtain ⟨a2, c2, rfl⟩ := own_slice hO
        have g0 := cell_of (i := 0) hG rfl
        have g1 := cell_of (i := 1) hG rfl
        have f1 := frz_of (i := 1) hG
        have hgr : w.heap.size + 1 < wr.heap.size := (Array.getElem?_eq_some_iff.1 hG).1
        have hgn2 : ¬ w.heap.size + 1 = wr.heap.size := by omega
        have HH : Hid (wr.ownsRow W.heap.size 40 3 (.slice a2 j c2) j (cellsT (rowT j)) ∧ wr.heap[w.heap.size + 1]? = some (.cells #[.slice an k cn, .slice a2 j c2] 25 (0, 0)) ∧ (∀ b, b < W.heap.size → b ≠ w.heap.size + 1 → wr.heap[b]? = W.heap[b]?) ∧ W.heap.size ≤ wr.heap.size ∧ Below w.heap.size w wr) := ⟨hO, hG, hK, hs, hB⟩
        by_cases hlt2 : j < m
        · have hle2 : (j : Int) + 1 ≤ (m : Int) := by omega
          have hwj : IntKind.i64.wrap ((j : Int) + 1 + 1) = (j : Int) + 1 + 1 := by rw [IntKind.wrap_i64]; omega
          have HO : Hid ((wr.alloc (.cells #[.string ⟨#[112]⟩, .int .i64 ((j : Int) + 1), .int .i64 ((j : Int) + 1 + 1)] 40)).ownsRow W.heap.size 40 3 (.slice a2 j c2) j (cellsT (rowT j)) ∧ (j + 1 ≤ maxLen ∧ (j + 1) * 32 ≤ 140737488355328) ∧ W.heap.size ≤ (wr.alloc (.cells #[.string ⟨#[112]⟩, .int .i64 ((j : Int) + 1), .int .i64 ((j : Int) + 1 + 1)] 40)).heap.size) := ⟨hO.alloc _, ⟨by unfold maxLen; omega, by omega⟩, by simp; omega⟩
          have HK : Hid (∀ w1, (wr.alloc (.cells #[.string ⟨#[112]⟩, .int .i64 ((j : Int) + 1), .int .i64 ((j : Int) + 1 + 1)] 40)).grownBy w1 (Value.slice a2 j c2).ownBlock → w1.cell? ⟨w.heap.size + 1, 1, none⟩ = some (.slice a2 j c2) ∧ w1.frozen? ⟨w.heap.size + 1, 1, none⟩ = false) := fun w1 hg1 => by
            have hne := row_apart hO hG (by decide)
            have hbk : w1.heap[w.heap.size + 1]? = some (.cells #[.slice an k cn, .slice a2 j c2] 25 (0, 0)) := (hg1.block _ (by simp; omega) (fun h => hne h.symm)).trans ((Below.heap_alloc _ _ _ hgr).trans hG)
            exact ⟨cell_of hbk rfl, frz_of hbk⟩
          clear hO hG hK hs hB
          go_wp2_with (at_builtin; refine wpList_append_own _ rfl (.tmp 30) (.tmp 35) 23 rfl W.heap.size 40 i1 _ 3 32 Try.underlying23 ji0 jz0 jz1 jz2 rfl (by decide) (.slice a2 j c2) j (cellsT (rowT j)) rfl HO.out.1 ⟨wr.heap.size, 0, none⟩ 1 1 (tK j).cells rfl rfl (new_at wr (tK j).cells 40) (by simp [tK, Te.cells, Value.oneCell']) HO.out.2.1.1 HO.out.2.1.2 HO.out.2.2 ?_; intro v1 w1 hown1 hgrow1 _; obtain ⟨q0, q1⟩ := HK.out w1 hgrow1; obtain ⟨a1, c1, rfl⟩ := own_slice hown1)
          have HR2 : Hid (M2 w W (.slice an k cn) m (.int .i64 ((j : Int) + 1 + 1)) (w1.setCell ⟨w.heap.size + 1, 1, none⟩ (.slice a1 (j + 1) c1))) := m2_step hlt2 hgl HH.out.1 HH.out.2.1 HH.out.2.2.1 HH.out.2.2.2.1 HH.out.2.2.2.2 hown1 hgrow1
          refine ⟨?_, ?_⟩
          · first | exact HR2.out | ((repeat apply Exists.intro); refine ⟨?_, rfl⟩; exact HR2.out)
          · simp [intOf]
            try omega
        · obtain rfl : j = m := by omega
          have hR2 : wr.heap[w.heap.size]? = some (.cells #[.slice none 0 0, .slice none 0 0] 25 (0, 0)) := (hK _ (by omega) (by omega)).trans HX.out.2.2.2
          have r0 := cell_of (i := 0) hR2 rfl
          have r1 := cell_of (i := 1) hR2 rfl
          have fr0 := frz_of (i := 0) hR2
          have fr1 := frz_of (i := 1) hR2
          have hfin := many_end HX.out.1 HX.out.2.1 HX.out.2.2.1 HX.out.2.2.2 hgl HS.out.1 HH.out.1 HH.out.2.1 HH.out.2.2.1 HH.out.2.2.2.1 HH.out.2.2.2.2
          have HF : Hid (RowN w.heap.size ((wr.setCell ⟨w.heap.size, 0, none⟩ (.slice an k cn)).setCell ⟨w.heap.size, 1, none⟩ (.slice a2 j c2)) (.slice an k cn) k ∧ IsT ((wr.setCell ⟨w.heap.size, 0, none⟩ (.slice an k cn)).setCell ⟨w.heap.size, 1, none⟩ (.slice a2 j c2)) (.slice a2 j c2) (rowT j) ∧ Below w.heap.size w ((wr.setCell ⟨w.heap.size, 0, none⟩ (.slice an k cn)).setCell ⟨w.heap.size, 1, none⟩ (.slice a2 j c2))) := hfin
          clear hO hG hK hs hB hfin hR2
          have s1 : ((wr.setCell ⟨w.heap.size, 0, none⟩ (.slice an k cn)).setCell ⟨w.heap.size, 1, none⟩ (.slice a2 j c2)).cell? ⟨w.heap.size, 1, none⟩ = some (.slice a2 j c2) := World.cell?_setCell_same' _ _ _ (by rw [cell_oth (by simp), r1]; rfl)
          have s0 : ((wr.setCell ⟨w.heap.size, 0, none⟩ (.slice an k cn)).setCell ⟨w.heap.size, 1, none⟩ (.slice a2 j c2)).cell? ⟨w.heap.size, 0, none⟩ = some (.slice an k cn) := by
            refine (cell_oth (by simp)).trans ?_
            exact World.cell?_setCell_same' _ _ _ (by rw [r0]; rfl)
          have HS01 : Hid (((wr.setCell ⟨w.heap.size, 0, none⟩ (.slice an k cn)).setCell ⟨w.heap.size, 1, none⟩ (.slice a2 j c2)).cell? ⟨w.heap.size, 0, none⟩ = some (.slice an k cn) ∧ ((wr.setCell ⟨w.heap.size, 0, none⟩ (.slice an k cn)).setCell ⟨w.heap.size, 1, none⟩ (.slice a2 j c2)).cell? ⟨w.heap.size, 1, none⟩ = some (.slice a2 j c2)) := ⟨s0, s1⟩
          clear s0 s1
          go_wp2
          refine bodyPost_ret (v := .agg #[.slice an k cn, .slice a2 j c2]) ?_ rfl ⟨an, cn, a2, c2, rfl, HF.out⟩
          obtain ⟨s0, s1⟩ := HS01.out
          simp [results, Try.results10, go_sem, s0, s1]
end Go.Proofs.Ytidmfdbckpficaa
