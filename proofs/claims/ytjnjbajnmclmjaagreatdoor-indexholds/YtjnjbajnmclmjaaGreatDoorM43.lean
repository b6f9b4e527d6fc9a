/-
  The walk of graph.Node.
-/
import Derived.Test.YtjnjbajnmclmjaaGreatDoorM42
import Derived.Test.YtjnjbajnmclmjaaGreatDoorM11
import Derived.Test.YtjnjbajnmclmjaaGreatDoorM10
import Derived.Test.YtjnjbajnmclmjaaGreatDoorM23
namespace Go.Proofs.YtjnjbajnmclmjaaGreatDoor
open Go.RowKit
set_option linter.unusedVariables false
set_option linter.unusedSimpArgs false

theorem idxN_at (id : Int) : ∀ (N : List Nd) (s : Nat), hasId N id = true → ∃ k n, N[k]? = some n ∧ idxN id N s = ((s + k : Nat) : Int)
  | [], s, h => by simp [hasId] at h
  | n :: r, s, h => by
    by_cases e : n.id = id
    · exact ⟨0, n, rfl, by simp [idxN, e]⟩
    · have h' : hasId r id = true := by
        unfold hasId at h ⊢
        rw [List.any_cons, Bool.or_eq_true] at h
        rcases h with h | h
        · exact absurd (by simpa using h) e
        · exact h
      obtain ⟨k, x, hk, hx⟩ := idxN_at id r (s + 1) h'
      refine ⟨k + 1, x, by simpa using hk, ?_⟩
      have : idxN id (n :: r) s = idxN id r (s + 1) := by simp [idxN, e]
      rw [this, hx]
      congr 1
      omega

set_option maxHeartbeats 1000000 in
set_option maxRecDepth 100000 in
theorem find_ok {vn vt : Value} {N : List Nd} {T : List Te} {w : World} (hN : IsN w vn N) (hT : IsT w vt T) (zN : SzN N) (zT : SzT T) (hg : gErr N T = 0) (id : Int) (hh : hasId N id = true) :
    Calls Tryz.prog 33 #[.agg #[vn, vt], .int .i64 id] w fun e w' => e = .returned (.tuple #[.int .i64 (idxN id N 0), .nilIface]) ∧ Below w.heap.size w w' := by
  have hN' := hN
  obtain ⟨an, cn, rfl, hcn, hn⟩ := hN
  have hT' := hT
  obtain ⟨am, cm, rfl, hcm, hm⟩ := hT
  have hB : Below w.heap.size w ((w.alloc (.cells #[.slice an N.length cn, .slice am T.length cm] 29)).alloc (.cells #[.int .i64 id] 3)) := b_alloc (b_alloc (Below.refl _ _) _) _
  have hl := gErr_len hg
  have cc := gcheck_any (hN'.on hB) (hT'.on hB) zN zT (by unfold maxLen; omega) (by unfold maxLen; omega)
  rw [hg, errV_0] at cc
  have g0 : ((w.alloc (.cells #[.slice an N.length cn, .slice am T.length cm] 29)).alloc (.cells #[.int .i64 id] 3)).cell? ⟨w.heap.size, 0, none⟩ = some (.slice an N.length cn) := by simp
  have g2 : ((w.alloc (.cells #[.slice an N.length cn, .slice am T.length cm] 29)).alloc (.cells #[.int .i64 id] 3)).cell? ⟨w.heap.size + 1, 0, none⟩ = some (.int .i64 id) := by simp
  have ci := fun W (hW : Below ((w.alloc (.cells #[.slice an N.length cn, .slice am T.length cm] 29)).alloc (.cells #[.int .i64 id] 3)).heap.size ((w.alloc (.cells #[.slice an N.length cn, .slice am T.length cm] 29)).alloc (.cells #[.int .i64 id] 3)) W) => index_any (ao := an) (cn := cn) (N := N) (w := W) (by
    rcases hn with h | ⟨b, off, h1, h2, h3⟩
    · exact .inl h
    · exact .inr ⟨b, off, h1, Nat.lt_of_lt_of_le h2 (on1 hB hW).size, h3.on h2 (on1 hB hW)⟩) (gErr_len hg).1 (w.heap.size + 1) id (by have := hW.size; simp at this; omega) ((hW.cell (by simp)).trans g2)
  have HG : Hid (∀ W, Below ((w.alloc (.cells #[.slice an N.length cn, .slice am T.length cm] 29)).alloc (.cells #[.int .i64 id] 3)).heap.size ((w.alloc (.cells #[.slice an N.length cn, .slice am T.length cm] 29)).alloc (.cells #[.int .i64 id] 3)) W → W.cell? ⟨w.heap.size, 0, none⟩ = some (.slice an N.length cn)) := fun W hW => (hW.cell (by simp; omega)).trans g0
  obtain ⟨k, n, hk, hx⟩ := idxN_at id N 0 hh
  rw [Nat.zero_add] at hx
  rw [hx] at ci ⊢
  clear g0 g2 hg hn hm hx hh hk
  have hk0 : ¬ ((k : Int) < 0) := by omega
  go_enter Tryz.func33, Tryz.ntmps33
  go_wp2_with (first | (go_at_call 31; refine cc.mono ?_; rintro e W2 ⟨rfl, hB2⟩; have k0 := HG.out W2 hB2) | (go_at_call 52; refine (ci _ hB2).mono ?_; rintro e W3 ⟨rfl, hB3⟩))
  go_ret2
  exact ⟨rfl, on1 (on1 hB hB2) hB3⟩

/-- What Node gives: the node, its record its own, and the error. -/
def NoP (w : World) (N : List Nd) (T : List Te) (id : Int) (e : Ending) (w' : World) : Prop := ∃ i k a l c, e = .returned (.tuple #[.agg #[.int .i64 i, .string k, .slice a l c], errV (fE N T id)]) ∧ (hasId N id = true → ∃ (j : Nat) (n : Nd), N[j]? = some n ∧ idxN id N 0 = (j : Int) ∧ i = n.id ∧ k = n.kd ∧ OwnRc w' w.heap.size (.slice a l c) n.rc) ∧ Below w.heap.size w w'
set_option maxHeartbeats 2000000 in
set_option maxRecDepth 100000 in
theorem node_any {vn vt : Value} {N : List Nd} {T : List Te} {w : World} (hN : IsN w vn N) (hT : IsT w vt T) (zN : SzN N) (zT : SzT T) (hg : gErr N T = 0) (h8 : ∀ n ∈ N, n.rc.length ≤ 8) (id : Int) :
    Calls Tryz.prog 13 #[.agg #[vn, vt], .int .i64 id] w (NoP w N T id) := by
  obtain ⟨W0, hW0⟩ : ∃ W0, W0 = (w.alloc (.cells #[vn, vt] 29)).alloc (.cells #[.int .i64 0, .string ⟨#[]⟩, .slice none 0 0] 44) := ⟨_, rfl⟩
  have hB0 : Below w.heap.size w W0 := by rw [hW0]; exact b_alloc (b_alloc (Below.refl _ _) _) _
  have hs0 : W0.heap.size = w.heap.size + 2 := by rw [hW0]; simp
  have n0 : W0.heap[w.heap.size]? = some (.cells #[vn, vt] 29 (0, 0)) := by rw [hW0]; exact (heap_alloc_old _ _ (by simp)).trans (heap_alloc_new w _)
  have n1 : W0.heap[w.heap.size + 1]? = some (.cells #[.int .i64 0, .string ⟨#[]⟩, .slice none 0 0] 44 (0, 0)) := by
    have := heap_alloc_new (w.alloc (.cells #[vn, vt] 29)) (.cells #[.int .i64 0, .string ⟨#[]⟩, .slice none 0 0] 44)
    rw [World.size_alloc] at this; rw [hW0]; exact this
  have hl := gErr_len hg
  have x0 : W0.cell? ⟨w.heap.size, 0, none⟩ = some vn := cell_at n0 rfl
  have x1 : W0.cell? ⟨w.heap.size, 1, none⟩ = some vt := cell_at n0 rfl
  have hN0 := hN.on hB0
  have hT0 := hT.on hB0
  cases hh : hasId N id with
  | false =>
    have cF := find_any hN0 hT0 zN zT (by unfold maxLen; omega) (by unfold maxLen; omega) id
    rw [fE_no hg hh] at cF
    have HE : Hid (fE N T id = 5) := fE_no hg hh
    have HHh := Lib.hid hh
    have HI : Hid (Below w.heap.size w W0 ∧ ∀ W, Below W0.heap.size W0 W → W.heap[w.heap.size + 1]? = some (.cells #[.int .i64 0, .string ⟨#[]⟩, .slice none 0 0] 44 (0, 0))) := ⟨hB0, fun W hB => (hB.block _ (by omega)).trans n1⟩
    obtain ⟨an, cn, hvn, _⟩ := hN
    obtain ⟨am, cm, hvt, _⟩ := hT
    subst hvn hvt
    rw [show errV 5 = .iface 92 (.int .i64 5) from rfl] at cF
    clear n0 n1 hB0 hN0 hT0 hg hh
    go_enter Tryz.func13, Tryz.ntmps13
    go_upto_region 1 with fail
    rw [← hW0]
    clear hW0
    go_wp2_with (first | (go_at_call 33; refine cF.mono ?_; rintro e W1 ⟨x, rfl, hB1⟩; have q1 := HI.out.2 W1 hB1; have t0 : W1.cell? ⟨w.heap.size + 1, 0, none⟩ = some (.int .i64 0) := cell_at q1 rfl; have t1 : W1.cell? ⟨w.heap.size + 1, 1, none⟩ = some (.string ⟨#[]⟩) := cell_at q1 rfl; have t2 : W1.cell? ⟨w.heap.size + 1, 2, none⟩ = some (.slice none 0 0) := cell_at q1 rfl; have f0 : W1.frozen? ⟨w.heap.size + 1, 0, none⟩ = false := frz_at q1; have f1 : W1.frozen? ⟨w.heap.size + 1, 1, none⟩ = false := frz_at q1; have f2 : W1.frozen? ⟨w.heap.size + 1, 2, none⟩ = false := frz_at q1; have HQ := Lib.hid q1; clear q1))
    have u := heap_setCell_same _ _ 2 _ 44 (.slice none 0 0) (heap_setCell_same _ _ 1 _ 44 (.string ⟨#[]⟩) (heap_setCell_same W1 _ 0 _ 44 (.int .i64 0) HQ.out))
    have v0 : (((W1.setCell ⟨w.heap.size + 1, 0, none⟩ (.int .i64 0)).setCell ⟨w.heap.size + 1, 1, none⟩ (.string ⟨#[]⟩)).setCell ⟨w.heap.size + 1, 2, none⟩ (.slice none 0 0)).cell? ⟨w.heap.size + 1, 0, none⟩ = some (.int .i64 0) := cell_at u rfl
    have v1 : (((W1.setCell ⟨w.heap.size + 1, 0, none⟩ (.int .i64 0)).setCell ⟨w.heap.size + 1, 1, none⟩ (.string ⟨#[]⟩)).setCell ⟨w.heap.size + 1, 2, none⟩ (.slice none 0 0)).cell? ⟨w.heap.size + 1, 1, none⟩ = some (.string ⟨#[]⟩) := cell_at u rfl
    have v2 : (((W1.setCell ⟨w.heap.size + 1, 0, none⟩ (.int .i64 0)).setCell ⟨w.heap.size + 1, 1, none⟩ (.string ⟨#[]⟩)).setCell ⟨w.heap.size + 1, 2, none⟩ (.slice none 0 0)).cell? ⟨w.heap.size + 1, 2, none⟩ = some (.slice none 0 0) := cell_at u rfl
    refine bodyPost_ret (v := .tuple #[.agg #[.int .i64 0, .string ⟨#[]⟩, .slice none 0 0], .iface 92 (.int .i64 5)]) ?_ rfl ⟨_, _, _, _, _, by rw [HE.out]; rfl, fun h => absurd h (by rw [HHh.out]; decide), below_set3 (on1K HI.out.1 hB1 (Nat.le_refl _)) (by omega) _ _ _ _ _ _⟩
    simp [results, Tryz.results13, go_sem, v0, v1, v2]
  | true =>
    have cF := find_ok hN0 hT0 zN zT hg id hh
    obtain ⟨k, n, hk, hx⟩ := idxN_at id N 0 hh
    rw [Nat.zero_add] at hx
    rw [hx] at cF
    have hkl := (List.getElem?_eq_some_iff.1 hk).1
    have HE : Hid (fE N T id = 0) := fE_ok hg hh
    have hn8 := h8 n (List.mem_of_getElem? hk)
    obtain ⟨an, cn, hvn, hcn, hNN⟩ := hN0
    obtain ⟨am, cm, hvt, _⟩ := hT
    subst hvn hvt
    rcases hNN with h0 | ⟨b, off, hab, hb, hLL⟩
    · rw [h0] at hkl; exact absurd hkl (by simp)
    subst hab
    obtain ⟨c0, c1, c2, cR⟩ := hLL k n hk
    have HI : Hid (Below w.heap.size w W0 ∧ ∀ W, Below W0.heap.size W0 W → W.heap[w.heap.size + 1]? = some (.cells #[.int .i64 0, .string ⟨#[]⟩, .slice none 0 0] 44 (0, 0)) ∧ W.cell? ⟨w.heap.size, 0, none⟩ = some (.slice (some ⟨b, off, none⟩) N.length cn) ∧ W.cell? ⟨b, off + k * 3, none⟩ = some (.int .i64 n.id) ∧ W.cell? ⟨b, off + k * 3 + 1, none⟩ = some (.string n.kd) ∧ W.cell? ⟨b, off + k * 3 + 2, none⟩ = some n.rv ∧ IsR W n.rv n.rc ∧ w.heap.size + 2 ≤ W.heap.size) := ⟨hB0, fun W hB => ⟨(hB.block _ (by omega)).trans n1, (hB.cell (by show w.heap.size < W0.heap.size; omega)).trans x0, (hB.cell hb).trans c0, (hB.cell hb).trans c1, (hB.cell hb).trans c2, cR.on hB, by have := hB.size; omega⟩⟩
    have HK : Hid (N[k]? = some n ∧ idxN id N 0 = (k : Int)) := ⟨hk, hx⟩
    clear n0 n1 hB0 hT0 hg hh hN c0 c1 c2 hLL hk hx hcn
    go_enter Tryz.func13, Tryz.ntmps13
    go_upto_region 1 with fail
    rw [← hW0]
    clear hW0
    obtain ⟨av, lv, cv, hv⟩ := cR.sl
    obtain ⟨ni, kd, rv, rc⟩ := n
    simp only at hv HI hn8
    subst hv
    clear cR
    go_wp2_with (first | (go_at_call 33; refine cF.mono ?_; rintro e W1 ⟨rfl, hB1⟩; refine Hid.out ?_))
    refine Lib.hid ?_
    obtain ⟨q1, q2, q3, q4, q5, q6, q7⟩ := HI.out.2 W1 hB1
    have cc := copiedNode_any ⟨ni, kd, .slice av lv cv, rc⟩ W1 q6 (by show rc.length ≤ 1000; omega)
    have HP : Hid (W1.heap[w.heap.size + 1]? = some (.cells #[.int .i64 0, .string ⟨#[]⟩, .slice none 0 0] 44 (0, 0)) ∧ Below w.heap.size w W1 ∧ w.heap.size + 2 ≤ W1.heap.size) := ⟨q1, on1K HI.out.1 hB1 (Nat.le_refl _), q7⟩
    have hki : (k : Int) < (N.length : Int) := by omega
    clear q1 q6 q7 hB1 HI cF x0 x1
    go_wp2_with (first | (go_at_call 34; refine cc.mono ?_; rintro e W2 ⟨v2, rfl, hR2, hB2⟩; obtain ⟨a3, l3, c3, rfl⟩ := OwnRc.sl hR2; have k1 := (hB2.block (w.heap.size + 1) (by have := HP.out.2.2; omega)).trans HP.out.1; have t0 : W2.cell? ⟨w.heap.size + 1, 0, none⟩ = some (.int .i64 0) := cell_at k1 rfl; have t1 : W2.cell? ⟨w.heap.size + 1, 1, none⟩ = some (.string ⟨#[]⟩) := cell_at k1 rfl; have t2 : W2.cell? ⟨w.heap.size + 1, 2, none⟩ = some (.slice none 0 0) := cell_at k1 rfl; have f0 : W2.frozen? ⟨w.heap.size + 1, 0, none⟩ = false := frz_at k1; have f1 : W2.frozen? ⟨w.heap.size + 1, 1, none⟩ = false := frz_at k1; have f2 : W2.frozen? ⟨w.heap.size + 1, 2, none⟩ = false := frz_at k1; have HF : Hid (Below w.heap.size w W2 ∧ W2.heap[w.heap.size + 1]? = some (.cells #[.int .i64 0, .string ⟨#[]⟩, .slice none 0 0] 44 (0, 0)) ∧ OwnRc W2 w.heap.size (.slice a3 l3 c3) rc) := ⟨on1K HP.out.2.1 hB2 (Nat.le_refl _), k1, own_base hR2 (by have := HP.out.2.2; omega)⟩; clear k1 hR2 hB2))
    obtain ⟨z1, z2, z3⟩ := HF.out
    have u := heap_setCell_same _ _ 2 _ 44 (.slice a3 l3 c3) (heap_setCell_same _ _ 1 _ 44 (.string kd) (heap_setCell_same W2 _ 0 _ 44 (.int .i64 ni) z2))
    have v0 : (((W2.setCell ⟨w.heap.size + 1, 0, none⟩ (.int .i64 ni)).setCell ⟨w.heap.size + 1, 1, none⟩ (.string kd)).setCell ⟨w.heap.size + 1, 2, none⟩ (.slice a3 l3 c3)).cell? ⟨w.heap.size + 1, 0, none⟩ = some (.int .i64 ni) := cell_at u rfl
    have v1 : (((W2.setCell ⟨w.heap.size + 1, 0, none⟩ (.int .i64 ni)).setCell ⟨w.heap.size + 1, 1, none⟩ (.string kd)).setCell ⟨w.heap.size + 1, 2, none⟩ (.slice a3 l3 c3)).cell? ⟨w.heap.size + 1, 1, none⟩ = some (.string kd) := cell_at u rfl
    have v2 : (((W2.setCell ⟨w.heap.size + 1, 0, none⟩ (.int .i64 ni)).setCell ⟨w.heap.size + 1, 1, none⟩ (.string kd)).setCell ⟨w.heap.size + 1, 2, none⟩ (.slice a3 l3 c3)).cell? ⟨w.heap.size + 1, 2, none⟩ = some (.slice a3 l3 c3) := cell_at u rfl
    have ty : Ty W2 (w.heap.size + 1) 44 := ⟨_, z2⟩
    refine bodyPost_ret (v := .tuple #[.agg #[.int .i64 ni, .string kd, .slice a3 l3 c3], .nilIface]) ?_ rfl ⟨_, _, _, _, _, by rw [HE.out]; rfl, fun _ => ⟨k, ⟨ni, kd, .slice av lv cv, rc⟩, HK.out.1, HK.out.2, rfl, rfl, OwnRc.kt z3 ((Kt.refl _ _).ty3 ty (by decide) _ _ _ _ _ _)⟩, below_set3 z1 (by omega) _ _ _ _ _ _⟩
    simp [results, Tryz.results13, go_sem, v0, v1, v2]
end Go.Proofs.YtjnjbajnmclmjaaGreatDoor

/-
  What a round of IndexHolds asks, in plain words.
-/
namespace Go.Proofs.YtjnjbajnmclmjaaGreatDoor
open Go.RowKit
set_option linter.unusedVariables false
set_option linter.unusedSimpArgs false

theorem cf_all {L : List Kd} {B : List Bd} {N : List Nd} {T : List Te} (h : cfE L B N T = 0) : allF L B N T = [] := by
  obtain ⟨_, _, h3⟩ := cfE_zero h
  unfold confB at h3
  rw [Bool.and_eq_true] at h3
  exact List.eq_nil_of_length_eq_zero (by simpa using h3.2)
theorem idxN_id (id : Int) : ∀ (N : List Nd) (s j : Nat) (n : Nd), idxN id N s = ((s + j : Nat) : Int) → N[j]? = some n → n.id = id
  | [], s, j, n, _, h => by simp at h
  | m :: r, s, j, n, h, hn => by
    by_cases e : m.id = id
    · have : idxN id (m :: r) s = s := by simp [idxN, e]
      rw [this] at h
      have hj : j = 0 := by omega
      subst hj
      obtain rfl : m = n := by simpa using hn
      exact e
    · have h1 : idxN id (m :: r) s = idxN id r (s + 1) := by simp [idxN, e]
      rw [h1] at h
      cases j with
      | zero =>
        exfalso
        have hs : ∀ (l : List Nd) (k : Nat), idxN id l k = -1 ∨ (k : Int) ≤ idxN id l k := by
          intro l
          induction l with
          | nil => intro k; left; rfl
          | cons x r ih =>
            intro k
            by_cases e2 : x.id = id
            · right; simp [idxN, e2]
            · have : idxN id (x :: r) k = idxN id r (k + 1) := by simp [idxN, e2]
              rw [this]
              rcases ih (k + 1) with h | h
              · exact .inl h
              · right; omega
        rcases hs r (s + 1) with h2 | h2 <;> omega
      | succ j =>
        exact idxN_id id r (s + 1) j n (by rw [h]; congr 1; omega) (by simpa using hn)
theorem keysF_mem {l : List Fd} {a : Nm} (h : hasN (keysF l) a = true) : ∃ f ∈ l, f.key = true ∧ f.nm = a := by
  obtain ⟨f, hf, e⟩ := List.mem_map.1 ((hasN_iff _ _).1 h)
  obtain ⟨h1, h2⟩ := List.mem_filter.1 hf
  exact ⟨f, h1, h2, e⟩
theorem round_kin {L : List Kd} {B : List Bd} {M : List Nd} {T : List Te} (hcf : cfE L B M T = 0) {nm : Nm} {j : Nat} {n : Nd} (hn : M[j]? = some n) (hk : hasN (knO (hpO L L) n.kd) nm = true) :
    ∃ a, n.kd = bs a ∧ isErr L a nm = 0 ∧ isKin L a nm = true := by
  obtain ⟨hs0, hg0, _⟩ := cfE_zero hcf
  obtain ⟨hk0, _, _⟩ := sErr_good.1 hs0
  obtain ⟨s, hs, _, _⟩ := node_right (cf_all hcf) hn
  obtain ⟨k, hkL, hkx, rfl⟩ := shO_fs hs
  have hkn : knO (hpO L L) n.kd = nms (kin L k.nm) := by rw [← kn_eq L B, hs]; rfl
  rw [hkn] at hk
  have en := in_nmErr hk0 hkL
  have e2 := kin_err en ((hasN_iff _ _).1 hk)
  have e3 : isErr L k.nm nm = 0 := by
    unfold isErr
    rw [if_pos en, if_neg]
    intro e
    unfold nmErr at e2
    rw [if_pos hk0, if_pos e] at e2
    exact absurd e2 (by decide)
  exact ⟨k.nm, hkx, e3, by unfold isKin; rw [if_pos e3]; exact hk⟩
theorem round_key {L : List Kd} {B : List Bd} {M : List Nd} {T : List Te} (hcf : cfE L B M T = 0) {nm fd : Nm} {j : Nat} {n : Nd} (hn : M[j]? = some n) (hk : hasN (knO (hpO L L) n.kd) nm = true) {t x : Int} {s : ByteArray} (hp : ∃ p ∈ n.rc, p.nm.toList = fd ∧ p.t = t ∧ p.n = x ∧ p.s = s) (h0 : (keyA (hpO L L) (tabK (hpO L L) M).2 (bs nm) fd t x s).2 = 0) : (keyA (hpO L L) (tabK (hpO L L) M).2 (bs nm) fd t x s).1 = n.id := by
  obtain ⟨hs0, hg0, _⟩ := cfE_zero hcf
  obtain ⟨hk0, _, _⟩ := sErr_good.1 hs0
  have hall := cf_all hcf
  obtain ⟨p, hpm, e1, e2, e3, e4⟩ := hp
  have hof : KeyOf (hpO L L) M (tabK (hpO L L) M).2 := tab_key (hpO L L) M M _ (fun n hn => hn) (fun k i h => by cases h)
  unfold keyA at h0 ⊢
  cases hH : hpO L L (bs nm) with
  | none => rw [hH] at h0; exact absurd h0 (by simp)
  | some q =>
    rw [hH] at h0
    simp only at h0 ⊢
    rcases hpO_some L L _ _ _ hH with h1 | ⟨k, hkL, hkx, rfl⟩
    · cases h1
    have hkn : nm = k.nm := bs_inj hkx
    subst hkn
    by_cases hh : hasN (hpP L k.nm).ks fd = true
    · rw [if_pos hh] at h0 ⊢
      cases hG : (tabK (hpO L L) M).2 (bs k.nm, bs fd, t, x, s) with
      | none => rw [hG] at h0; exact absurd h0 (by simp [keyB])
      | some i =>
        show i = n.id
        obtain ⟨m, hm, hi, a, ha, p', hp', e5, _⟩ := hof _ _ hG
        obtain ⟨j', hj'⟩ := List.mem_iff_getElem?.1 hm
        have c1 : bs k.nm = bs a := congrArg (fun y : KeyJ => y.1) e5
        have c2 : bs fd = p'.nm := congrArg (fun y : KeyJ => y.2.1) e5
        have c3 : t = p'.t := congrArg (fun y : KeyJ => y.2.2.1) e5
        have c4 : x = p'.n := congrArg (fun y : KeyJ => y.2.2.2.1) e5
        have c5 : s = p'.s := congrArg (fun y : KeyJ => y.2.2.2.2) e5
        obtain rfl := bs_inj c1
        obtain ⟨f, hf, hfk, hfn⟩ := keysF_mem (l := fields L k.nm) hh
        have d1 : p.nm.toList = f.nm := by rw [e1, hfn]
        have d2 : p'.nm.toList = f.nm := by rw [← c2, bs_toList, hfn]
        have ev : p.t = p'.t ∧ p.n = p'.n ∧ p.s = p'.s := ⟨by rw [e2, c3], by rw [e3, c4], by rw [e4, c5]⟩
        have u1 := key_uniq hk0 hg0 hall hn hj' ((hasN_iff _ _).1 hk) ha hf hfk hpm hp' d1 d2 ev
        have u2 := key_uniq hk0 hg0 hall hj' hn ha ((hasN_iff _ _).1 hk) hf hfk hp' hpm d2 d1 ⟨ev.1.symm, ev.2.1.symm, ev.2.2.symm⟩
        have : j = j' := by omega
        subst this
        rw [hn] at hj'
        rw [← hi, Option.some.inj hj']
    · rw [if_neg hh] at h0
      exact absurd h0 (by simp)
theorem getV_form {rc : List Pr} (hr : rErr rc = 0) (hv : VOk rc) (fd : Nm) : ∃ t x s, getV fd rc = .agg #[.int .i64 t, .int .i64 x, .string s] ∧ (in64 t ∧ in64 x ∧ s.size ≤ maxLen) ∧ (rfErr fd rc = 0 → ∃ p ∈ rc, p.nm.toList = fd ∧ p.t = t ∧ p.n = x ∧ p.s = s) := by
  have h0 : in64 0 := in64_of (by omega) (by omega)
  unfold getV
  by_cases h : rfErr fd rc = 0
  · rw [if_pos h]
    unfold rfErr at h
    rw [if_pos hr] at h
    rcases idxP_spec fd rc 0 with h1 | ⟨j, q, h1, h2, h3⟩
    · rw [if_pos h1] at h; exact absurd h (by decide)
    · simp only [Nat.zero_add] at h1
      rw [h1]
      simp only [Int.toNat_natCast]
      rw [h2]
      have hq := List.mem_of_getElem? h2
      exact ⟨q.t, q.n, q.s, rfl, hv q hq, fun _ => ⟨q, hq, by simpa using h3, rfl, rfl, rfl⟩⟩
  · rw [if_neg h]
    exact ⟨0, 0, ⟨#[]⟩, rfl, ⟨h0, h0, by decide⟩, fun h' => absurd h' h⟩
theorem cntK_c (H : ByteArray → Option Sh) (nm : Nm) (N : List Nd) : cntK H nm (cN N) = cntK H nm N := by
  unfold cntK cN
  rw [List.filter_map, List.length_map]
  rfl
/-- As many as there are. -/
theorem row_cnt {L : List Kd} {B : List Bd} {M : List Nd} {T : List Te} (hcf : cfE L B M T = 0) (nm : Nm) :
    rowK (tabK (hpO L L) M) nm = (M.filter fun n => hasN (knO (hpO L L) n.kd) nm).map (·.id) ∧ cntK (shO L B L) nm M = (rowK (tabK (hpO L L) M) nm).length := by
  obtain ⟨hs0, hg0, _⟩ := cfE_zero hcf
  obtain ⟨hk0, _, _⟩ := sErr_good.1 hs0
  have h1 := tab_kind (hpO L L) nm M (fun _ => none, fun _ => none) (fun n hn => by
    obtain ⟨j, hj⟩ := List.mem_iff_getElem?.1 hn
    obtain ⟨s, hs, _, _⟩ := node_right (cf_all hcf) hj
    obtain ⟨k, hkL, hkx, rfl⟩ := shO_fs hs
    have hkn : knO (hpO L L) n.kd = nms (kin L k.nm) := by rw [← kn_eq L B, hs]; rfl
    rw [hkn]
    exact kin_nodup (in_nmErr hk0 hkL))
  have h2 : rowK (tabK (hpO L L) M) nm = (M.filter fun n => hasN (knO (hpO L L) n.kd) nm).map (·.id) := h1
  refine ⟨h2, ?_⟩
  rw [h2, List.length_map]
  unfold cntK
  congr 2
  funext n
  unfold ofK
  rw [kn_eq]
end Go.Proofs.YtjnjbajnmclmjaaGreatDoor

/-
  A row of nodes is right: the mathematics of CheckRow.
-/
namespace Go.Proofs.YtjnjbajnmclmjaaGreatDoor
open Go.RowKit
set_option linter.unusedVariables false
set_option linter.unusedSimpArgs false

/-- The field and the bond of the simple schema. -/
def fdK : Fd := ⟨[107], 1, true, true⟩
def bdP (mx : Int) : Bd := ⟨[112], [97], [97], 0, mx⟩
/-- Its kind; the two values are where what it has lies. -/
def kdA (vo vf : Value) : Kd := ⟨[97], [], [fdK], vo, vf⟩
def shA (mx : Int) : Sh := ⟨[[97]], [fdK], [bdP mx]⟩
theorem shp_a (vo vf : Value) (mx : Int) : shp [kdA vo vf] [bdP mx] [97] = shA mx := by rfl
theorem shO_a (vo vf : Value) (mx : Int) : shO [kdA vo vf] [bdP mx] [kdA vo vf] ⟨#[97]⟩ = some (shA mx) := by rfl
theorem bdO_p (mx : Int) : bdO [bdP mx] ⟨#[112]⟩ = some (bdP mx) := by rfl
theorem sErr_a (vo vf : Value) {mx : Int} (h : mx = -1 ∨ (0 ≤ mx ∧ mx ≤ 20)) : (sErr [kdA vo vf] [bdP mx]).2 = 0 := by
  have h1 : (ksErr [kdA vo vf]).2 = 0 := by kernel_rfl
  unfold sErr
  rw [if_pos h1, if_neg (by simp)]
  unfold bsGo
  have h2 : bErr [kdA vo vf] [] (bdP mx) = 0 := by
    unfold bErr
    have e1 : nErr (bdP mx).nm = 0 := by show nErr [112] = 0; decide
    have e2 : idxB (bdP mx).nm [] 0 = -1 := rfl
    have e3 : hasK [kdA vo vf] (bdP mx).fr = true := by rfl
    have e4 : hasK [kdA vo vf] (bdP mx).tt = true := by rfl
    have e5 : inRB (bdP mx).mn (bdP mx).mx = true := by
      rw [inR_iff]
      show (0 : Int) ≤ 0 ∧ (0 : Int) ≤ 20 ∧ (mx = -1 ∨ ((0 : Int) ≤ mx ∧ mx ≤ 20))
      omega
    rw [if_pos e1, if_pos e2, if_pos e3, if_pos e4, if_pos e5]
  rw [if_pos h2]
  rfl

/-- The key of a number. -/
def keyN (i : Int) : KeyV := (⟨#[107]⟩, 1, i, ⟨#[]⟩)
/-- What is taken behind so many nodes. -/
def takeN : Nat → Tk
  | 0 => fun _ => none
  | k + 1 => upd (takeN k) (keyN ((k : Int) + 1)) ((k : Int) + 1)
theorem keyN_inj {i j : Int} (h : keyN i = keyN j) : i = j := by
  unfold keyN at h
  simp at h
  exact h
theorem takeN_new : ∀ (k : Nat) (i : Int), (k : Int) < i → takeN k (keyN i) = none
  | 0, _, _ => rfl
  | k + 1, i, h => by
    unfold takeN upd
    rw [if_neg (fun e => by have := keyN_inj e; omega)]
    exact takeN_new k i (by omega)
theorem takeN_old : ∀ (k : Nat) (i : Int), 1 ≤ i → i ≤ k → takeN k (keyN i) = some i
  | 0, i, h1, h2 => by omega
  | k + 1, i, h1, h2 => by
    unfold takeN upd
    split
    · rename_i e; rw [keyN_inj e]
    · rename_i e
      refine takeN_old k i h1 ?_
      have : i ≠ (k : Int) + 1 := fun h => e (by rw [h])
      omega
theorem nm_a (i : Int) : (prK i).nm.toList = [107] := by
  show (⟨#[107]⟩ : ByteArray).toList = [107]
  rw [Lib.toList_data]
theorem prop_a (mx : Int) (id i : Int) : propF (shA mx).fs id [prK i] = [] := by
  show propS [fdK] id [] (prK i) = []
  have h : fits [fdK] (prK i) = true := by
    unfold fits fit1
    simp only [List.any_cons, List.any_nil, nm_a]
    rfl
  unfold propS
  rw [if_pos h]
theorem getP_a (i : Int) : getP [107] [prK i] = some (prK i) := by
  have h : idxP [107] [prK i] 0 = 0 := by
    unfold idxP
    rw [nm_a, if_pos (by decide)]
    rfl
  unfold getP
  rw [h, if_neg (by decide)]
  rfl
theorem noF_a (i : Int) : noF [prK i] fdK = false := by
  unfold noF
  show (true && (getP [107] [prK i]).isNone) = false
  rw [getP_a]
  rfl
theorem keyP_a (i : Int) : keyP [prK i] fdK = keyN i := by
  unfold keyP
  show (bs [107], valP (getP [107] [prK i])) = _
  rw [getP_a]
  rfl
theorem nodeS_eq (H : ByteArray → Option Sh) (O : Ou) (S : List Ft × Tk) (n : Nd) : nodeS H O S n = (S.1 ++ (ownF (H n.kd) n S.2).1 ++ bondF ((H n.kd).getD sh0).bn n.id O, (ownF (H n.kd) n S.2).2) := rfl
theorem sameF_a (i : Int) (T : Tk) : sameF [prK i] T fdK = ((T (keyN i)).getD 0 != 0) := by
  unfold sameF
  rw [keyP_a]
  show ((true && (valP (getP [107] [prK i])).1 == 1) && _) = _
  rw [getP_a]
  rfl
theorem own_new (mx : Int) {n : Nd} {i : Int} (hr : n.rc = [prK i]) {T : Tk} (hT : T (keyN i) = none) : ownF (some (shA mx)) n T = ([], upd T (keyN i) n.id) := by
  have h1 : sameF [prK i] T fdK = false := by rw [sameF_a, hT]; rfl
  have h2 : fieldS n.id [prK i] ([], T) fdK = ([], upd T (keyP [prK i] fdK) n.id) := fieldS_put (noF_a i) h1 rfl
  rw [keyP_a] at h2
  unfold ownF
  simp only
  rw [hr, prop_a]
  have e : fieldF (shA mx).fs n.id [prK i] T = ([], upd T (keyN i) n.id) := h2
  rw [e]
  rfl
theorem own_old (mx : Int) {n : Nd} {i : Int} (hr : n.rc = [prK i]) {T : Tk} {j : Int} (hT : T (keyN i) = some j) (hj : j ≠ 0) : (ownF (some (shA mx)) n T).1 = [⟨4, n.id, ⟨#[107]⟩⟩] := by
  have h1 : sameF [prK i] T fdK = true := by rw [sameF_a, hT]; simpa using hj
  have h2 : fieldS n.id [prK i] ([], T) fdK = ([⟨4, n.id, bs fdK.nm⟩], T) := fieldS_same (noF_a i) h1
  unfold ownF
  simp only
  rw [hr, prop_a]
  have e : fieldF (shA mx).fs n.id [prK i] T = ([⟨4, n.id, bs fdK.nm⟩], T) := h2
  rw [e]
  rfl
theorem outO_s (m : Nat) : outO (rowT (m + 1)) = outS (outO (rowT m)) (tK m) := by
  unfold outO
  rw [rowT_s, List.foldl_append]
  rfl
theorem out_row : ∀ (m : Nat) (i : Int), (outO (rowT m) (⟨#[112]⟩, i)).getD 0 = if 1 ≤ i ∧ i ≤ m then 1 else 0
  | 0, i => by rw [if_neg (by omega)]; rfl
  | m + 1, i => by
    have ih := out_row m i
    have ih2 := out_row m ((m : Int) + 1)
    rw [if_neg (by omega)] at ih2
    rw [outO_s]
    show (upd (outO (rowT m)) (⟨#[112]⟩, (m : Int) + 1) ((outO (rowT m) (⟨#[112]⟩, (m : Int) + 1)).getD 0 + 1) (⟨#[112]⟩, i)).getD 0 = _
    rw [ih2]
    unfold upd
    by_cases h : i = (m : Int) + 1
    · subst h
      rw [if_pos rfl, if_pos (by omega)]
      rfl
    · rw [if_neg (by simpa using h), ih]
      by_cases h2 : 1 ≤ i ∧ i ≤ (m : Int)
      · rw [if_pos h2, if_pos (by omega)]
      · rw [if_neg h2, if_neg (by omega)]
theorem bond_row (m : Nat) (id mx : Int) : bondF [bdP mx] id (outO (rowT m)) = if mx = 0 ∧ 1 ≤ id ∧ id ≤ m then [⟨8, id, ⟨#[112]⟩⟩] else [] := by
  have hc : cnt (outO (rowT m)) id (bdP mx) = if 1 ≤ id ∧ id ≤ m then 1 else 0 := out_row m id
  show bondS id (outO (rowT m)) [] (bdP mx) = _
  have hmn : (bdP mx).mn = 0 := rfl
  have hmx : (bdP mx).mx = mx := rfl
  have h0 : ¬ cnt (outO (rowT m)) id (bdP mx) < (bdP mx).mn := by
    rw [hc, hmn]; split <;> omega
  by_cases h : mx = 0 ∧ 1 ≤ id ∧ id ≤ m
  · rw [if_pos h, bondS_many h0 (by rw [hmx]; omega) (by rw [hmx, hc, if_pos h.2]; omega)]
    rfl
  · rw [if_neg h, bondS_ok h0]
    rw [hmx, hc]
    by_cases h2 : 1 ≤ id ∧ id ≤ (m : Int)
    · rw [if_pos h2]; omega
    · rw [if_neg h2]; omega
/-- A row of nodes with these keys. -/
def RowP (N : List Nd) (κ : Nat → Int) : Prop := ∀ (j : Nat) (x : Nd), N[j]? = some x → x.id = (j : Int) + 1 ∧ x.kd = ⟨#[97]⟩ ∧ x.rc = [prK (κ j)]
theorem node_row {H : ByteArray → Option Sh} {mx : Int} (hH : H ⟨#[97]⟩ = some (shA mx)) {N : List Nd} {κ : Nat → Int} (hN : RowP N κ) (m : Nat) : ∀ k : Nat, k ≤ N.length → (∀ j, j < k → κ j = (j : Int) + 1) →
    ((N.take k).foldl (nodeS H (outO (rowT m))) ([], fun _ => none)).2 = takeN k ∧ ((N.take k).foldl (nodeS H (outO (rowT m))) ([], fun _ => none)).1.length = if mx = 0 then min k m else 0
  | 0, _, _ => by
    refine ⟨rfl, ?_⟩
    split <;> simp
  | k + 1, hk, hκ => by
    obtain ⟨x, hx⟩ : ∃ x, N[k]? = some x := ⟨N[k], by simp⟩
    obtain ⟨h1, h2, h3⟩ := hN k x hx
    obtain ⟨i1, i2⟩ := node_row hH hN m k (by omega) (fun j hj => hκ j (by omega))
    rw [foldl_take _ _ hx]
    rw [nodeS_eq, h2, hH, i1]
    rw [hκ k (by omega)] at h3
    rw [own_new mx h3 (takeN_new k _ (by omega)), h1]
    refine ⟨rfl, ?_⟩
    show (_ ++ _ ++ bondF [bdP mx] ((k : Int) + 1) (outO (rowT m))).length = _
    rw [bond_row, List.length_append, List.length_append, i2]
    by_cases hm0 : mx = 0
    · by_cases hkm : k < m
      · rw [if_pos hm0, if_pos ⟨hm0, by omega, by omega⟩, if_pos hm0]; simp; omega
      · rw [if_pos hm0, if_neg (by omega), if_pos hm0]; simp; omega
    · rw [if_neg hm0, if_neg (fun h => hm0 h.1), if_neg hm0]; rfl
theorem end_row {H : ByteArray → Option Sh} {mx : Int} (hH : H ⟨#[97]⟩ = some (shA mx)) {N : List Nd} {κ : Nat → Int} (hN : RowP N κ) : ∀ k : Nat, k ≤ N.length → ∀ i : Int, 1 ≤ i → i ≤ k → endO H (N.take k) i = some (shA mx)
  | 0, _, i, h1, h2 => by omega
  | k + 1, hk, i, h1, h2 => by
    obtain ⟨x, hx⟩ : ∃ x, N[k]? = some x := ⟨N[k], by simp⟩
    obtain ⟨g1, g2, _⟩ := hN k x hx
    rw [endO_take hx, g2, hH, g1]
    unfold upd
    split
    · rfl
    · rename_i hne
      exact end_row hH hN k (by omega) i h1 (by omega)
theorem tie_row {X : ByteArray → Option Bd} {E : En} {mx : Int} (hX : X ⟨#[112]⟩ = some (bdP mx)) : ∀ m : Nat, (∀ i : Int, 1 ≤ i → i ≤ (m : Int) + 1 → E i = some (shA mx)) → tieF X E (rowT m) = []
  | 0, _ => rfl
  | m + 1, hE => by
    have ih := tie_row hX m (fun i h1 h2 => hE i h1 (by omega))
    unfold tieF at ih ⊢
    rw [rowT_s, List.foldl_append, ih]
    have hb : badE E (tK m) (bdP mx) = false := by
      unfold badE
      have e1 : E (tK m).fr = some (shA mx) := hE _ (by show (1 : Int) ≤ (m : Int) + 1; omega) (by show (m : Int) + 1 ≤ ((m + 1 : Nat) : Int) + 1; omega)
      have e2 : E (tK m).tt = some (shA mx) := hE _ (by show (1 : Int) ≤ (m : Int) + 1 + 1; omega) (by show (m : Int) + 1 + 1 ≤ ((m + 1 : Nat) : Int) + 1; omega)
      rw [e1, e2]
      rfl
    exact tieS_ok (t := tK m) hX hb
/-- A row of its own keys. -/
theorem row_all {vo vf : Value} {mx : Int} {N : List Nd} (hN : RowP N (fun j => (j : Int) + 1)) {m : Nat} (hm : m + 1 ≤ N.length) : (allF [kdA vo vf] [bdP mx] N (rowT m)).length = if mx = 0 then m else 0 := by
  unfold allF
  have hH := shO_a vo vf mx
  have h1 := (node_row hH hN m N.length (Nat.le_refl _) (fun _ _ => rfl)).2
  rw [List.take_length] at h1
  have h2 := tie_row (E := endO (shO [kdA vo vf] [bdP mx] [kdA vo vf]) N) (bdO_p mx) m (fun i a b => by
    have := end_row hH hN N.length (Nat.le_refl _) i a (by omega)
    rwa [List.take_length] at this)
  rw [h2, List.append_nil]
  unfold nodeF
  rw [h1]
  split
  · omega
  · rfl
/-- The last one has another one's key. -/
theorem row_same {vo vf : Value} {N : List Nd} {κ : Nat → Int} (hN : RowP N κ) {n : Nat} (hn : N.length = n + 1) (hκ : ∀ j, j < n → κ j = (j : Int) + 1) (h1 : 1 ≤ κ n) (h2 : κ n ≤ n) : allF [kdA vo vf] [bdP (-1)] N (rowT n) = [⟨4, (n : Int) + 1, ⟨#[107]⟩⟩] := by
  unfold allF
  have hH := shO_a vo vf (-1)
  obtain ⟨i1, i2⟩ := node_row hH hN n n (by omega) hκ
  have h3 := tie_row (E := endO (shO [kdA vo vf] [bdP (-1)] [kdA vo vf]) N) (bdO_p (-1)) n (fun i a b => by
    have := end_row hH hN N.length (Nat.le_refl _) i a (by omega)
    rwa [List.take_length] at this)
  rw [h3, List.append_nil]
  obtain ⟨x, hx⟩ : ∃ x, N[n]? = some x := ⟨N[n], by simp⟩
  obtain ⟨g1, g2, g3⟩ := hN n x hx
  have hs := foldl_take (nodeS (shO [kdA vo vf] [bdP (-1)] [kdA vo vf]) (outO (rowT n))) ([], fun _ => none) hx
  rw [show n + 1 = N.length from hn.symm, List.take_length] at hs
  unfold nodeF
  rw [hs]
  have i3 := List.eq_nil_of_length_eq_zero (i2.trans (by simp))
  rw [nodeS_eq, g2, hH, i1, i3]
  have ho := own_old (-1) g3 (takeN_old n (κ n) h1 h2) (by omega)
  show [] ++ (ownF (some (shA (-1))) x (takeN n)).1 ++ bondF [bdP (-1)] x.id (outO (rowT n)) = _
  rw [ho, bond_row, if_neg (by omega), g1]
  rfl
end Go.Proofs.YtjnjbajnmclmjaaGreatDoor
