/-
  way.node, of a node that goes.
-/
import Derived.Test.YtpmblbhemcippaaGreatDoorM18
namespace Go.Proofs.YtpmblbhemcippaaGreatDoor
open Go.RowKit
set_option linter.unusedVariables false
set_option linter.unusedSimpArgs false

set_option maxHeartbeats 4000000 in
set_option maxRecDepth 100000 in
theorem wnode_no40 {w : World} (c : Ch) {uk ub ks fn : Value} (pa pb : Nat) (dr : ByteArray) {K : List Nm} (n : Nd) (hks : IsS w ks K) (hKl : K.length ≤ 1000) (hR : IsR w n.rv n.rc) (hr : rErr n.rc = 0) (hu : ∃ a l c', uk = .slice a l c') (hub : ∃ a l c', ub = .slice a l c') (hg : goes K n = true) (hfn : fn = .func (.func 52) #[] #[.pointer (some ⟨pa, 0, none⟩), .pointer (some ⟨pb, 0, none⟩)]) {z : Int} {M : List Pr}
    (hturn : ∀ W v, Below (w.heap.size) w W → w.heap.size + 3 ≤ W.heap.size → OwnRc W (w.heap.size + 3) v n.rc → Calls Tryz.prog 52 #[v, .pointer (some ⟨pa, 0, none⟩), .pointer (some ⟨pb, 0, none⟩)] W (TnP (w.heap.size + 3) W z M)) (hzz : ¬ z = 0) :
    Calls Tryz.prog 62 #[.agg #[uk, ub, ks, fn, .string dr], n.one] w (NdP w n.id n.kd z M) := by
  obtain ⟨u1, u2, u3, rfl⟩ := hu
  obtain ⟨b1, b2, b3, rfl⟩ := hub
  obtain ⟨k1, k2, k3, rfl⟩ := hks.sl
  subst hfn
  obtain ⟨id, kd, rv, rc⟩ := n
  simp only at hR hr
  obtain ⟨hsrt, h8⟩ := (rErr_srt rc).1 hr
  obtain ⟨av, lv, cv, hv⟩ := hR.sl
  subst hv
  obtain ⟨W0, hW0⟩ : ∃ W0, W0 = ((w.alloc (.cells #[.slice u1 u2 u3, .slice b1 b2 b3, .slice k1 k2 k3, .func (.func 52) #[] #[.pointer (some ⟨pa, 0, none⟩), .pointer (some ⟨pb, 0, none⟩)], .string dr] 81)).alloc (.cells #[.int .i64 id, .string kd, .slice av lv cv] 57)).alloc (.cells #[.int .i64 0, .string ⟨#[]⟩, .slice none 0 0] 57) := ⟨_, rfl⟩
  have hB0 : Below w.heap.size w W0 := by rw [hW0]; exact b_alloc (b_alloc (b_alloc (Below.refl _ _) _) _) _
  have hz : W0.heap.size = w.heap.size + 3 := by rw [hW0]; simp
  have n0 : W0.heap[w.heap.size]? = some (.cells #[.slice u1 u2 u3, .slice b1 b2 b3, .slice k1 k2 k3, .func (.func 52) #[] #[.pointer (some ⟨pa, 0, none⟩), .pointer (some ⟨pb, 0, none⟩)], .string dr] 81 (0, 0)) := by rw [hW0]; exact (heap_alloc_old _ _ (by simp; omega)).trans ((heap_alloc_old _ _ (by simp)).trans (heap_alloc_new w _))
  have n1 : W0.heap[w.heap.size + 1]? = some (.cells #[.int .i64 id, .string kd, .slice av lv cv] 57 (0, 0)) := by
    have := heap_alloc_new (w.alloc (.cells #[.slice u1 u2 u3, .slice b1 b2 b3, .slice k1 k2 k3, .func (.func 52) #[] #[.pointer (some ⟨pa, 0, none⟩), .pointer (some ⟨pb, 0, none⟩)], .string dr] 81)) (.cells #[.int .i64 id, .string kd, .slice av lv cv] 57)
    rw [World.size_alloc] at this; rw [hW0]; exact (heap_alloc_old _ _ (by simp)).trans this
  have n2 : W0.heap[w.heap.size + 2]? = some (.cells #[.int .i64 0, .string ⟨#[]⟩, .slice none 0 0] 57 (0, 0)) := by
    have := heap_alloc_new ((w.alloc (.cells #[.slice u1 u2 u3, .slice b1 b2 b3, .slice k1 k2 k3, .func (.func 52) #[] #[.pointer (some ⟨pa, 0, none⟩), .pointer (some ⟨pb, 0, none⟩)], .string dr] 81)).alloc (.cells #[.int .i64 id, .string kd, .slice av lv cv] 57)) (.cells #[.int .i64 0, .string ⟨#[]⟩, .slice none 0 0] 57)
    rw [World.size_alloc, World.size_alloc] at this; rw [hW0]; exact this
  have c1 := copiedNode_any ⟨id, kd, .slice av lv cv, rc⟩ W0 (hR.on hB0) (by simp only; omega)
  have a0 : W0.cell? ⟨w.heap.size + 1, 0, none⟩ = some (.int .i64 id) := cell_at n1 rfl
  have a1 : W0.cell? ⟨w.heap.size + 1, 1, none⟩ = some (.string kd) := cell_at n1 rfl
  have a2 : W0.cell? ⟨w.heap.size + 1, 2, none⟩ = some (.slice av lv cv) := cell_at n1 rfl
  have HN : Hid (∀ W1 v2, OwnRc W1 W0.heap.size v2 rc → Below W0.heap.size W0 W1 → (W1.cell? ⟨w.heap.size + 1, 0, none⟩ = some (.int .i64 id) ∧ W1.cell? ⟨w.heap.size + 1, 1, none⟩ = some (.string kd) ∧ W1.cell? ⟨w.heap.size + 1, 2, none⟩ = some (.slice av lv cv)) ∧ (W1.frozen? ⟨w.heap.size + 1, 0, none⟩ = false ∧ W1.frozen? ⟨w.heap.size + 1, 1, none⟩ = false ∧ W1.frozen? ⟨w.heap.size + 1, 2, none⟩ = false) ∧ ∀ WA, WA = ((W1.setCell ⟨w.heap.size + 1, 0, none⟩ (.int .i64 id)).setCell ⟨w.heap.size + 1, 1, none⟩ (.string kd)).setCell ⟨w.heap.size + 1, 2, none⟩ v2 → WA.heap[w.heap.size]? = some (.cells #[.slice u1 u2 u3, .slice b1 b2 b3, .slice k1 k2 k3, .func (.func 52) #[] #[.pointer (some ⟨pa, 0, none⟩), .pointer (some ⟨pb, 0, none⟩)], .string dr] 81 (0, 0)) ∧ WA.heap[w.heap.size + 1]? = some (.cells #[.int .i64 id, .string kd, v2] 57 (0, 0)) ∧ WA.heap[w.heap.size + 2]? = some (.cells #[.int .i64 0, .string ⟨#[]⟩, .slice none 0 0] 57 (0, 0)) ∧ OwnRc WA (w.heap.size + 3) v2 rc ∧ Below w.heap.size w WA ∧ w.heap.size + 3 ≤ WA.heap.size) := fun W1 v2 ho hB => by
    have x0 := (hB.block _ (Array.getElem?_eq_some_iff.1 n0).1).trans n0
    have x1 := (hB.block _ (Array.getElem?_eq_some_iff.1 n1).1).trans n1
    have x2 := (hB.block _ (Array.getElem?_eq_some_iff.1 n2).1).trans n2
    refine ⟨⟨cell_at x1 rfl, cell_at x1 rfl, cell_at x1 rfl⟩, ⟨frz_at x1, frz_at x1, frz_at x1⟩, fun WA hWA => ?_⟩
    have y : ∀ b, b ≠ w.heap.size + 1 → WA.heap[b]? = W1.heap[b]? := fun b hb => by
      rw [hWA]; exact (heap_setCell_other _ ⟨w.heap.size + 1, 2, none⟩ b _ hb).trans ((heap_setCell_other _ ⟨w.heap.size + 1, 1, none⟩ b _ hb).trans (heap_setCell_other _ ⟨w.heap.size + 1, 0, none⟩ b _ hb))
    have y1 : WA.heap[w.heap.size + 1]? = some (.cells #[.int .i64 id, .string kd, v2] 57 (0, 0)) := by rw [hWA]; exact heap_setCell_same _ _ 2 _ 57 _ (heap_setCell_same _ _ 1 _ 57 _ (heap_setCell_same W1 _ 0 _ 57 _ x1))
    refine ⟨(y _ (by omega)).trans x0, y1, (y _ (by omega)).trans x2, ?_, ?_, ?_⟩
    · rw [hWA]; rw [hz] at ho; exact OwnRc.kt ho ((Kt.refl _ _).ty3 ⟨_, x1⟩ (by decide) _ _ _ _ _ _)
    · rw [hWA]; exact below_set3 (on1K hB0 hB (Nat.le_refl _)) (by omega) _ _ _ _ _ _
    · rw [hWA]; simp; have := hB.size; omega
  have HE : Hid (∀ W' v' M, W'.heap[w.heap.size + 1]? = some (.cells #[.int .i64 id, .string kd, v'] 57 (0, 0)) → W'.heap[w.heap.size + 2]? = some (.cells #[.int .i64 0, .string ⟨#[]⟩, .slice none 0 0] 57 (0, 0)) → OwnRc W' (w.heap.size + 3) v' M → Below w.heap.size w W' → ((W'.cell? ⟨w.heap.size + 1, 0, none⟩ = some (.int .i64 id) ∧ W'.cell? ⟨w.heap.size + 1, 1, none⟩ = some (.string kd) ∧ W'.cell? ⟨w.heap.size + 1, 2, none⟩ = some v') ∧ (W'.cell? ⟨w.heap.size + 2, 0, none⟩ = some (.int .i64 0) ∧ W'.cell? ⟨w.heap.size + 2, 1, none⟩ = some (.string ⟨#[]⟩) ∧ W'.cell? ⟨w.heap.size + 2, 2, none⟩ = some (.slice none 0 0)) ∧ (W'.frozen? ⟨w.heap.size + 2, 0, none⟩ = false ∧ W'.frozen? ⟨w.heap.size + 2, 1, none⟩ = false ∧ W'.frozen? ⟨w.heap.size + 2, 2, none⟩ = false)) ∧ ∀ WB, WB = ((W'.setCell ⟨w.heap.size + 2, 0, none⟩ (.int .i64 id)).setCell ⟨w.heap.size + 2, 1, none⟩ (.string kd)).setCell ⟨w.heap.size + 2, 2, none⟩ v' → (WB.cell? ⟨w.heap.size + 2, 0, none⟩ = some (.int .i64 id) ∧ WB.cell? ⟨w.heap.size + 2, 1, none⟩ = some (.string kd) ∧ WB.cell? ⟨w.heap.size + 2, 2, none⟩ = some v') ∧ OwnRc WB w.heap.size v' M ∧ Below w.heap.size w WB) := fun W' v' M x1 x2 ho hB => by
    refine ⟨⟨⟨cell_at x1 rfl, cell_at x1 rfl, cell_at x1 rfl⟩, ⟨cell_at x2 rfl, cell_at x2 rfl, cell_at x2 rfl⟩, frz_at x2, frz_at x2, frz_at x2⟩, fun WB hWB => ?_⟩
    have y2 : WB.heap[w.heap.size + 2]? = some (.cells #[.int .i64 id, .string kd, v'] 57 (0, 0)) := by rw [hWB]; exact heap_setCell_same _ _ 2 _ 57 _ (heap_setCell_same _ _ 1 _ 57 _ (heap_setCell_same W' _ 0 _ 57 _ x2))
    refine ⟨⟨cell_at y2 rfl, cell_at y2 rfl, cell_at y2 rfl⟩, ?_, ?_⟩
    · rw [hWB]; exact own_base (OwnRc.kt ho ((Kt.refl _ _).ty3 ⟨_, x2⟩ (by decide) _ _ _ _ _ _)) (by omega)
    · rw [hWB]; exact below_set3 hB (by omega) _ _ _ _ _ _
  have cK : ∀ W, Below w.heap.size w W → Calls Tryz.prog 96 #[.slice k1 k2 k3, .string kd] W fun e w' => e = .returned (.bool true) ∧ w' = W := fun W hB => by
    have := contains_any (hks.on hB) hKl kd.toList
    rw [bs_self] at this
    have e : hasN K kd.toList = true := hg
    rwa [e] at this
  have HT := Lib.hid hturn
  clear hR hr hsrt h8 hks hg n0 n1 n2 hz hB0 hturn
  go_enter Tryz.func62, Tryz.ntmps62
  go_upto_region 1 with fail
  rw [← hW0]
  clear hW0
  go_upto_region 2 with (go_at_call 39; refine c1.mono ?_; rintro e W1 ⟨v2, rfl, ho2, hB2⟩; obtain ⟨⟨e0, e1, e2⟩, ⟨f0, f1, f2⟩, hA⟩ := HN.out W1 v2 ho2 hB2; obtain ⟨a2', l2', c2', rfl⟩ := OwnRc.sl ho2; have HA := Lib.hid hA; clear hA ho2 hB2)
  obtain ⟨WA, hWA⟩ : ∃ WA, WA = ((W1.setCell ⟨w.heap.size + 1, 0, none⟩ (.int .i64 id)).setCell ⟨w.heap.size + 1, 1, none⟩ (.string kd)).setCell ⟨w.heap.size + 1, 2, none⟩ (.slice a2' l2' c2') := ⟨_, rfl⟩
  obtain ⟨x0, x1, x2, ho, hB, hsz⟩ := HA.out WA hWA
  rw [← hWA]
  clear hWA HA e0 e1 e2 f0 f1 f2 HN
  have cKA := cK WA hB
  have cT := HT.out WA _ hB hsz ho
  have m2 : WA.cell? ⟨w.heap.size, 2, none⟩ = some (.slice k1 k2 k3) := cell_at x0 rfl
  have m3 : WA.cell? ⟨w.heap.size, 3, none⟩ = some (.func (.func 52) #[] #[.pointer (some ⟨pa, 0, none⟩), .pointer (some ⟨pb, 0, none⟩)]) := cell_at x0 rfl
  have p1 : WA.cell? ⟨w.heap.size + 1, 1, none⟩ = some (.string kd) := cell_at x1 rfl
  have p2 : WA.cell? ⟨w.heap.size + 1, 2, none⟩ = some (.slice a2' l2' c2') := cell_at x1 rfl
  have HX : Hid (∀ W2, Below (w.heap.size + 3) WA W2 → W2.heap[w.heap.size + 1]? = some (.cells #[.int .i64 id, .string kd, .slice a2' l2' c2'] 57 (0, 0)) ∧ W2.heap[w.heap.size + 2]? = some (.cells #[.int .i64 0, .string ⟨#[]⟩, .slice none 0 0] 57 (0, 0)) ∧ Below w.heap.size w W2) := fun W2 h2 => ⟨(h2.block _ (by omega)).trans x1, (h2.block _ (by omega)).trans x2, hB.trans (h2.mono (by omega))⟩
  clear x0 x1 x2 ho hB cK a0 a1 a2 c1 HT hsz
  unfold TnP at cT
  rw [errV_ne hzz] at cT
  go_wp2_with (first | (go_at_call 52; refine cT.mono ?_; rintro e W2 ⟨a3, l3, c3, rfl, ho3, hB3⟩; refine Hid.out ?_) | (go_at_call 96; refine cKA.mono ?_; rintro e w' ⟨rfl, rfl⟩))
  refine Lib.hid ?_
  obtain ⟨x1, x2, hB⟩ := HX.out W2 hB3
  have s0 : W2.cell? ⟨w.heap.size + 2, 0, none⟩ = some (.int .i64 0) := cell_at x2 rfl
  have s1 : W2.cell? ⟨w.heap.size + 2, 1, none⟩ = some (.string ⟨#[]⟩) := cell_at x2 rfl
  have s2 : W2.cell? ⟨w.heap.size + 2, 2, none⟩ = some (.slice none 0 0) := cell_at x2 rfl
  have r0 : W2.frozen? ⟨w.heap.size + 2, 0, none⟩ = false := frz_at x2
  have r1 : W2.frozen? ⟨w.heap.size + 2, 1, none⟩ = false := frz_at x2
  have r2 : W2.frozen? ⟨w.heap.size + 2, 2, none⟩ = false := frz_at x2
  have HZ : Hid (∀ WB, WB = ((W2.setCell ⟨w.heap.size + 2, 0, none⟩ (.int .i64 0)).setCell ⟨w.heap.size + 2, 1, none⟩ (.string ⟨#[]⟩)).setCell ⟨w.heap.size + 2, 2, none⟩ (.slice none 0 0) → (WB.cell? ⟨w.heap.size + 2, 0, none⟩ = some (.int .i64 0) ∧ WB.cell? ⟨w.heap.size + 2, 1, none⟩ = some (.string ⟨#[]⟩) ∧ WB.cell? ⟨w.heap.size + 2, 2, none⟩ = some (.slice none 0 0)) ∧ Below w.heap.size w WB) := fun WB hWB => by
    have y2 : WB.heap[w.heap.size + 2]? = some (.cells #[.int .i64 0, .string ⟨#[]⟩, .slice none 0 0] 57 (0, 0)) := by rw [hWB]; exact heap_setCell_same _ _ 2 _ 57 _ (heap_setCell_same _ _ 1 _ 57 _ (heap_setCell_same W2 _ 0 _ 57 _ x2))
    refine ⟨⟨cell_at y2 rfl, cell_at y2 rfl, cell_at y2 rfl⟩, ?_⟩
    rw [hWB]; exact below_set3 hB (by omega) _ _ _ _ _ _
  clear HE x1 x2 hB ho3 hB3 HX cT cKA m2 m3 p1 p2
  go_wp2
  obtain ⟨⟨z0, z1, z2⟩, z4⟩ := HZ.out _ rfl
  refine bodyPost_ret (v := .tuple #[.agg #[.int .i64 0, .string ⟨#[]⟩, .slice none 0 0], .iface 71 (.int .i64 z)]) ?_ rfl ⟨.slice none 0 0, fun h => absurd h hzz, fun h => by rw [errV_ne hzz], z4⟩
  simp [results, Tryz.results62, go_sem, z0, z1, z2]
set_option maxHeartbeats 4000000 in
set_option maxRecDepth 100000 in
theorem wnode_go42 {w : World} (c : Ch) {uk ub ks fn : Value} (pa : Nat) (dr : ByteArray) {K : List Nm} (n : Nd) (hks : IsS w ks K) (hKl : K.length ≤ 1000) (hR : IsR w n.rv n.rc) (hr : rErr n.rc = 0) (hu : ∃ a l c', uk = .slice a l c') (hub : ∃ a l c', ub = .slice a l c') (hg : goes K n = true) (hfn : fn = .func (.func 54) #[] #[.pointer (some ⟨pa, 0, none⟩)]) {z : Int} {M : List Pr}
    (hturn : ∀ W v, Below (w.heap.size) w W → w.heap.size + 3 ≤ W.heap.size → OwnRc W (w.heap.size + 3) v n.rc → Calls Tryz.prog 54 #[v, .pointer (some ⟨pa, 0, none⟩)] W (TnP (w.heap.size + 3) W z M)) (hzz : z = 0) :
    Calls Tryz.prog 62 #[.agg #[uk, ub, ks, fn, .string dr], n.one] w (NdP w n.id n.kd z M) := by
  obtain ⟨u1, u2, u3, rfl⟩ := hu
  obtain ⟨b1, b2, b3, rfl⟩ := hub
  obtain ⟨k1, k2, k3, rfl⟩ := hks.sl
  subst hfn
  obtain ⟨id, kd, rv, rc⟩ := n
  simp only at hR hr
  obtain ⟨hsrt, h8⟩ := (rErr_srt rc).1 hr
  obtain ⟨av, lv, cv, hv⟩ := hR.sl
  subst hv
  obtain ⟨W0, hW0⟩ : ∃ W0, W0 = ((w.alloc (.cells #[.slice u1 u2 u3, .slice b1 b2 b3, .slice k1 k2 k3, .func (.func 54) #[] #[.pointer (some ⟨pa, 0, none⟩)], .string dr] 81)).alloc (.cells #[.int .i64 id, .string kd, .slice av lv cv] 57)).alloc (.cells #[.int .i64 0, .string ⟨#[]⟩, .slice none 0 0] 57) := ⟨_, rfl⟩
  have hB0 : Below w.heap.size w W0 := by rw [hW0]; exact b_alloc (b_alloc (b_alloc (Below.refl _ _) _) _) _
  have hz : W0.heap.size = w.heap.size + 3 := by rw [hW0]; simp
  have n0 : W0.heap[w.heap.size]? = some (.cells #[.slice u1 u2 u3, .slice b1 b2 b3, .slice k1 k2 k3, .func (.func 54) #[] #[.pointer (some ⟨pa, 0, none⟩)], .string dr] 81 (0, 0)) := by rw [hW0]; exact (heap_alloc_old _ _ (by simp; omega)).trans ((heap_alloc_old _ _ (by simp)).trans (heap_alloc_new w _))
  have n1 : W0.heap[w.heap.size + 1]? = some (.cells #[.int .i64 id, .string kd, .slice av lv cv] 57 (0, 0)) := by
    have := heap_alloc_new (w.alloc (.cells #[.slice u1 u2 u3, .slice b1 b2 b3, .slice k1 k2 k3, .func (.func 54) #[] #[.pointer (some ⟨pa, 0, none⟩)], .string dr] 81)) (.cells #[.int .i64 id, .string kd, .slice av lv cv] 57)
    rw [World.size_alloc] at this; rw [hW0]; exact (heap_alloc_old _ _ (by simp)).trans this
  have n2 : W0.heap[w.heap.size + 2]? = some (.cells #[.int .i64 0, .string ⟨#[]⟩, .slice none 0 0] 57 (0, 0)) := by
    have := heap_alloc_new ((w.alloc (.cells #[.slice u1 u2 u3, .slice b1 b2 b3, .slice k1 k2 k3, .func (.func 54) #[] #[.pointer (some ⟨pa, 0, none⟩)], .string dr] 81)).alloc (.cells #[.int .i64 id, .string kd, .slice av lv cv] 57)) (.cells #[.int .i64 0, .string ⟨#[]⟩, .slice none 0 0] 57)
    rw [World.size_alloc, World.size_alloc] at this; rw [hW0]; exact this
  have c1 := copiedNode_any ⟨id, kd, .slice av lv cv, rc⟩ W0 (hR.on hB0) (by simp only; omega)
  have a0 : W0.cell? ⟨w.heap.size + 1, 0, none⟩ = some (.int .i64 id) := cell_at n1 rfl
  have a1 : W0.cell? ⟨w.heap.size + 1, 1, none⟩ = some (.string kd) := cell_at n1 rfl
  have a2 : W0.cell? ⟨w.heap.size + 1, 2, none⟩ = some (.slice av lv cv) := cell_at n1 rfl
  have HN : Hid (∀ W1 v2, OwnRc W1 W0.heap.size v2 rc → Below W0.heap.size W0 W1 → (W1.cell? ⟨w.heap.size + 1, 0, none⟩ = some (.int .i64 id) ∧ W1.cell? ⟨w.heap.size + 1, 1, none⟩ = some (.string kd) ∧ W1.cell? ⟨w.heap.size + 1, 2, none⟩ = some (.slice av lv cv)) ∧ (W1.frozen? ⟨w.heap.size + 1, 0, none⟩ = false ∧ W1.frozen? ⟨w.heap.size + 1, 1, none⟩ = false ∧ W1.frozen? ⟨w.heap.size + 1, 2, none⟩ = false) ∧ ∀ WA, WA = ((W1.setCell ⟨w.heap.size + 1, 0, none⟩ (.int .i64 id)).setCell ⟨w.heap.size + 1, 1, none⟩ (.string kd)).setCell ⟨w.heap.size + 1, 2, none⟩ v2 → WA.heap[w.heap.size]? = some (.cells #[.slice u1 u2 u3, .slice b1 b2 b3, .slice k1 k2 k3, .func (.func 54) #[] #[.pointer (some ⟨pa, 0, none⟩)], .string dr] 81 (0, 0)) ∧ WA.heap[w.heap.size + 1]? = some (.cells #[.int .i64 id, .string kd, v2] 57 (0, 0)) ∧ WA.heap[w.heap.size + 2]? = some (.cells #[.int .i64 0, .string ⟨#[]⟩, .slice none 0 0] 57 (0, 0)) ∧ OwnRc WA (w.heap.size + 3) v2 rc ∧ Below w.heap.size w WA ∧ w.heap.size + 3 ≤ WA.heap.size) := fun W1 v2 ho hB => by
    have x0 := (hB.block _ (Array.getElem?_eq_some_iff.1 n0).1).trans n0
    have x1 := (hB.block _ (Array.getElem?_eq_some_iff.1 n1).1).trans n1
    have x2 := (hB.block _ (Array.getElem?_eq_some_iff.1 n2).1).trans n2
    refine ⟨⟨cell_at x1 rfl, cell_at x1 rfl, cell_at x1 rfl⟩, ⟨frz_at x1, frz_at x1, frz_at x1⟩, fun WA hWA => ?_⟩
    have y : ∀ b, b ≠ w.heap.size + 1 → WA.heap[b]? = W1.heap[b]? := fun b hb => by
      rw [hWA]; exact (heap_setCell_other _ ⟨w.heap.size + 1, 2, none⟩ b _ hb).trans ((heap_setCell_other _ ⟨w.heap.size + 1, 1, none⟩ b _ hb).trans (heap_setCell_other _ ⟨w.heap.size + 1, 0, none⟩ b _ hb))
    have y1 : WA.heap[w.heap.size + 1]? = some (.cells #[.int .i64 id, .string kd, v2] 57 (0, 0)) := by rw [hWA]; exact heap_setCell_same _ _ 2 _ 57 _ (heap_setCell_same _ _ 1 _ 57 _ (heap_setCell_same W1 _ 0 _ 57 _ x1))
    refine ⟨(y _ (by omega)).trans x0, y1, (y _ (by omega)).trans x2, ?_, ?_, ?_⟩
    · rw [hWA]; rw [hz] at ho; exact OwnRc.kt ho ((Kt.refl _ _).ty3 ⟨_, x1⟩ (by decide) _ _ _ _ _ _)
    · rw [hWA]; exact below_set3 (on1K hB0 hB (Nat.le_refl _)) (by omega) _ _ _ _ _ _
    · rw [hWA]; simp; have := hB.size; omega
  have HE : Hid (∀ W' v' M, W'.heap[w.heap.size + 1]? = some (.cells #[.int .i64 id, .string kd, v'] 57 (0, 0)) → W'.heap[w.heap.size + 2]? = some (.cells #[.int .i64 0, .string ⟨#[]⟩, .slice none 0 0] 57 (0, 0)) → OwnRc W' (w.heap.size + 3) v' M → Below w.heap.size w W' → ((W'.cell? ⟨w.heap.size + 1, 0, none⟩ = some (.int .i64 id) ∧ W'.cell? ⟨w.heap.size + 1, 1, none⟩ = some (.string kd) ∧ W'.cell? ⟨w.heap.size + 1, 2, none⟩ = some v') ∧ (W'.cell? ⟨w.heap.size + 2, 0, none⟩ = some (.int .i64 0) ∧ W'.cell? ⟨w.heap.size + 2, 1, none⟩ = some (.string ⟨#[]⟩) ∧ W'.cell? ⟨w.heap.size + 2, 2, none⟩ = some (.slice none 0 0)) ∧ (W'.frozen? ⟨w.heap.size + 2, 0, none⟩ = false ∧ W'.frozen? ⟨w.heap.size + 2, 1, none⟩ = false ∧ W'.frozen? ⟨w.heap.size + 2, 2, none⟩ = false)) ∧ ∀ WB, WB = ((W'.setCell ⟨w.heap.size + 2, 0, none⟩ (.int .i64 id)).setCell ⟨w.heap.size + 2, 1, none⟩ (.string kd)).setCell ⟨w.heap.size + 2, 2, none⟩ v' → (WB.cell? ⟨w.heap.size + 2, 0, none⟩ = some (.int .i64 id) ∧ WB.cell? ⟨w.heap.size + 2, 1, none⟩ = some (.string kd) ∧ WB.cell? ⟨w.heap.size + 2, 2, none⟩ = some v') ∧ OwnRc WB w.heap.size v' M ∧ Below w.heap.size w WB) := fun W' v' M x1 x2 ho hB => by
    refine ⟨⟨⟨cell_at x1 rfl, cell_at x1 rfl, cell_at x1 rfl⟩, ⟨cell_at x2 rfl, cell_at x2 rfl, cell_at x2 rfl⟩, frz_at x2, frz_at x2, frz_at x2⟩, fun WB hWB => ?_⟩
    have y2 : WB.heap[w.heap.size + 2]? = some (.cells #[.int .i64 id, .string kd, v'] 57 (0, 0)) := by rw [hWB]; exact heap_setCell_same _ _ 2 _ 57 _ (heap_setCell_same _ _ 1 _ 57 _ (heap_setCell_same W' _ 0 _ 57 _ x2))
    refine ⟨⟨cell_at y2 rfl, cell_at y2 rfl, cell_at y2 rfl⟩, ?_, ?_⟩
    · rw [hWB]; exact own_base (OwnRc.kt ho ((Kt.refl _ _).ty3 ⟨_, x2⟩ (by decide) _ _ _ _ _ _)) (by omega)
    · rw [hWB]; exact below_set3 hB (by omega) _ _ _ _ _ _
  have cK : ∀ W, Below w.heap.size w W → Calls Tryz.prog 96 #[.slice k1 k2 k3, .string kd] W fun e w' => e = .returned (.bool true) ∧ w' = W := fun W hB => by
    have := contains_any (hks.on hB) hKl kd.toList
    rw [bs_self] at this
    have e : hasN K kd.toList = true := hg
    rwa [e] at this
  have HT := Lib.hid hturn
  clear hR hr hsrt h8 hks hg n0 n1 n2 hz hB0 hturn
  go_enter Tryz.func62, Tryz.ntmps62
  go_upto_region 1 with fail
  rw [← hW0]
  clear hW0
  go_upto_region 2 with (go_at_call 39; refine c1.mono ?_; rintro e W1 ⟨v2, rfl, ho2, hB2⟩; obtain ⟨⟨e0, e1, e2⟩, ⟨f0, f1, f2⟩, hA⟩ := HN.out W1 v2 ho2 hB2; obtain ⟨a2', l2', c2', rfl⟩ := OwnRc.sl ho2; have HA := Lib.hid hA; clear hA ho2 hB2)
  obtain ⟨WA, hWA⟩ : ∃ WA, WA = ((W1.setCell ⟨w.heap.size + 1, 0, none⟩ (.int .i64 id)).setCell ⟨w.heap.size + 1, 1, none⟩ (.string kd)).setCell ⟨w.heap.size + 1, 2, none⟩ (.slice a2' l2' c2') := ⟨_, rfl⟩
  obtain ⟨x0, x1, x2, ho, hB, hsz⟩ := HA.out WA hWA
  rw [← hWA]
  clear hWA HA e0 e1 e2 f0 f1 f2 HN
  have cKA := cK WA hB
  have cT := HT.out WA _ hB hsz ho
  have m2 : WA.cell? ⟨w.heap.size, 2, none⟩ = some (.slice k1 k2 k3) := cell_at x0 rfl
  have m3 : WA.cell? ⟨w.heap.size, 3, none⟩ = some (.func (.func 54) #[] #[.pointer (some ⟨pa, 0, none⟩)]) := cell_at x0 rfl
  have p1 : WA.cell? ⟨w.heap.size + 1, 1, none⟩ = some (.string kd) := cell_at x1 rfl
  have p2 : WA.cell? ⟨w.heap.size + 1, 2, none⟩ = some (.slice a2' l2' c2') := cell_at x1 rfl
  have HX : Hid (∀ W2, Below (w.heap.size + 3) WA W2 → W2.heap[w.heap.size + 1]? = some (.cells #[.int .i64 id, .string kd, .slice a2' l2' c2'] 57 (0, 0)) ∧ W2.heap[w.heap.size + 2]? = some (.cells #[.int .i64 0, .string ⟨#[]⟩, .slice none 0 0] 57 (0, 0)) ∧ Below w.heap.size w W2) := fun W2 h2 => ⟨(h2.block _ (by omega)).trans x1, (h2.block _ (by omega)).trans x2, hB.trans (h2.mono (by omega))⟩
  clear x0 x1 x2 ho hB cK a0 a1 a2 c1 HT hsz
  unfold TnP at cT
  subst hzz
  go_wp2_with (first | (go_at_call 54; refine cT.mono ?_; rintro e W2 ⟨a3, l3, c3, rfl, ho3, hB3⟩; rw [errV_0]; refine Hid.out ?_) | (go_at_call 96; refine cKA.mono ?_; rintro e w' ⟨rfl, rfl⟩))
  refine Lib.hid ?_
  obtain ⟨x1, x2, hB⟩ := HX.out W2 hB3
  have y1 : (W2.setCell ⟨w.heap.size + 1, 2, none⟩ (.slice a3 l3 c3)).heap[w.heap.size + 1]? = some (.cells #[.int .i64 id, .string kd, .slice a3 l3 c3] 57 (0, 0)) := heap_setCell_same W2 _ 2 _ 57 _ x1
  have y2 : (W2.setCell ⟨w.heap.size + 1, 2, none⟩ (.slice a3 l3 c3)).heap[w.heap.size + 2]? = some (.cells #[.int .i64 0, .string ⟨#[]⟩, .slice none 0 0] 57 (0, 0)) := (heap_setCell_other W2 ⟨w.heap.size + 1, 2, none⟩ _ _ (by simp)).trans x2
  have w2 : W2.cell? ⟨w.heap.size + 1, 2, none⟩ = some (.slice a2' l2' c2') := cell_at x1 rfl
  have g2 : W2.frozen? ⟨w.heap.size + 1, 2, none⟩ = false := frz_at x1
  obtain ⟨⟨⟨q0, q1, q2⟩, ⟨s0, s1, s2⟩, r0, r1, r2⟩, hE⟩ := HE.out _ _ M y1 y2 (OwnRc.kt (ho3 (by simp)) ((Kt.refl _ _).ty ⟨_, x1⟩ (by decide) _ _)) (hB.setCell (by show _ ≤ w.heap.size + 1; omega) _)
  obtain ⟨WC, hWC⟩ : ∃ WC, WC = W2.setCell ⟨w.heap.size + 1, 2, none⟩ (.slice a3 l3 c3) := ⟨_, rfl⟩
  rw [← hWC] at hE q0 q1 q2 s0 s1 s2 r0 r1 r2
  have HE2 := Lib.hid hE
  clear hE HE x1 x2 hB y1 y2 ho3 hB3 HX cT cKA m2 m3 p1 p2
  go_upto_region 8 with fail
  rw [← hWC]
  clear hWC
  go_wp2
  obtain ⟨⟨z0, z1, z2⟩, z3, z4⟩ := HE2.out _ rfl
  refine bodyPost_ret (v := .tuple #[.agg #[.int .i64 id, .string kd, .slice a3 l3 c3], .nilIface]) ?_ rfl ⟨_, fun _ => ⟨rfl, z3⟩, fun h => absurd rfl h, z4⟩
  simp [results, Tryz.results62, go_sem, z0, z1, z2]
end Go.Proofs.YtpmblbhemcippaaGreatDoor

/-
  way.node, of a node that goes.
-/
namespace Go.Proofs.YtpmblbhemcippaaGreatDoor
open Go.RowKit
set_option linter.unusedVariables false
set_option linter.unusedSimpArgs false

set_option maxHeartbeats 4000000 in
set_option maxRecDepth 100000 in
theorem wnode_go44 {w : World} (c : Ch) {uk ub ks fn : Value} (pa pb : Nat) (dr : ByteArray) {K : List Nm} (n : Nd) (hks : IsS w ks K) (hKl : K.length ≤ 1000) (hR : IsR w n.rv n.rc) (hr : rErr n.rc = 0) (hu : ∃ a l c', uk = .slice a l c') (hub : ∃ a l c', ub = .slice a l c') (hg : goes K n = true) (hfn : fn = .func (.func 56) #[] #[.pointer (some ⟨pa, 0, none⟩), .pointer (some ⟨pb, 0, none⟩)]) {z : Int} {M : List Pr}
    (hturn : ∀ W v, Below (w.heap.size) w W → w.heap.size + 3 ≤ W.heap.size → OwnRc W (w.heap.size + 3) v n.rc → Calls Tryz.prog 56 #[v, .pointer (some ⟨pa, 0, none⟩), .pointer (some ⟨pb, 0, none⟩)] W (TnP (w.heap.size + 3) W z M)) (hzz : z = 0) :
    Calls Tryz.prog 62 #[.agg #[uk, ub, ks, fn, .string dr], n.one] w (NdP w n.id n.kd z M) := by
  obtain ⟨u1, u2, u3, rfl⟩ := hu
  obtain ⟨b1, b2, b3, rfl⟩ := hub
  obtain ⟨k1, k2, k3, rfl⟩ := hks.sl
  subst hfn
  obtain ⟨id, kd, rv, rc⟩ := n
  simp only at hR hr
  obtain ⟨hsrt, h8⟩ := (rErr_srt rc).1 hr
  obtain ⟨av, lv, cv, hv⟩ := hR.sl
  subst hv
  obtain ⟨W0, hW0⟩ : ∃ W0, W0 = ((w.alloc (.cells #[.slice u1 u2 u3, .slice b1 b2 b3, .slice k1 k2 k3, .func (.func 56) #[] #[.pointer (some ⟨pa, 0, none⟩), .pointer (some ⟨pb, 0, none⟩)], .string dr] 81)).alloc (.cells #[.int .i64 id, .string kd, .slice av lv cv] 57)).alloc (.cells #[.int .i64 0, .string ⟨#[]⟩, .slice none 0 0] 57) := ⟨_, rfl⟩
  have hB0 : Below w.heap.size w W0 := by rw [hW0]; exact b_alloc (b_alloc (b_alloc (Below.refl _ _) _) _) _
  have hz : W0.heap.size = w.heap.size + 3 := by rw [hW0]; simp
  have n0 : W0.heap[w.heap.size]? = some (.cells #[.slice u1 u2 u3, .slice b1 b2 b3, .slice k1 k2 k3, .func (.func 56) #[] #[.pointer (some ⟨pa, 0, none⟩), .pointer (some ⟨pb, 0, none⟩)], .string dr] 81 (0, 0)) := by rw [hW0]; exact (heap_alloc_old _ _ (by simp; omega)).trans ((heap_alloc_old _ _ (by simp)).trans (heap_alloc_new w _))
  have n1 : W0.heap[w.heap.size + 1]? = some (.cells #[.int .i64 id, .string kd, .slice av lv cv] 57 (0, 0)) := by
    have := heap_alloc_new (w.alloc (.cells #[.slice u1 u2 u3, .slice b1 b2 b3, .slice k1 k2 k3, .func (.func 56) #[] #[.pointer (some ⟨pa, 0, none⟩), .pointer (some ⟨pb, 0, none⟩)], .string dr] 81)) (.cells #[.int .i64 id, .string kd, .slice av lv cv] 57)
    rw [World.size_alloc] at this; rw [hW0]; exact (heap_alloc_old _ _ (by simp)).trans this
  have n2 : W0.heap[w.heap.size + 2]? = some (.cells #[.int .i64 0, .string ⟨#[]⟩, .slice none 0 0] 57 (0, 0)) := by
    have := heap_alloc_new ((w.alloc (.cells #[.slice u1 u2 u3, .slice b1 b2 b3, .slice k1 k2 k3, .func (.func 56) #[] #[.pointer (some ⟨pa, 0, none⟩), .pointer (some ⟨pb, 0, none⟩)], .string dr] 81)).alloc (.cells #[.int .i64 id, .string kd, .slice av lv cv] 57)) (.cells #[.int .i64 0, .string ⟨#[]⟩, .slice none 0 0] 57)
    rw [World.size_alloc, World.size_alloc] at this; rw [hW0]; exact this
  have c1 := copiedNode_any ⟨id, kd, .slice av lv cv, rc⟩ W0 (hR.on hB0) (by simp only; omega)
  have a0 : W0.cell? ⟨w.heap.size + 1, 0, none⟩ = some (.int .i64 id) := cell_at n1 rfl
  have a1 : W0.cell? ⟨w.heap.size + 1, 1, none⟩ = some (.string kd) := cell_at n1 rfl
  have a2 : W0.cell? ⟨w.heap.size + 1, 2, none⟩ = some (.slice av lv cv) := cell_at n1 rfl
  have HN : Hid (∀ W1 v2, OwnRc W1 W0.heap.size v2 rc → Below W0.heap.size W0 W1 → (W1.cell? ⟨w.heap.size + 1, 0, none⟩ = some (.int .i64 id) ∧ W1.cell? ⟨w.heap.size + 1, 1, none⟩ = some (.string kd) ∧ W1.cell? ⟨w.heap.size + 1, 2, none⟩ = some (.slice av lv cv)) ∧ (W1.frozen? ⟨w.heap.size + 1, 0, none⟩ = false ∧ W1.frozen? ⟨w.heap.size + 1, 1, none⟩ = false ∧ W1.frozen? ⟨w.heap.size + 1, 2, none⟩ = false) ∧ ∀ WA, WA = ((W1.setCell ⟨w.heap.size + 1, 0, none⟩ (.int .i64 id)).setCell ⟨w.heap.size + 1, 1, none⟩ (.string kd)).setCell ⟨w.heap.size + 1, 2, none⟩ v2 → WA.heap[w.heap.size]? = some (.cells #[.slice u1 u2 u3, .slice b1 b2 b3, .slice k1 k2 k3, .func (.func 56) #[] #[.pointer (some ⟨pa, 0, none⟩), .pointer (some ⟨pb, 0, none⟩)], .string dr] 81 (0, 0)) ∧ WA.heap[w.heap.size + 1]? = some (.cells #[.int .i64 id, .string kd, v2] 57 (0, 0)) ∧ WA.heap[w.heap.size + 2]? = some (.cells #[.int .i64 0, .string ⟨#[]⟩, .slice none 0 0] 57 (0, 0)) ∧ OwnRc WA (w.heap.size + 3) v2 rc ∧ Below w.heap.size w WA ∧ w.heap.size + 3 ≤ WA.heap.size) := fun W1 v2 ho hB => by
    have x0 := (hB.block _ (Array.getElem?_eq_some_iff.1 n0).1).trans n0
    have x1 := (hB.block _ (Array.getElem?_eq_some_iff.1 n1).1).trans n1
    have x2 := (hB.block _ (Array.getElem?_eq_some_iff.1 n2).1).trans n2
    refine ⟨⟨cell_at x1 rfl, cell_at x1 rfl, cell_at x1 rfl⟩, ⟨frz_at x1, frz_at x1, frz_at x1⟩, fun WA hWA => ?_⟩
    have y : ∀ b, b ≠ w.heap.size + 1 → WA.heap[b]? = W1.heap[b]? := fun b hb => by
      rw [hWA]; exact (heap_setCell_other _ ⟨w.heap.size + 1, 2, none⟩ b _ hb).trans ((heap_setCell_other _ ⟨w.heap.size + 1, 1, none⟩ b _ hb).trans (heap_setCell_other _ ⟨w.heap.size + 1, 0, none⟩ b _ hb))
    have y1 : WA.heap[w.heap.size + 1]? = some (.cells #[.int .i64 id, .string kd, v2] 57 (0, 0)) := by rw [hWA]; exact heap_setCell_same _ _ 2 _ 57 _ (heap_setCell_same _ _ 1 _ 57 _ (heap_setCell_same W1 _ 0 _ 57 _ x1))
    refine ⟨(y _ (by omega)).trans x0, y1, (y _ (by omega)).trans x2, ?_, ?_, ?_⟩
    · rw [hWA]; rw [hz] at ho; exact OwnRc.kt ho ((Kt.refl _ _).ty3 ⟨_, x1⟩ (by decide) _ _ _ _ _ _)
    · rw [hWA]; exact below_set3 (on1K hB0 hB (Nat.le_refl _)) (by omega) _ _ _ _ _ _
    · rw [hWA]; simp; have := hB.size; omega
  have HE : Hid (∀ W' v' M, W'.heap[w.heap.size + 1]? = some (.cells #[.int .i64 id, .string kd, v'] 57 (0, 0)) → W'.heap[w.heap.size + 2]? = some (.cells #[.int .i64 0, .string ⟨#[]⟩, .slice none 0 0] 57 (0, 0)) → OwnRc W' (w.heap.size + 3) v' M → Below w.heap.size w W' → ((W'.cell? ⟨w.heap.size + 1, 0, none⟩ = some (.int .i64 id) ∧ W'.cell? ⟨w.heap.size + 1, 1, none⟩ = some (.string kd) ∧ W'.cell? ⟨w.heap.size + 1, 2, none⟩ = some v') ∧ (W'.cell? ⟨w.heap.size + 2, 0, none⟩ = some (.int .i64 0) ∧ W'.cell? ⟨w.heap.size + 2, 1, none⟩ = some (.string ⟨#[]⟩) ∧ W'.cell? ⟨w.heap.size + 2, 2, none⟩ = some (.slice none 0 0)) ∧ (W'.frozen? ⟨w.heap.size + 2, 0, none⟩ = false ∧ W'.frozen? ⟨w.heap.size + 2, 1, none⟩ = false ∧ W'.frozen? ⟨w.heap.size + 2, 2, none⟩ = false)) ∧ ∀ WB, WB = ((W'.setCell ⟨w.heap.size + 2, 0, none⟩ (.int .i64 id)).setCell ⟨w.heap.size + 2, 1, none⟩ (.string kd)).setCell ⟨w.heap.size + 2, 2, none⟩ v' → (WB.cell? ⟨w.heap.size + 2, 0, none⟩ = some (.int .i64 id) ∧ WB.cell? ⟨w.heap.size + 2, 1, none⟩ = some (.string kd) ∧ WB.cell? ⟨w.heap.size + 2, 2, none⟩ = some v') ∧ OwnRc WB w.heap.size v' M ∧ Below w.heap.size w WB) := fun W' v' M x1 x2 ho hB => by
    refine ⟨⟨⟨cell_at x1 rfl, cell_at x1 rfl, cell_at x1 rfl⟩, ⟨cell_at x2 rfl, cell_at x2 rfl, cell_at x2 rfl⟩, frz_at x2, frz_at x2, frz_at x2⟩, fun WB hWB => ?_⟩
    have y2 : WB.heap[w.heap.size + 2]? = some (.cells #[.int .i64 id, .string kd, v'] 57 (0, 0)) := by rw [hWB]; exact heap_setCell_same _ _ 2 _ 57 _ (heap_setCell_same _ _ 1 _ 57 _ (heap_setCell_same W' _ 0 _ 57 _ x2))
    refine ⟨⟨cell_at y2 rfl, cell_at y2 rfl, cell_at y2 rfl⟩, ?_, ?_⟩
    · rw [hWB]; exact own_base (OwnRc.kt ho ((Kt.refl _ _).ty3 ⟨_, x2⟩ (by decide) _ _ _ _ _ _)) (by omega)
    · rw [hWB]; exact below_set3 hB (by omega) _ _ _ _ _ _
  have cK : ∀ W, Below w.heap.size w W → Calls Tryz.prog 96 #[.slice k1 k2 k3, .string kd] W fun e w' => e = .returned (.bool true) ∧ w' = W := fun W hB => by
    have := contains_any (hks.on hB) hKl kd.toList
    rw [bs_self] at this
    have e : hasN K kd.toList = true := hg
    rwa [e] at this
  have HT := Lib.hid hturn
  clear hR hr hsrt h8 hks hg n0 n1 n2 hz hB0 hturn
  go_enter Tryz.func62, Tryz.ntmps62
  go_upto_region 1 with fail
  rw [← hW0]
  clear hW0
  go_upto_region 2 with (go_at_call 39; refine c1.mono ?_; rintro e W1 ⟨v2, rfl, ho2, hB2⟩; obtain ⟨⟨e0, e1, e2⟩, ⟨f0, f1, f2⟩, hA⟩ := HN.out W1 v2 ho2 hB2; obtain ⟨a2', l2', c2', rfl⟩ := OwnRc.sl ho2; have HA := Lib.hid hA; clear hA ho2 hB2)
  obtain ⟨WA, hWA⟩ : ∃ WA, WA = ((W1.setCell ⟨w.heap.size + 1, 0, none⟩ (.int .i64 id)).setCell ⟨w.heap.size + 1, 1, none⟩ (.string kd)).setCell ⟨w.heap.size + 1, 2, none⟩ (.slice a2' l2' c2') := ⟨_, rfl⟩
  obtain ⟨x0, x1, x2, ho, hB, hsz⟩ := HA.out WA hWA
  rw [← hWA]
  clear hWA HA e0 e1 e2 f0 f1 f2 HN
  have cKA := cK WA hB
  have cT := HT.out WA _ hB hsz ho
  have m2 : WA.cell? ⟨w.heap.size, 2, none⟩ = some (.slice k1 k2 k3) := cell_at x0 rfl
  have m3 : WA.cell? ⟨w.heap.size, 3, none⟩ = some (.func (.func 56) #[] #[.pointer (some ⟨pa, 0, none⟩), .pointer (some ⟨pb, 0, none⟩)]) := cell_at x0 rfl
  have p1 : WA.cell? ⟨w.heap.size + 1, 1, none⟩ = some (.string kd) := cell_at x1 rfl
  have p2 : WA.cell? ⟨w.heap.size + 1, 2, none⟩ = some (.slice a2' l2' c2') := cell_at x1 rfl
  have HX : Hid (∀ W2, Below (w.heap.size + 3) WA W2 → W2.heap[w.heap.size + 1]? = some (.cells #[.int .i64 id, .string kd, .slice a2' l2' c2'] 57 (0, 0)) ∧ W2.heap[w.heap.size + 2]? = some (.cells #[.int .i64 0, .string ⟨#[]⟩, .slice none 0 0] 57 (0, 0)) ∧ Below w.heap.size w W2) := fun W2 h2 => ⟨(h2.block _ (by omega)).trans x1, (h2.block _ (by omega)).trans x2, hB.trans (h2.mono (by omega))⟩
  clear x0 x1 x2 ho hB cK a0 a1 a2 c1 HT hsz
  unfold TnP at cT
  subst hzz
  go_wp2_with (first | (go_at_call 56; refine cT.mono ?_; rintro e W2 ⟨a3, l3, c3, rfl, ho3, hB3⟩; rw [errV_0]; refine Hid.out ?_) | (go_at_call 96; refine cKA.mono ?_; rintro e w' ⟨rfl, rfl⟩))
  refine Lib.hid ?_
  obtain ⟨x1, x2, hB⟩ := HX.out W2 hB3
  have y1 : (W2.setCell ⟨w.heap.size + 1, 2, none⟩ (.slice a3 l3 c3)).heap[w.heap.size + 1]? = some (.cells #[.int .i64 id, .string kd, .slice a3 l3 c3] 57 (0, 0)) := heap_setCell_same W2 _ 2 _ 57 _ x1
  have y2 : (W2.setCell ⟨w.heap.size + 1, 2, none⟩ (.slice a3 l3 c3)).heap[w.heap.size + 2]? = some (.cells #[.int .i64 0, .string ⟨#[]⟩, .slice none 0 0] 57 (0, 0)) := (heap_setCell_other W2 ⟨w.heap.size + 1, 2, none⟩ _ _ (by simp)).trans x2
  have w2 : W2.cell? ⟨w.heap.size + 1, 2, none⟩ = some (.slice a2' l2' c2') := cell_at x1 rfl
  have g2 : W2.frozen? ⟨w.heap.size + 1, 2, none⟩ = false := frz_at x1
  obtain ⟨⟨⟨q0, q1, q2⟩, ⟨s0, s1, s2⟩, r0, r1, r2⟩, hE⟩ := HE.out _ _ M y1 y2 (OwnRc.kt (ho3 (by simp)) ((Kt.refl _ _).ty ⟨_, x1⟩ (by decide) _ _)) (hB.setCell (by show _ ≤ w.heap.size + 1; omega) _)
  obtain ⟨WC, hWC⟩ : ∃ WC, WC = W2.setCell ⟨w.heap.size + 1, 2, none⟩ (.slice a3 l3 c3) := ⟨_, rfl⟩
  rw [← hWC] at hE q0 q1 q2 s0 s1 s2 r0 r1 r2
  have HE2 := Lib.hid hE
  clear hE HE x1 x2 hB y1 y2 ho3 hB3 HX cT cKA m2 m3 p1 p2
  go_upto_region 8 with fail
  rw [← hWC]
  clear hWC
  go_wp2
  obtain ⟨⟨z0, z1, z2⟩, z3, z4⟩ := HE2.out _ rfl
  refine bodyPost_ret (v := .tuple #[.agg #[.int .i64 id, .string kd, .slice a3 l3 c3], .nilIface]) ?_ rfl ⟨_, fun _ => ⟨rfl, z3⟩, fun h => absurd rfl h, z4⟩
  simp [results, Tryz.results62, go_sem, z0, z1, z2]
end Go.Proofs.YtpmblbhemcippaaGreatDoor
