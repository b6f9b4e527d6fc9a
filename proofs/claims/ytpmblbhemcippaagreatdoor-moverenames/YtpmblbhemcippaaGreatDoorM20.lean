/-
  The walk of graph.Copy.
-/
import Derived.Test.YtpmblbhemcippaaGreatDoorM06
import Derived.Test.YtpmblbhemcippaaGreatDoorM18
import Derived.Test.YtpmblbhemcippaaGreatDoorM19
namespace Go.Proofs.YtpmblbhemcippaaGreatDoor
open Go.RowKit
set_option linter.unusedVariables false
set_option linter.unusedSimpArgs false

def CpI (W0 : World) (p : Nat) (vt : Value) (N : List Nd) (T : List Te) (k : Nat) (wr : World) : Prop := ∃ (M : List Nd) (vn : Value), M.length = k ∧ cN M = cN (N.take k) ∧ wr.heap[p]? = some (.cells #[vn, vt] 25 (0, 0)) ∧ OwnNs wr W0.heap.size vn M ∧ OwnTs wr W0.heap.size vt T ∧ Below W0.heap.size W0 wr
theorem cpI_step {W0 wr W2 w1 : World} {p k : Nat} {vn vt v2 v1 : Value} {N M : List Nd} {T : List Te} {n : Nd} (hp : W0.heap.size ≤ p) (hn : N[k]? = some n) (hM : M.length = k) (hc : cN M = cN (N.take k)) (hX : wr.heap[p]? = some (.cells #[vn, vt] 25 (0, 0))) (hN : OwnNs wr W0.heap.size vn M) (hT : OwnTs wr W0.heap.size vt T) (hB : Below W0.heap.size W0 wr)
    (hB2 : Below wr.heap.size wr W2) (hR : OwnRc W2 wr.heap.size v2 n.rc) (hg : (W2.alloc (.cells #[.int .i64 n.id, .string n.kd, v2] 57)).grownBy w1 vn.ownBlock) (ho : w1.ownsRow W0.heap.size 57 3 v1 (k + 1) (cellsN M ++ [.int .i64 n.id, .string n.kd, v2])) :
    (w1.cell? ⟨p, 0, none⟩ = some vn ∧ w1.frozen? ⟨p, 0, none⟩ = false) ∧ CpI W0 p vt N T (k + 1) (w1.setCell ⟨p, 0, none⟩ v1) := by
  have hBa : Below wr.heap.size wr (W2.alloc (.cells #[.int .i64 n.id, .string n.kd, v2] 57)) := on1K hB2 (b_alloc (Below.refl _ _) _) (Nat.le_refl _)
  have hNa := own_kt hN.1 (Kt.of_below hBa)
  have hXa := (hBa.block p (Array.getElem?_eq_some_iff.1 hX).1).trans hX
  have hX1 := (hg.block p (Array.getElem?_eq_some_iff.1 hXa).1 (fun e => row_apart hNa hXa (by decide) e.symm)).trans hXa
  have k40 : Kt 62 wr (w1.setCell ⟨p, 0, none⟩ v1) := ((Kt.of_below hBa).trans (.of_own hNa (by decide) hg)).set hX1 (by decide) _ _
  have k54 : Kt 64 wr (w1.setCell ⟨p, 0, none⟩ v1) := ((Kt.of_below hBa).trans (.of_own hNa (by decide) hg)).set hX1 (by decide) _ _
  have k40' : Kt 62 W2 (w1.setCell ⟨p, 0, none⟩ v1) := (((Kt.refl _ _).alloc _).trans (.of_own hNa (by decide) hg)).set hX1 (by decide) _ _
  refine ⟨⟨cell_at hX1 rfl, frz_at hX1⟩, M ++ [⟨n.id, n.kd, v2, n.rc⟩], v1, by simp [hM], ?_, (heap_setCell_same w1 p 0 _ 25 _ hX1).trans rfl, ⟨?_, fun x hx => ?_⟩, hT.kt k54, ?_⟩
  · have e : N.take (k + 1) = N.take k ++ [n] := by rw [List.take_add_one, hn]; rfl
    unfold cN at *
    rw [e, List.map_append, List.map_append, hc]
    rfl
  · rw [List.length_append, hM, cellsN_snoc]
    exact own_set ho (row_apart ho hX1 (by decide)) _ _
  · rcases List.mem_append.1 hx with hx | hx
    · exact (hN.2 x hx).kt k40
    · obtain rfl : x = ⟨n.id, n.kd, v2, n.rc⟩ := by simpa using hx
      exact OwnRc.kt (own_base hR hB.size) k40'
  · exact (below_grown (on1K hB hBa (Nat.le_refl _)) hg (Nat.le_trans hB.size hBa.size) (fun g hg' => (hNa.lt g hg').1)).setCell (p := ⟨p, 0, none⟩) hp _
set_option maxHeartbeats 4000000 in
set_option maxRecDepth 100000 in
theorem copied_any {vn vt : Value} {N : List Nd} {T : List Te} {w : World} (hN : IsN w vn N) (hT : IsT w vt T) (h60 : N.length ≤ 60) (h120 : T.length ≤ 120) (h8 : ∀ n ∈ N, n.rc.length ≤ 1000) :
    Calls Tryz.prog 23 #[.agg #[vn, vt]] w fun e w' => ∃ un ut M, e = .returned (.agg #[un, ut]) ∧ cN M = cN N ∧ OwnNs w' w.heap.size un M ∧ OwnTs w' w.heap.size ut T ∧ Below w.heap.size w w' := by
  obtain ⟨i0, hi0, hz0, hz1, hz2⟩ := info_parts infoN
  obtain ⟨W0, hW0⟩ : ∃ W0, W0 = (w.alloc (.cells #[vn, vt] 25)).alloc (.cells #[.slice none 0 0, .slice none 0 0] 25) := ⟨_, rfl⟩
  have hB0 : Below w.heap.size w W0 := by rw [hW0]; exact b_alloc (b_alloc (Below.refl _ _) _) _
  have hs0 : W0.heap.size = w.heap.size + 2 := by rw [hW0]; simp
  have n0 : W0.heap[w.heap.size]? = some (.cells #[vn, vt] 25 (0, 0)) := by rw [hW0]; exact (heap_alloc_old _ _ (by simp)).trans (heap_alloc_new w _)
  have n1 : W0.heap[w.heap.size + 1]? = some (.cells #[.slice none 0 0, .slice none 0 0] 25 (0, 0)) := by
    have := heap_alloc_new (w.alloc (.cells #[vn, vt] 25)) (.cells #[.slice none 0 0, .slice none 0 0] 25)
    rw [World.size_alloc] at this; rw [hW0]; exact this
  have clT := fun (ty : TypeId) => clone_ties W0 W0.heap.size (Nat.le_refl _) (hT.on hB0) (by omega) ty
  have HH : Hid (Below w.heap.size w W0 ∧ W0.heap.size = w.heap.size + 2 ∧ W0.heap[w.heap.size]? = some (.cells #[vn, vt] 25 (0, 0)) ∧ W0.heap[w.heap.size + 1]? = some (.cells #[.slice none 0 0, .slice none 0 0] 25 (0, 0)) ∧ IsN w vn N) := ⟨hB0, hs0, n0, n1, hN⟩
  obtain ⟨an, cn, rfl, _⟩ := hN
  obtain ⟨am, cm, rfl, _⟩ := hT
  have c1 : W0.cell? ⟨w.heap.size, 1, none⟩ = some (.slice am T.length cm) := cell_at n0 rfl
  clear hB0 n0 n1 hs0
  go_enter Tryz.func23, Tryz.ntmps23
  go_upto_region 1 with fail
  rw [← hW0]
  clear hW0
  go_wp2_with (first | (at_builtin; refine wpList_append_E rfl _ _ 23 rfl _ _ rfl rfl (clT _) ?_; rintro v1 w1 ⟨hown, hgrow⟩; refine Hid.out ?_))
  refine Lib.hid ?_
  obtain ⟨a2, p2, rfl⟩ := own_slice hown
  have hb1 := grown_below hgrow
  obtain ⟨Wc, hWc⟩ : ∃ Wc, Wc = w1.alloc (.cells #[.slice none 0 0, .slice a2 T.length p2] 25) := ⟨_, rfl⟩
  have nc : Wc.heap[w1.heap.size]? = some (.cells #[.slice none 0 0, .slice a2 T.length p2] 25 (0, 0)) := by rw [hWc]; exact heap_alloc_new w1 _
  have hBc : Below W0.heap.size W0 Wc := by rw [hWc]; exact b_alloc hb1 _
  have HI0 : Hid (CpI W0 w1.heap.size (.slice a2 T.length p2) N T 0 Wc ∧ W0.heap.size ≤ w1.heap.size) := ⟨⟨[], .slice none 0 0, rfl, rfl, nc, ⟨World.ownsRow_nil _ _ _ _, fun n hn => by cases hn⟩, by rw [hWc]; exact World.ownsRow.alloc hown _, hBc⟩, hb1.size⟩
  have c0 : Wc.cell? ⟨w.heap.size, 0, none⟩ = some (.slice an N.length cn) := cell_at ((hBc.block _ (by have := HH.out.2.1; omega)).trans HH.out.2.2.1) rfl
  have HWc := Lib.hid hWc
  clear hown hgrow hb1 nc hBc hWc clT c1
  go_upto_region 2 with fail
  rw [← HWc.out]
  go_wp2
  go_loopw [13] (fun i wr => ∃ k : Nat, k ≤ N.length ∧ i = .int .i64 k ∧ CpI W0 w1.heap.size (.slice a2 T.length p2) N T k wr) (fun i _ => N.length - (intOf i).toNat)
  case atStart => exact ⟨0, Nat.zero_le _, rfl, HI0.out.1⟩
  case round =>
    obtain ⟨k, hk, rfl, hC⟩ := hrel
    obtain ⟨M, vm, hM, hcN, hX, hNs, hTs, hB⟩ := hC
    obtain ⟨a1, p1, e1⟩ := own_slice hNs.1
    rw [hM] at e1
    subst e1
    by_cases hlt : k < N.length
    · obtain ⟨n, hn⟩ : ∃ n, N[k]? = some n := ⟨N[k], by simp [hlt]⟩
      have hbw := on1K HH.out.1 hB (Nat.le_refl _)
      obtain ⟨b, off, ean, hbl, ⟨d0, d1, d2⟩, hR0⟩ : ∃ b off, an = some ⟨b, off, none⟩ ∧ b < w.heap.size ∧ (w.cell? ⟨b, off + k * 3, none⟩ = some (.int .i64 n.id) ∧ w.cell? ⟨b, off + k * 3 + 1, none⟩ = some (.string n.kd) ∧ w.cell? ⟨b, off + k * 3 + 2, none⟩ = some n.rv) ∧ IsR w n.rv n.rc := by
        obtain ⟨a', c', e, hle, h0 | ⟨b, off, e2, hb, hL⟩⟩ := HH.out.2.2.2.2
        · rw [h0] at hlt; simp at hlt
        · injection e with e _ _
          obtain ⟨q0, q1, q2, q3⟩ := hL k n hn
          exact ⟨b, off, e.trans e2, hb, ⟨q0, q1, q2⟩, q3⟩
      subst ean
      have d0 := (hbw.cell (p := ⟨b, off + k * 3, none⟩) hbl).trans d0
      have d1 := (hbw.cell (p := ⟨b, off + k * 3 + 1, none⟩) hbl).trans d1
      have d2 := (hbw.cell (p := ⟨b, off + k * 3 + 2, none⟩) hbl).trans d2
      have hRn := h8 n (List.mem_of_getElem? hn)
      obtain ⟨av, lv, cv, hv⟩ := hR0.sl
      obtain ⟨id, kd, rv, rc⟩ := n
      simp only at hv d0 d1 d2 hRn hR0
      subst hv
      obtain ⟨W1, hW1⟩ : ∃ W1, W1 = wr.alloc (.cells #[.int .i64 id, .string kd, .slice av lv cv] 57) := ⟨_, rfl⟩
      have hB1 : Below wr.heap.size wr W1 := by rw [hW1]; exact b_alloc (Below.refl _ _) _
      have nn : W1.heap[wr.heap.size]? = some (.cells #[.int .i64 id, .string kd, .slice av lv cv] 57 (0, 0)) := by rw [hW1]; exact heap_alloc_new wr _
      have cc := copiedNode_any ⟨id, kd, .slice av lv cv, rc⟩ W1.drew (hR0.on (on1K hbw (b_drew hB1) (Nat.le_refl _))) hRn
      have x0 : W1.drew.cell? ⟨w1.heap.size, 0, none⟩ = some (.slice a1 k p1) := (hB1.cell (p := ⟨w1.heap.size, 0, none⟩) (Array.getElem?_eq_some_iff.1 hX).1).trans (cell_at hX rfl)
      have e0 : W1.drew.cell? ⟨wr.heap.size, 0, none⟩ = some (.int .i64 id) := cell_at (w := W1) nn rfl
      have e1 : W1.drew.cell? ⟨wr.heap.size, 1, none⟩ = some (.string kd) := cell_at (w := W1) nn rfl
      have e2 : W1.drew.cell? ⟨wr.heap.size, 2, none⟩ = some (.slice av lv cv) := cell_at (w := W1) nn rfl
      have HP : Hid (∀ W2, Below W1.drew.heap.size W1.drew W2 → Below wr.heap.size wr W2 ∧ W2.cell? ⟨w1.heap.size, 0, none⟩ = some (.slice a1 k p1) ∧ ∀ o, (W2.alloc o).cell? ⟨w1.heap.size, 0, none⟩ = some (.slice a1 k p1)) := fun W2 h2 => by
        have h := on1K hB1 (b_undrew h2) (Nat.le_refl _)
        have hc := (h.cell (p := ⟨w1.heap.size, 0, none⟩) (Array.getElem?_eq_some_iff.1 hX).1).trans (cell_at hX rfl)
        exact ⟨h, hc, cell_old hc⟩
      have HO : Hid (∀ W2 v2, Below wr.heap.size wr W2 → (W2.alloc (.cells #[.int .i64 id, .string kd, v2] 57)).ownsRow W0.heap.size 57 3 (.slice a1 k p1) k (cellsN M) ∧ W0.heap.size ≤ (W2.alloc (.cells #[.int .i64 id, .string kd, v2] 57)).heap.size) := fun W2 v2 h2 => by
        have hBa := on1K h2 (b_alloc (Below.refl _ W2) (.cells #[.int .i64 id, .string kd, v2] 57)) (Nat.le_refl _)
        have := own_kt hNs.1 (Kt.of_below (t := 57) hBa)
        rw [hM] at this
        exact ⟨this, Nat.le_trans hB.size hBa.size⟩
      have HSt : Hid (∀ W2 v2 w3 v1, Below wr.heap.size wr W2 → OwnRc W2 wr.heap.size v2 rc → (W2.alloc (.cells #[.int .i64 id, .string kd, v2] 57)).grownBy w3 (Value.slice a1 k p1).ownBlock → w3.ownsRow W0.heap.size 57 3 v1 (k + 1) (cellsN M ++ [.int .i64 id, .string kd, v2]) → (w3.cell? ⟨w1.heap.size, 0, none⟩ = some (.slice a1 k p1) ∧ w3.frozen? ⟨w1.heap.size, 0, none⟩ = false) ∧ CpI W0 w1.heap.size (.slice a2 T.length p2) N T (k + 1) (w3.setCell ⟨w1.heap.size, 0, none⟩ v1)) := fun W2 v2 w3 v1 q1 q2 q3 q4 => cpI_step HI0.out.2 hn hM hcN hX hNs hTs hB q1 q2 q3 q4
      have HM : Hid (k + 1 ≤ maxLen ∧ (k + 1) * 48 ≤ 140737488355328) := by unfold maxLen; exact ⟨by omega, by omega⟩
      have hzw : Hid (wr.heap.size ≤ W1.drew.heap.size) := hB1.size
      have HW1 := Lib.hid hW1
      have hnb : ¬ b = wr.heap.size := by have := hbw.size; omega
      clear hM hcN hX hNs hTs hB hR0 hRn hbw hB1 nn hn hW1 hbl
      go_upto_region 5 with fail
      rw [← HW1.out]
      go_region_law (first | (go_simp; go_at_call 39; refine cc.mono ?_; rintro e W2 ⟨v2, rfl, hR2, hB2⟩; obtain ⟨hb2, y0, y1⟩ := HP.out W2 hB2; obtain ⟨u2, l2, q2, rfl⟩ := OwnRc.sl hR2; have HR2 : Hid (OwnRc W2 wr.heap.size (.slice u2 l2 q2) rc ∧ Below wr.heap.size wr W2) := ⟨own_base hR2 hzw.out, hb2⟩; clear hR2 hB2 hb2) | (refine step_append_own rfl (.tmp 18) (.tmp 21) 22 rfl W0.heap.size 57 i0 _ 3 48 Tryz.underlying22 hi0 hz0 hz1 hz2 rfl (by decide) (.slice a1 k p1) k (cellsN M) (by simp [Act.eval, Act.put]) (HO.out W2 _ HR2.out.2).1 ⟨W2.heap.size, 0, none⟩ 1 1 [.int .i64 id, .string kd, .slice u2 l2 q2] (by simp [Act.eval, Act.put]) rfl (new_at _ _ _) (by simp [Value.oneCell']) HM.out.1 HM.out.2 (HO.out W2 _ HR2.out.2).2 ?_; intro v1 w3 hown1 hgrow1; obtain ⟨⟨z0, z1⟩, hcp⟩ := HSt.out W2 _ w3 v1 HR2.out.2 HR2.out.1 hgrow1 hown1; obtain ⟨a3, c3, rfl⟩ := own_slice hown1; have HCp := Lib.hid hcp; clear hcp hown1 hgrow1))
      all_goals
        go_wp2
        refine ⟨?_, ?_⟩
        · first | exact ⟨k + 1, by omega, by go_num, HCp.out⟩ | ((repeat apply Exists.intro); refine ⟨?_, rfl⟩; exact ⟨k + 1, by omega, by go_num, HCp.out⟩)
        · simp [intOf]
          try omega
    · obtain rfl : k = N.length := by omega
      rw [List.take_length] at hcN
      have hr1 := (hB.block _ (by have := HH.out.2.1; omega)).trans HH.out.2.2.2.1
      have HF : Hid (cN M = cN N ∧ OwnNs wr W0.heap.size (.slice a1 N.length p1) M ∧ OwnTs wr W0.heap.size (.slice a2 T.length p2) T ∧ Below w.heap.size w wr ∧ Ty wr (w.heap.size + 1) 25) := ⟨hcN, hNs, hTs, on1K HH.out.1 hB (Nat.le_refl _), _, hr1⟩
      have e0 : wr.cell? ⟨w1.heap.size, 0, none⟩ = some (.slice a1 N.length p1) := cell_at hX rfl
      have e1 : wr.cell? ⟨w1.heap.size, 1, none⟩ = some (.slice a2 T.length p2) := cell_at hX rfl
      have r0 : wr.cell? ⟨w.heap.size + 1, 0, none⟩ = some (.slice none 0 0) := cell_at hr1 rfl
      have r1 : wr.cell? ⟨w.heap.size + 1, 1, none⟩ = some (.slice none 0 0) := cell_at hr1 rfl
      have s0 : wr.frozen? ⟨w.heap.size + 1, 0, none⟩ = false := frz_at hr1
      have s1 : wr.frozen? ⟨w.heap.size + 1, 1, none⟩ = false := frz_at hr1
      have t1 : ((wr.setCell ⟨w.heap.size + 1, 0, none⟩ (.slice a1 N.length p1)).setCell ⟨w.heap.size + 1, 1, none⟩ (.slice a2 T.length p2)).heap[w.heap.size + 1]? = some (.cells #[.slice a1 N.length p1, .slice a2 T.length p2] 25 (0, 0)) := heap_setCell_same _ _ 1 _ 25 _ (heap_setCell_same wr _ 0 _ 25 _ hr1)
      have HT : Hid (((wr.setCell ⟨w.heap.size + 1, 0, none⟩ (.slice a1 N.length p1)).setCell ⟨w.heap.size + 1, 1, none⟩ (.slice a2 T.length p2)).cell? ⟨w.heap.size + 1, 0, none⟩ = some (.slice a1 N.length p1) ∧ ((wr.setCell ⟨w.heap.size + 1, 0, none⟩ (.slice a1 N.length p1)).setCell ⟨w.heap.size + 1, 1, none⟩ (.slice a2 T.length p2)).cell? ⟨w.heap.size + 1, 1, none⟩ = some (.slice a2 T.length p2)) := ⟨cell_at t1 rfl, cell_at t1 rfl⟩
      clear hcN hX hNs hTs hB hr1 t1 hk
      go_wp2
      obtain ⟨f1, f2, f3, f4, f5⟩ := HF.out
      obtain ⟨t0, t1⟩ := HT.out
      have hs0' : w.heap.size ≤ W0.heap.size := HH.out.1.size
      refine bodyPost_ret (v := .agg #[.slice a1 N.length p1, .slice a2 T.length p2]) ?_ rfl ⟨_, _, M, rfl, f1, ?_, ?_, ?_⟩
      · simp [results, Tryz.results23, go_sem, t0, t1]
      · exact ⟨own_base (own_kt f2.1 (((Kt.refl _ _).ty f5 (by decide) _ _).ty (f5.set _ _ _) (by decide) _ _)) hs0', fun n hn => own_base ((f2.2 n hn).kt (((Kt.refl _ _).ty f5 (by decide) _ _).ty (f5.set _ _ _) (by decide) _ _)) hs0'⟩
      · exact own_base (f3.kt (((Kt.refl _ _).ty f5 (by decide) _ _).ty (f5.set _ _ _) (by decide) _ _)) hs0'
      · exact (f4.setCell (by show _ ≤ w.heap.size + 1; omega) _).setCell (by show _ ≤ w.heap.size + 1; omega) _
end Go.Proofs.YtpmblbhemcippaaGreatDoor

/-
  way.node of any node, and way.nodes.
-/
namespace Go.Proofs.YtpmblbhemcippaaGreatDoor
open Go.RowKit
set_option linter.unusedVariables false
set_option linter.unusedSimpArgs false

def Fit (c : Ch) (K : List Nm) : Prop := K = [] ∨ c.wh = 3 ∨ c.wh = 4 ∨ c.wh = 7
theorem wnode_any {w : World} (c : Ch) {uk ub ks fn : Value} (dr : ByteArray) {K : List Nm} (n : Nd) (hks : IsS w ks K) (hKl : K.length ≤ 1000) (hT : Turns w c fn) (hR : IsR w n.rv n.rc) (hr : rErr n.rc = 0) (hu : ∃ a l c', uk = .slice a l c') (hub : ∃ a l c', ub = .slice a l c') (hf : Fit c K) (hsz : Sz [c.pr]) :
    Calls Tryz.prog 62 #[.agg #[uk, ub, ks, fn, .string dr], n.one] w (NdP w n.id n.kd (ndX c K n) (ndY c K n)) := by
  unfold ndX ndY
  by_cases hg : goes K n = true
  · rw [if_pos hg, if_pos hg]
    have hw : c.wh = 3 ∨ c.wh = 4 ∨ c.wh = 7 := by
      rcases hf with rfl | h
      · simp [goes, hasN] at hg
      · exact h
    rcases hT with ⟨h, p, q, e, h1, h2⟩ | ⟨h, p, e, h1⟩ | ⟨h, p, q, e, h1, h2⟩ | ⟨x, y, z, _⟩
    · have e1 : tnE c n.rc = gvE c.pr n.rc := by unfold tnE; rw [if_pos h]
      have e2 : tnR c n.rc = gvR c.pr n.rc := by unfold tnR; rw [if_pos h]
      have ht : ∀ W v, Below w.heap.size w W → w.heap.size + 3 ≤ W.heap.size → OwnRc W (w.heap.size + 3) v n.rc → Calls Tryz.prog 52 #[v, .pointer (some ⟨p, 0, none⟩), .pointer (some ⟨q, 0, none⟩)] W (TnP (w.heap.size + 3) W (gvE c.pr n.rc) (gvR c.pr n.rc)) := fun W v hB hs ho => by
        have k1 := (hB.block _ (Array.getElem?_eq_some_iff.1 h1).1).trans h1
        have k2 := (hB.block _ (Array.getElem?_eq_some_iff.1 h2).1).trans h2
        exact turn3_any ho hr c.pr hsz hs p q (cell_at k1 rfl) (cell_at k2 rfl) (cell_at k2 rfl) (cell_at k2 rfl)
      rw [e1, e2]
      by_cases hz : gvE c.pr n.rc = 0
      · exact wnode_go40 c p q dr n hks hKl hR hr hu hub hg e ht hz
      · exact wnode_no40 c p q dr n hks hKl hR hr hu hub hg e ht hz
    · have e1 : tnE c n.rc = 0 := by unfold tnE; rw [if_neg (by omega)]
      have e2 : tnR c n.rc = n.rc.filter (keepP (bs c.fd.nm)) := by unfold tnR; rw [if_neg (by omega), if_pos h]
      rw [e1, e2]
      exact wnode_go42 c p dr n hks hKl hR hr hu hub hg e (fun W v hB hs ho => turn4_any ho hr _ hs p (cell_at ((hB.block _ (Array.getElem?_eq_some_iff.1 h1).1).trans h1) rfl)) rfl
    · have e1 : tnE c n.rc = 0 := by unfold tnE; rw [if_neg (by omega)]
      have e2 : tnR c n.rc = rnR n.rc (bs c.fd.nm) (bs c.tn) := by unfold tnR; rw [if_neg (by omega), if_neg (by omega), if_pos h]
      rw [e1, e2]
      exact wnode_go44 c p q dr n hks hKl hR hr hu hub hg e (fun W v hB hs ho => turn7_any ho hr _ _ hs p q (cell_at ((hB.block _ (Array.getElem?_eq_some_iff.1 h1).1).trans h1) rfl) (cell_at ((hB.block _ (Array.getElem?_eq_some_iff.1 h2).1).trans h2) rfl)) rfl
    · omega
  · rw [if_neg hg, if_neg hg]
    exact wnode_stay c dr n hks hKl hT hR hr hu hub (by simpa using hg)
def allX (c : Ch) (K : List Nm) : List Nd → Int
  | [] => 0
  | n :: r => if ndX c K n = 0 then allX c K r else ndX c K n
def ndT (c : Ch) (K : List Nm) (n : Nd) : Nd := ⟨n.id, n.kd, .nilIface, ndY c K n⟩
theorem allX_app (c : Ch) (K : List Nm) : ∀ (A B : List Nd), allX c K A = 0 → allX c K (A ++ B) = allX c K B
  | [], _, _ => rfl
  | n :: r, B, h => by
    unfold allX at h
    by_cases hz : ndX c K n = 0
    · rw [if_pos hz] at h
      show (if ndX c K n = 0 then allX c K (r ++ B) else _) = _
      rw [if_pos hz, allX_app c K r B h]
    · rw [if_neg hz] at h; exact absurd h hz
theorem takeN {N : List Nd} {k : Nat} {n : Nd} (h : N[k]? = some n) : N.take (k + 1) = N.take k ++ [n] := by rw [List.take_add_one, h]; rfl
def NsI (w : World) (c : Ch) (K : List Nm) (N : List Nd) (k : Nat) (u : Value) (wr : World) : Prop := ∃ M : List Nd, M.length = k ∧ cN M = (N.take k).map (ndT c K) ∧ allX c K (N.take k) = 0 ∧ OwnNs wr w.heap.size u M ∧ Below w.heap.size w wr
def NsP (w : World) (c : Ch) (K : List Nm) (N : List Nd) (e : Ending) (w' : World) : Prop :=
  (allX c K N = 0 → ∃ u M, e = .returned (.tuple #[u, .nilIface]) ∧ cN M = N.map (ndT c K) ∧ OwnNs w' w.heap.size u M) ∧ (¬ allX c K N = 0 → e = .returned (.tuple #[.slice none 0 0, errV (allX c K N)])) ∧ Below w.heap.size w w'
theorem nsI_step {w wr w1 : World} {c : Ch} {K : List Nm} {N M : List Nd} {k : Nat} {n : Nd} {u u1 v : Value} (hn : N[k]? = some n) (hM : M.length = k) (hc : cN M = (N.take k).map (ndT c K)) (ha : allX c K (N.take k) = 0) (hz : ndX c K n = 0) (hN : OwnNs wr w.heap.size u M) (hB : Below w.heap.size w wr)
    {W2 : World} (hB2 : Below wr.heap.size wr W2) (hR : OwnRc W2 wr.heap.size v (ndY c K n)) (hg : W2.grownBy w1 u.ownBlock) (ho : w1.ownsRow w.heap.size 57 3 u1 (k + 1) (cellsN M ++ [.int .i64 n.id, .string n.kd, v])) : NsI w c K N (k + 1) u1 w1 := by
  have o2 := own_kt hN.1 (Kt.of_below (t := 57) hB2)
  have k52 : Kt 62 wr w1 := (Kt.of_below hB2).trans (Kt.of_own o2 (by decide) hg)
  have k52' : Kt 62 W2 w1 := Kt.of_own o2 (by decide) hg
  refine ⟨M ++ [⟨n.id, n.kd, v, ndY c K n⟩], by simp [hM], ?_, ?_, ⟨?_, fun x hx => ?_⟩, ?_⟩
  · rw [takeN hn, List.map_append, ← hc]; simp [cN, Nd.c, ndT]
  · rw [takeN hn, allX_app c K _ _ ha]; unfold allX; rw [if_pos hz]; rfl
  · rw [List.length_append, hM, cellsN_snoc]; exact ho
  · rcases List.mem_append.1 hx with hx | hx
    · exact (hN.2 x hx).kt k52
    · obtain rfl : x = ⟨n.id, n.kd, v, ndY c K n⟩ := by simpa using hx
      exact OwnRc.kt (own_base hR hB.size) k52'
  · exact below_grown (on1K hB hB2 (Nat.le_refl _)) hg (Nat.le_trans hB.size hB2.size) (fun g hg' => (o2.lt g hg').1)
set_option maxHeartbeats 8000000 in
set_option maxRecDepth 100000 in
theorem wnodes_any {w : World} (c : Ch) {uk ub ks fn vl : Value} (dr : ByteArray) {K : List Nm} {N : List Nd} (hN : IsN w vl N) (hl : N.length ≤ 1000) (hks : IsS w ks K) (hKl : K.length ≤ 1000) (hT : Turns w c fn) (hr : ∀ n ∈ N, rErr n.rc = 0) (hu : ∃ a l c', uk = .slice a l c') (hub : ∃ a l c', ub = .slice a l c') (hf : Fit c K) (hsz : Sz [c.pr]) :
    Calls Tryz.prog 40 #[.agg #[uk, ub, ks, fn, .string dr], vl] w (NsP w c K N) := by
  obtain ⟨i0, hi0, hz0, hz1, hz2⟩ := info_parts infoN
  have hf1 := hT.one
  have HK : Hid (IsS w ks K ∧ K.length ≤ 1000 ∧ Turns w c fn ∧ (∀ n ∈ N, rErr n.rc = 0) ∧ Fit c K ∧ Sz [c.pr] ∧ (∃ a l c', uk = .slice a l c') ∧ (∃ a l c', ub = .slice a l c')) := ⟨hks, hKl, hT, hr, hf, hsz, hu, hub⟩
  obtain ⟨u1, u2, u3, rfl⟩ := hu
  obtain ⟨b1, b2, b3, rfl⟩ := hub
  obtain ⟨k1, k2, k3, rfl⟩ := hks.sl
  obtain ⟨W0, hW0⟩ : ∃ W0, W0 = w.alloc (.cells #[.slice u1 u2 u3, .slice b1 b2 b3, .slice k1 k2 k3, fn, .string dr] 81) := ⟨_, rfl⟩
  have hB0 : Below w.heap.size w W0 := by rw [hW0]; exact b_alloc (Below.refl _ _) _
  have n0 : W0.heap[w.heap.size]? = some (.cells #[.slice u1 u2 u3, .slice b1 b2 b3, .slice k1 k2 k3, fn, .string dr] 81 (0, 0)) := by rw [hW0]; exact heap_alloc_new w _
  have HN := Lib.hid hN
  have HW : Hid (∀ W, Below W0.heap.size W0 W → W.heap[w.heap.size]? = some (.cells #[.slice u1 u2 u3, .slice b1 b2 b3, .slice k1 k2 k3, fn, .string dr] 81 (0, 0))) := fun W hB => (hB.block _ (Array.getElem?_eq_some_iff.1 n0).1).trans n0
  have HB0 := Lib.hid hB0
  have hw0 : w.heap.size < W0.heap.size := (Array.getElem?_eq_some_iff.1 n0).1
  obtain ⟨an, cn, rfl, _⟩ := hN
  clear hks hKl hT hr hf hsz hB0 n0
  go_enter Tryz.func40, Tryz.ntmps40
  go_upto_region 1 with fail
  rw [← hW0]
  clear hW0
  go_wp2
  go_loopw [6, 13] (fun u i wr => ∃ k : Nat, k ≤ N.length ∧ i = .int .i64 k ∧ NsI W0 c K N k u wr) (fun _ i _ => N.length - (intOf i).toNat)
  case atStart => exact ⟨0, Nat.zero_le _, rfl, ⟨[], rfl, rfl, rfl, ⟨World.ownsRow_nil _ _ _ _, fun n hn => by cases hn⟩, Below.refl _ _⟩⟩
  case round =>
    obtain ⟨k, hk, rfl, M, hM, hc, ha, hO, hB⟩ := hrel
    obtain ⟨a1, p1, e1⟩ := own_slice hO.1
    rw [hM] at e1
    subst e1
    have hBw := on1K HB0.out hB (Nat.le_refl _)
    by_cases hlt : k < N.length
    · obtain ⟨n, hn⟩ : ∃ n, N[k]? = some n := ⟨N[k], by simp [hlt]⟩
      obtain ⟨b, off, ean, hbl, ⟨d0, d1, d2⟩, hR0⟩ : ∃ b off, an = some ⟨b, off, none⟩ ∧ b < w.heap.size ∧ (w.cell? ⟨b, off + k * 3, none⟩ = some (.int .i64 n.id) ∧ w.cell? ⟨b, off + k * 3 + 1, none⟩ = some (.string n.kd) ∧ w.cell? ⟨b, off + k * 3 + 2, none⟩ = some n.rv) ∧ IsR w n.rv n.rc := by
        obtain ⟨a', c', e, hle, h0 | ⟨b, off, e2, hb, hL⟩⟩ := HN.out
        · rw [h0] at hlt; simp at hlt
        · injection e with e _ _
          obtain ⟨q0, q1, q2, q3⟩ := hL k n hn
          exact ⟨b, off, e.trans e2, hb, ⟨q0, q1, q2⟩, q3⟩
      subst ean
      have d0 := (hBw.cell (p := ⟨b, off + k * 3, none⟩) hbl).trans d0
      have d1 := (hBw.cell (p := ⟨b, off + k * 3 + 1, none⟩) hbl).trans d1
      have d2 := (hBw.cell (p := ⟨b, off + k * 3 + 2, none⟩) hbl).trans d2
      obtain ⟨av, lv, cv, hv⟩ := hR0.sl
      have hrn := HK.out.2.2.2.1 n (List.mem_of_getElem? hn)
      have HA : Hid (N[k]? = some n ∧ M.length = k ∧ cN M = (N.take k).map (ndT c K) ∧ allX c K (N.take k) = 0 ∧ OwnNs wr W0.heap.size (.slice a1 k p1) M ∧ Below W0.heap.size W0 wr) := ⟨hn, hM, hc, ha, hO, hB⟩
      obtain ⟨id, kd, rv, rc⟩ := n
      simp only at hv d0 d1 d2 hR0 hrn
      subst hv
      obtain ⟨W1, hW1⟩ : ∃ W1, W1 = wr.alloc (.cells #[.int .i64 id, .string kd, .slice av lv cv] 57) := ⟨_, rfl⟩
      have hB1 : Below wr.heap.size wr W1 := by rw [hW1]; exact b_alloc (Below.refl _ _) _
      have nn : W1.heap[wr.heap.size]? = some (.cells #[.int .i64 id, .string kd, .slice av lv cv] 57 (0, 0)) := by rw [hW1]; exact heap_alloc_new wr _
      have hBw1 := on1K hBw hB1 (Nat.le_refl _)
      have cN1 := wnode_any c dr ⟨id, kd, .slice av lv cv, rc⟩ (HK.out.1.on hBw1) HK.out.2.1 (HK.out.2.2.1.on hBw1) (hR0.on hBw1) hrn HK.out.2.2.2.2.2.2.1 HK.out.2.2.2.2.2.2.2 HK.out.2.2.2.2.1 HK.out.2.2.2.2.2.1
      have xw := HW.out W1 (on1K hB hB1 (Nat.le_refl _))
      have w0 : W1.cell? ⟨w.heap.size, 0, none⟩ = some (.slice u1 u2 u3) := cell_at xw rfl
      have w1 : W1.cell? ⟨w.heap.size, 1, none⟩ = some (.slice b1 b2 b3) := cell_at xw rfl
      have w2 : W1.cell? ⟨w.heap.size, 2, none⟩ = some (.slice k1 k2 k3) := cell_at xw rfl
      have w3 : W1.cell? ⟨w.heap.size, 3, none⟩ = some fn := cell_at xw rfl
      have w4 : W1.cell? ⟨w.heap.size, 4, none⟩ = some (.string dr) := cell_at xw rfl
      have e0 : W1.cell? ⟨wr.heap.size, 0, none⟩ = some (.int .i64 id) := cell_at nn rfl
      have e1 : W1.cell? ⟨wr.heap.size, 1, none⟩ = some (.string kd) := cell_at nn rfl
      have e2 : W1.cell? ⟨wr.heap.size, 2, none⟩ = some (.slice av lv cv) := cell_at nn rfl
      have HB1 : Hid (Below wr.heap.size wr W1 ∧ Below w.heap.size w W1) := ⟨hB1, hBw1⟩
      have hnb : ¬ b = wr.heap.size := by have := hBw.size; omega
      unfold NdP at cN1
      by_cases hz : ndX c K ⟨id, kd, .slice av lv cv, rc⟩ = 0
      · have HZ := Lib.hid hz
        rw [hz] at cN1
        have HO : Hid (∀ W2 v, Below W1.heap.size W1 W2 → ∀ o, ((W2.alloc o).alloc (.cells #[.int .i64 id, .string kd, v] 57)).ownsRow W0.heap.size 57 3 (.slice a1 k p1) k (cellsN M) ∧ W0.heap.size ≤ ((W2.alloc o).alloc (.cells #[.int .i64 id, .string kd, v] 57)).heap.size ∧ Below wr.heap.size wr ((W2.alloc o).alloc (.cells #[.int .i64 id, .string kd, v] 57))) := fun W2 v h2 o => by
          have hBx := on1K HB1.out.1 (on1K h2 (b_alloc (b_alloc (Below.refl _ W2) o) (.cells #[.int .i64 id, .string kd, v] 57)) (Nat.le_refl _)) (Nat.le_refl _)
          have := own_kt HA.out.2.2.2.2.1.1 (Kt.of_below (t := 57) hBx)
          rw [HA.out.2.1] at this
          exact ⟨this, Nat.le_trans HA.out.2.2.2.2.2.size hBx.size, hBx⟩
        have HM : Hid (k + 1 ≤ maxLen ∧ (k + 1) * 48 ≤ 140737488355328) := by unfold maxLen; exact ⟨by omega, by omega⟩
        have HNA : Hid (∀ (W2 : World) (o : Obj) (v : Value), ∀ j u, [Value.int .i64 id, .string kd, v][j]? = some u → ((W2.alloc o).alloc (.cells #[.int .i64 id, .string kd, v] 57)).cell? ((⟨W2.heap.size + 1, 0, none⟩ : Addr).add j) = some u) := fun W2 o v j u hu => by
          have := new_at (W2.alloc o) [.int .i64 id, .string kd, v] 57 j u hu
          rwa [World.size_alloc] at this
        clear hM hc ha hO hB hR0 hrn hB1 nn hn xw hBw1 hbl hz hBw
        go_upto_region 5 with fail
        rw [← hW1]
        clear hW1
        go_wp2_with (first | (go_at_call 62; refine cN1.mono ?_; rintro e W2 ⟨v2, hy, _, hB2⟩; obtain ⟨rfl, hR2⟩ := hy (by simp); obtain ⟨u2', l2', q2', rfl⟩ := OwnRc.sl hR2; have HR2 := Lib.hid (And.intro hR2 hB2); clear hy hR2 hB2; refine Hid.out ?_))
        refine Lib.hid ?_
        have hoo := HO.out W2 (.slice u2' l2' q2') HR2.out.2 (.cells #[.int .i64 id, .string kd, .slice u2' l2' q2'] 57)
        have HOO := Lib.hid hoo
        clear hoo cN1 w0 w1 w2 w3 w4 e0 e1 e2 d0 d1 d2
        go_wp2_with (first | (at_builtin; refine wpList_append_own _ rfl (.tmp 26) (.tmp 28) 22 rfl W0.heap.size 57 i0 _ 3 48 Tryz.underlying22 hi0 hz0 hz1 hz2 rfl (by decide) (.slice a1 k p1) k (cellsN M) rfl HOO.out.1 ⟨W2.heap.size + 1, 0, none⟩ 1 1 [.int .i64 id, .string kd, .slice u2' l2' q2'] rfl rfl (HNA.out W2 _ _) (by simp [Value.oneCell']) HM.out.1 HM.out.2 HOO.out.2.1 ?_; intro v3 w3 hown3 hgrow3 _))
        obtain ⟨hn, hM, hc, ha, hO, hB⟩ := HA.out
        have hst := nsI_step hn hM hc ha HZ.out hO hB HOO.out.2.2 (OwnRc.kt (own_base HR2.out.1 HB1.out.1.size) (Kt.of_below (b_alloc (b_alloc (Below.refl _ W2) _) _))) hgrow3 hown3
        refine ⟨⟨k + 1, hlt, ?_, hst⟩, ?_⟩
        · go_num
        · simp [intOf]
          omega
      · have HZ : Hid (¬ ndX c K ⟨id, kd, .slice av lv cv, rc⟩ = 0 ∧ allX c K N = ndX c K ⟨id, kd, .slice av lv cv, rc⟩) := ⟨hz, by
          rw [← List.take_append_drop k N, allX_app c K _ _ ha, List.drop_eq_getElem_cons hlt]
          have : N[k] = ⟨id, kd, .slice av lv cv, rc⟩ := (List.getElem?_eq_some_iff.1 hn).2
          rw [this]
          unfold allX
          rw [if_neg hz]⟩
        have HQ : Hid (∀ (e : Ending) (W2 : World) (v : Value), (¬ ndX c K ⟨id, kd, .slice av lv cv, rc⟩ = 0 → e = .returned (.tuple #[.agg #[.int .i64 0, .string ⟨#[]⟩, .slice none 0 0], errV (ndX c K ⟨id, kd, .slice av lv cv, rc⟩)])) → e = .returned (.tuple #[.agg #[.int .i64 0, .string ⟨#[]⟩, .slice none 0 0], .iface 71 (.int .i64 (allX c K N))])) := fun e W2 v h => by rw [h HZ.out.1, errV_ne HZ.out.1, HZ.out.2]
        have HP : Hid (∀ W2 o, Below W1.heap.size W1 W2 → NsP w c K N (.returned (.tuple #[.slice none 0 0, .iface 71 (.int .i64 (allX c K N))])) (W2.alloc o)) := fun W2 o h2 => ⟨fun h => absurd (HZ.out.2.symm.trans h) HZ.out.1, fun h => by rw [errV_ne h], on1K HB1.out.2 (b_alloc h2 o) (Nat.le_refl _)⟩
        generalize allX c K N = z at *
        clear hM hc ha hO hB hR0 hrn hB1 nn hn xw hBw1 hbl hz hBw
        go_upto_region 5 with fail
        rw [← hW1]
        clear hW1
        go_wp2_with (first | (go_at_call 62; refine cN1.mono ?_; rintro e W2 ⟨v2, _, hy, hB2⟩; obtain rfl := HQ.out e W2 v2 hy; have HB2 := Lib.hid hB2; clear hy hB2))
        go_ret2
        exact HP.out _ _ HB2.out
    · obtain rfl : k = N.length := by omega
      rw [List.take_length] at hc ha
      have HF : Hid (NsP w c K N (.returned (.tuple #[.slice a1 N.length p1, .nilIface])) wr) := ⟨fun _ => ⟨_, M, rfl, hc, own_base hO.1 HB0.out.size, fun n hn => own_base (hO.2 n hn) HB0.out.size⟩, fun h => absurd ha h, hBw⟩
      clear hM hc ha hO hB hBw
      go_wp2
      go_ret2
      exact HF.out
end Go.Proofs.YtpmblbhemcippaaGreatDoor
