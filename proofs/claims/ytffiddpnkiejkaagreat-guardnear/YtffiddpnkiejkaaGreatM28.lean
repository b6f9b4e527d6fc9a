/-
  The walk of graph.Copy.
-/
import Derived.Test.YtffiddpnkiejkaaGreatM06
import Derived.Test.YtffiddpnkiejkaaGreatM09
namespace Go.Proofs.YtffiddpnkiejkaaGreat
open Go.RowKit
set_option linter.unusedVariables false
set_option linter.unusedSimpArgs false

/-- Where the loop of Copy stands. -/
def CpI (W0 : World) (p : Nat) (vt : Value) (N : List Nd) (T : List Te) (k : Nat) (wr : World) : Prop := ∃ (M : List Nd) (vn : Value), M.length = k ∧ cN M = cN (N.take k) ∧ wr.heap[p]? = some (.cells #[vn, vt] 29 (0, 0)) ∧ OwnNs wr W0.heap.size vn M ∧ OwnTs wr W0.heap.size vt T ∧ Below W0.heap.size W0 wr
theorem cpI_step {W0 wr W2 w1 : World} {p k : Nat} {vn vt v2 v1 : Value} {N M : List Nd} {T : List Te} {n : Nd} (hp : W0.heap.size ≤ p) (hn : N[k]? = some n) (hM : M.length = k) (hc : cN M = cN (N.take k)) (hX : wr.heap[p]? = some (.cells #[vn, vt] 29 (0, 0))) (hN : OwnNs wr W0.heap.size vn M) (hT : OwnTs wr W0.heap.size vt T) (hB : Below W0.heap.size W0 wr)
    (hB2 : Below wr.heap.size wr W2) (hR : OwnRc W2 wr.heap.size v2 n.rc) (hg : (W2.alloc (.cells #[.int .i64 n.id, .string n.kd, v2] 34)).grownBy w1 vn.ownBlock) (ho : w1.ownsRow W0.heap.size 34 3 v1 (k + 1) (cellsN M ++ [.int .i64 n.id, .string n.kd, v2])) :
    (w1.cell? ⟨p, 0, none⟩ = some vn ∧ w1.frozen? ⟨p, 0, none⟩ = false) ∧ CpI W0 p vt N T (k + 1) (w1.setCell ⟨p, 0, none⟩ v1) := by
  have hBa : Below wr.heap.size wr (W2.alloc (.cells #[.int .i64 n.id, .string n.kd, v2] 34)) := on1K hB2 (b_alloc (Below.refl _ _) _) (Nat.le_refl _)
  have hNa := own_kt hN.1 (Kt.of_below hBa)
  have hXa := (hBa.block p (Array.getElem?_eq_some_iff.1 hX).1).trans hX
  have hX1 := (hg.block p (Array.getElem?_eq_some_iff.1 hXa).1 (fun e => row_apart hNa hXa (by decide) e.symm)).trans hXa
  have k40 : Kt 45 wr (w1.setCell ⟨p, 0, none⟩ v1) := ((Kt.of_below hBa).trans (.of_own hNa (by decide) hg)).set hX1 (by decide) _ _
  have k54 : Kt 36 wr (w1.setCell ⟨p, 0, none⟩ v1) := ((Kt.of_below hBa).trans (.of_own hNa (by decide) hg)).set hX1 (by decide) _ _
  have k40' : Kt 45 W2 (w1.setCell ⟨p, 0, none⟩ v1) := (((Kt.refl _ _).alloc _).trans (.of_own hNa (by decide) hg)).set hX1 (by decide) _ _
  refine ⟨⟨cell_at hX1 rfl, frz_at hX1⟩, M ++ [⟨n.id, n.kd, v2, n.rc⟩], v1, by simp [hM], ?_, (heap_setCell_same w1 p 0 _ 29 _ hX1).trans rfl, ⟨?_, fun x hx => ?_⟩, hT.kt k54, ?_⟩
  · have e : N.take (k + 1) = N.take k ++ [n] := by rw [List.take_add_one, hn]; rfl
    unfold cN at *
    rw [e, List.map_append, List.map_append, hc]
    rfl
  · rw [List.length_append, hM, cellsN_snoc]
    exact own_set ho (row_apart ho hX1 (by decide)) _ _
  · rcases List.mem_append.1 hx with hx | hx
    · exact (hN.2 x hx).kt k40
    · obtain rfl : x = ⟨n.id, n.kd, v2, n.rc⟩ := by simpa using hx
      exact OwnRc.kt (own_base hR hB.size) k40'
  · exact (below_grown (on1K hB hBa (Nat.le_refl _)) hg (Nat.le_trans hB.size hBa.size) (fun g hg' => (hNa.lt g hg').1)).setCell (p := ⟨p, 0, none⟩) hp _
set_option maxHeartbeats 4000000 in
set_option maxRecDepth 100000 in
theorem copied_any {vn vt : Value} {N : List Nd} {T : List Te} {w : World} (hN : IsN w vn N) (hT : IsT w vt T) (h60 : N.length ≤ 60) (h120 : T.length ≤ 120) (h8 : ∀ n ∈ N, n.rc.length ≤ 1000) :
    Calls Tryz.prog 21 #[.agg #[vn, vt]] w fun e w' => ∃ un ut M, e = .returned (.agg #[un, ut]) ∧ cN M = cN N ∧ OwnNs w' w.heap.size un M ∧ OwnTs w' w.heap.size ut T ∧ Below w.heap.size w w' := by
  obtain ⟨i0, hi0, hz0, hz1, hz2⟩ := info_parts infoN
  obtain ⟨W0, hW0⟩ : ∃ W0, W0 = (w.alloc (.cells #[vn, vt] 29)).alloc (.cells #[.slice none 0 0, .slice none 0 0] 29) := ⟨_, rfl⟩
  have hB0 : Below w.heap.size w W0 := by rw [hW0]; exact b_alloc (b_alloc (Below.refl _ _) _) _
  have hs0 : W0.heap.size = w.heap.size + 2 := by rw [hW0]; simp
  have n0 : W0.heap[w.heap.size]? = some (.cells #[vn, vt] 29 (0, 0)) := by rw [hW0]; exact (heap_alloc_old _ _ (by simp)).trans (heap_alloc_new w _)
  have n1 : W0.heap[w.heap.size + 1]? = some (.cells #[.slice none 0 0, .slice none 0 0] 29 (0, 0)) := by
    have := heap_alloc_new (w.alloc (.cells #[vn, vt] 29)) (.cells #[.slice none 0 0, .slice none 0 0] 29)
    rw [World.size_alloc] at this; rw [hW0]; exact this
  have clT := fun (ty : TypeId) => clone_ties W0 W0.heap.size (Nat.le_refl _) (hT.on hB0) (by omega) ty
  have HH : Hid (Below w.heap.size w W0 ∧ W0.heap.size = w.heap.size + 2 ∧ W0.heap[w.heap.size]? = some (.cells #[vn, vt] 29 (0, 0)) ∧ W0.heap[w.heap.size + 1]? = some (.cells #[.slice none 0 0, .slice none 0 0] 29 (0, 0)) ∧ IsN w vn N) := ⟨hB0, hs0, n0, n1, hN⟩
  obtain ⟨an, cn, rfl, _⟩ := hN
  obtain ⟨am, cm, rfl, _⟩ := hT
  have c1 : W0.cell? ⟨w.heap.size, 1, none⟩ = some (.slice am T.length cm) := cell_at n0 rfl
  clear hB0 n0 n1 hs0
  go_enter Tryz.func21, Tryz.ntmps21
  go_upto_region 1 with fail
  rw [← hW0]
  clear hW0
  go_wp2_with (first | (at_builtin; refine wpList_append_E rfl _ _ 27 rfl _ _ rfl rfl (clT _) ?_; rintro v1 w1 ⟨hown, hgrow⟩; refine Hid.out ?_))
  refine Lib.hid ?_
  obtain ⟨a2, p2, rfl⟩ := own_slice hown
  have hb1 := grown_below hgrow
  obtain ⟨Wc, hWc⟩ : ∃ Wc, Wc = w1.alloc (.cells #[.slice none 0 0, .slice a2 T.length p2] 29) := ⟨_, rfl⟩
  have nc : Wc.heap[w1.heap.size]? = some (.cells #[.slice none 0 0, .slice a2 T.length p2] 29 (0, 0)) := by rw [hWc]; exact heap_alloc_new w1 _
  have hBc : Below W0.heap.size W0 Wc := by rw [hWc]; exact b_alloc hb1 _
  have HI0 : Hid (CpI W0 w1.heap.size (.slice a2 T.length p2) N T 0 Wc ∧ W0.heap.size ≤ w1.heap.size) := ⟨⟨[], .slice none 0 0, rfl, rfl, nc, ⟨World.ownsRow_nil _ _ _ _, fun n hn => by cases hn⟩, by rw [hWc]; exact World.ownsRow.alloc hown _, hBc⟩, hb1.size⟩
  have c0 : Wc.cell? ⟨w.heap.size, 0, none⟩ = some (.slice an N.length cn) := cell_at ((hBc.block _ (by have := HH.out.2.1; omega)).trans HH.out.2.2.1) rfl
  have HWc := Lib.hid hWc
  clear hown hgrow hb1 nc hBc hWc clT c1
  go_upto_region 2 with fail
  rw [← HWc.out]
  go_wp2
  go_loopw [13] (fun i wr => ∃ k : Nat, k ≤ N.length ∧ i = .int .i64 k ∧ CpI W0 w1.heap.size (.slice a2 T.length p2) N T k wr) (fun i _ => N.length - (intOf i).toNat)
  case atStart => exact ⟨0, Nat.zero_le _, rfl, HI0.out.1⟩
  case round =>
    obtain ⟨k, hk, rfl, hC⟩ := hrel
    obtain ⟨M, vm, hM, hcN, hX, hNs, hTs, hB⟩ := hC
    obtain ⟨a1, p1, e1⟩ := own_slice hNs.1
    rw [hM] at e1
    subst e1
    by_cases hlt : k < N.length
    · obtain ⟨n, hn⟩ : ∃ n, N[k]? = some n := ⟨N[k], by simp [hlt]⟩
      have hbw := on1K HH.out.1 hB (Nat.le_refl _)
      obtain ⟨b, off, ean, hbl, ⟨d0, d1, d2⟩, hR0⟩ : ∃ b off, an = some ⟨b, off, none⟩ ∧ b < w.heap.size ∧ (w.cell? ⟨b, off + k * 3, none⟩ = some (.int .i64 n.id) ∧ w.cell? ⟨b, off + k * 3 + 1, none⟩ = some (.string n.kd) ∧ w.cell? ⟨b, off + k * 3 + 2, none⟩ = some n.rv) ∧ IsR w n.rv n.rc := by
        obtain ⟨a', c', e, hle, h0 | ⟨b, off, e2, hb, hL⟩⟩ := HH.out.2.2.2.2
        · rw [h0] at hlt; simp at hlt
        · injection e with e _ _
          obtain ⟨q0, q1, q2, q3⟩ := hL k n hn
          exact ⟨b, off, e.trans e2, hb, ⟨q0, q1, q2⟩, q3⟩
      subst ean
      have d0 := (hbw.cell (p := ⟨b, off + k * 3, none⟩) hbl).trans d0
      have d1 := (hbw.cell (p := ⟨b, off + k * 3 + 1, none⟩) hbl).trans d1
      have d2 := (hbw.cell (p := ⟨b, off + k * 3 + 2, none⟩) hbl).trans d2
      have hRn := h8 n (List.mem_of_getElem? hn)
      obtain ⟨av, lv, cv, hv⟩ := hR0.sl
      obtain ⟨id, kd, rv, rc⟩ := n
      simp only at hv d0 d1 d2 hRn hR0
      subst hv
      obtain ⟨W1, hW1⟩ : ∃ W1, W1 = wr.alloc (.cells #[.int .i64 id, .string kd, .slice av lv cv] 34) := ⟨_, rfl⟩
      have hB1 : Below wr.heap.size wr W1 := by rw [hW1]; exact b_alloc (Below.refl _ _) _
      have nn : W1.heap[wr.heap.size]? = some (.cells #[.int .i64 id, .string kd, .slice av lv cv] 34 (0, 0)) := by rw [hW1]; exact heap_alloc_new wr _
      have cc := copiedNode_any ⟨id, kd, .slice av lv cv, rc⟩ W1.drew (hR0.on (on1K hbw (b_drew hB1) (Nat.le_refl _))) hRn
      have x0 : W1.drew.cell? ⟨w1.heap.size, 0, none⟩ = some (.slice a1 k p1) := (hB1.cell (p := ⟨w1.heap.size, 0, none⟩) (Array.getElem?_eq_some_iff.1 hX).1).trans (cell_at hX rfl)
      have e0 : W1.drew.cell? ⟨wr.heap.size, 0, none⟩ = some (.int .i64 id) := cell_at (w := W1) nn rfl
      have e1 : W1.drew.cell? ⟨wr.heap.size, 1, none⟩ = some (.string kd) := cell_at (w := W1) nn rfl
      have e2 : W1.drew.cell? ⟨wr.heap.size, 2, none⟩ = some (.slice av lv cv) := cell_at (w := W1) nn rfl
      have HP : Hid (∀ W2, Below W1.drew.heap.size W1.drew W2 → Below wr.heap.size wr W2 ∧ W2.cell? ⟨w1.heap.size, 0, none⟩ = some (.slice a1 k p1) ∧ ∀ o, (W2.alloc o).cell? ⟨w1.heap.size, 0, none⟩ = some (.slice a1 k p1)) := fun W2 h2 => by
        have h := on1K hB1 (b_undrew h2) (Nat.le_refl _)
        have hc := (h.cell (p := ⟨w1.heap.size, 0, none⟩) (Array.getElem?_eq_some_iff.1 hX).1).trans (cell_at hX rfl)
        exact ⟨h, hc, cell_old hc⟩
      have HO : Hid (∀ W2 v2, Below wr.heap.size wr W2 → (W2.alloc (.cells #[.int .i64 id, .string kd, v2] 34)).ownsRow W0.heap.size 34 3 (.slice a1 k p1) k (cellsN M) ∧ W0.heap.size ≤ (W2.alloc (.cells #[.int .i64 id, .string kd, v2] 34)).heap.size) := fun W2 v2 h2 => by
        have hBa := on1K h2 (b_alloc (Below.refl _ W2) (.cells #[.int .i64 id, .string kd, v2] 34)) (Nat.le_refl _)
        have := own_kt hNs.1 (Kt.of_below (t := 34) hBa)
        rw [hM] at this
        exact ⟨this, Nat.le_trans hB.size hBa.size⟩
      have HSt : Hid (∀ W2 v2 w3 v1, Below wr.heap.size wr W2 → OwnRc W2 wr.heap.size v2 rc → (W2.alloc (.cells #[.int .i64 id, .string kd, v2] 34)).grownBy w3 (Value.slice a1 k p1).ownBlock → w3.ownsRow W0.heap.size 34 3 v1 (k + 1) (cellsN M ++ [.int .i64 id, .string kd, v2]) → (w3.cell? ⟨w1.heap.size, 0, none⟩ = some (.slice a1 k p1) ∧ w3.frozen? ⟨w1.heap.size, 0, none⟩ = false) ∧ CpI W0 w1.heap.size (.slice a2 T.length p2) N T (k + 1) (w3.setCell ⟨w1.heap.size, 0, none⟩ v1)) := fun W2 v2 w3 v1 q1 q2 q3 q4 => cpI_step HI0.out.2 hn hM hcN hX hNs hTs hB q1 q2 q3 q4
      have HM : Hid (k + 1 ≤ maxLen ∧ (k + 1) * 48 ≤ 140737488355328) := by unfold maxLen; exact ⟨by omega, by omega⟩
      have hzw : Hid (wr.heap.size ≤ W1.drew.heap.size) := hB1.size
      have HW1 := Lib.hid hW1
      have hnb : ¬ b = wr.heap.size := by have := hbw.size; omega
      clear hM hcN hX hNs hTs hB hR0 hRn hbw hB1 nn hn hW1 hbl
      go_upto_region 5 with fail
      rw [← HW1.out]
      go_region_law (first | (go_simp; go_at_call 24; refine cc.mono ?_; rintro e W2 ⟨v2, rfl, hR2, hB2⟩; obtain ⟨hb2, y0, y1⟩ := HP.out W2 hB2; obtain ⟨u2, l2, q2, rfl⟩ := OwnRc.sl hR2; have HR2 : Hid (OwnRc W2 wr.heap.size (.slice u2 l2 q2) rc ∧ Below wr.heap.size wr W2) := ⟨own_base hR2 hzw.out, hb2⟩; clear hR2 hB2 hb2) | (refine step_append_own rfl (.tmp 18) (.tmp 21) 26 rfl W0.heap.size 34 i0 _ 3 48 Tryz.underlying26 hi0 hz0 hz1 hz2 rfl (by decide) (.slice a1 k p1) k (cellsN M) (by simp [Act.eval, Act.put]) (HO.out W2 _ HR2.out.2).1 ⟨W2.heap.size, 0, none⟩ 1 1 [.int .i64 id, .string kd, .slice u2 l2 q2] (by simp [Act.eval, Act.put]) rfl (new_at _ _ _) (by simp [Value.oneCell']) HM.out.1 HM.out.2 (HO.out W2 _ HR2.out.2).2 ?_; intro v1 w3 hown1 hgrow1; obtain ⟨⟨z0, z1⟩, hcp⟩ := HSt.out W2 _ w3 v1 HR2.out.2 HR2.out.1 hgrow1 hown1; obtain ⟨a3, c3, rfl⟩ := own_slice hown1; have HCp := Lib.hid hcp; clear hcp hown1 hgrow1))
      all_goals
        go_wp2
        refine ⟨?_, ?_⟩
        · first | exact ⟨k + 1, by omega, by go_num, HCp.out⟩ | ((repeat apply Exists.intro); refine ⟨?_, rfl⟩; exact ⟨k + 1, by omega, by go_num, HCp.out⟩)
        · simp [intOf]
          try omega
    · obtain rfl : k = N.length := by omega
      rw [List.take_length] at hcN
      have hr1 := (hB.block _ (by have := HH.out.2.1; omega)).trans HH.out.2.2.2.1
      have HF : Hid (cN M = cN N ∧ OwnNs wr W0.heap.size (.slice a1 N.length p1) M ∧ OwnTs wr W0.heap.size (.slice a2 T.length p2) T ∧ Below w.heap.size w wr ∧ Ty wr (w.heap.size + 1) 29) := ⟨hcN, hNs, hTs, on1K HH.out.1 hB (Nat.le_refl _), _, hr1⟩
      have e0 : wr.cell? ⟨w1.heap.size, 0, none⟩ = some (.slice a1 N.length p1) := cell_at hX rfl
      have e1 : wr.cell? ⟨w1.heap.size, 1, none⟩ = some (.slice a2 T.length p2) := cell_at hX rfl
      have r0 : wr.cell? ⟨w.heap.size + 1, 0, none⟩ = some (.slice none 0 0) := cell_at hr1 rfl
      have r1 : wr.cell? ⟨w.heap.size + 1, 1, none⟩ = some (.slice none 0 0) := cell_at hr1 rfl
      have s0 : wr.frozen? ⟨w.heap.size + 1, 0, none⟩ = false := frz_at hr1
      have s1 : wr.frozen? ⟨w.heap.size + 1, 1, none⟩ = false := frz_at hr1
      have t1 : ((wr.setCell ⟨w.heap.size + 1, 0, none⟩ (.slice a1 N.length p1)).setCell ⟨w.heap.size + 1, 1, none⟩ (.slice a2 T.length p2)).heap[w.heap.size + 1]? = some (.cells #[.slice a1 N.length p1, .slice a2 T.length p2] 29 (0, 0)) := heap_setCell_same _ _ 1 _ 29 _ (heap_setCell_same wr _ 0 _ 29 _ hr1)
      have HT : Hid (((wr.setCell ⟨w.heap.size + 1, 0, none⟩ (.slice a1 N.length p1)).setCell ⟨w.heap.size + 1, 1, none⟩ (.slice a2 T.length p2)).cell? ⟨w.heap.size + 1, 0, none⟩ = some (.slice a1 N.length p1) ∧ ((wr.setCell ⟨w.heap.size + 1, 0, none⟩ (.slice a1 N.length p1)).setCell ⟨w.heap.size + 1, 1, none⟩ (.slice a2 T.length p2)).cell? ⟨w.heap.size + 1, 1, none⟩ = some (.slice a2 T.length p2)) := ⟨cell_at t1 rfl, cell_at t1 rfl⟩
      clear hcN hX hNs hTs hB hr1 t1 hk
      go_wp2
      obtain ⟨f1, f2, f3, f4, f5⟩ := HF.out
      obtain ⟨t0, t1⟩ := HT.out
      have hs0' : w.heap.size ≤ W0.heap.size := HH.out.1.size
      refine bodyPost_ret (v := .agg #[.slice a1 N.length p1, .slice a2 T.length p2]) ?_ rfl ⟨_, _, M, rfl, f1, ?_, ?_, ?_⟩
      · simp [results, Tryz.results21, go_sem, t0, t1]
      · exact ⟨own_base (own_kt f2.1 (((Kt.refl _ _).ty f5 (by decide) _ _).ty (f5.set _ _ _) (by decide) _ _)) hs0', fun n hn => own_base ((f2.2 n hn).kt (((Kt.refl _ _).ty f5 (by decide) _ _).ty (f5.set _ _ _) (by decide) _ _)) hs0'⟩
      · exact own_base (f3.kt (((Kt.refl _ _).ty f5 (by decide) _ _).ty (f5.set _ _ _) (by decide) _ _)) hs0'
      · exact (f4.setCell (by show _ ≤ w.heap.size + 1; omega) _).setCell (by show _ ≤ w.heap.size + 1; omega) _
end Go.Proofs.YtffiddpnkiejkaaGreat

/-
  The walk of delta.All, by contracts of delta.apply.
-/
namespace Go.Proofs.YtffiddpnkiejkaaGreat
open Go.RowKit
set_option linter.unusedVariables false
set_option linter.unusedSimpArgs false

/-- The first error of ops, one by one. -/
def OpS.err (S : OpS) : List Opx → List Nd → List Te → Int
  | [], _, _ => 0
  | o :: r, M, T => if S.e o M T = 0 then S.err r (S.m o M T) (S.t o M T) else S.e o M T
/-- Its number. -/
def OpS.at (S : OpS) : List Opx → List Nd → List Te → Nat
  | [], _, _ => 0
  | o :: r, M, T => if S.e o M T = 0 then S.at r (S.m o M T) (S.t o M T) + 1 else 0
/-- What they make of a graph. -/
def OpS.res (S : OpS) : List Opx → List Nd → List Te → List Nd × List Te
  | [], M, T => (M, T)
  | o :: r, M, T => if S.e o M T = 0 then S.res r (S.m o M T) (S.t o M T) else (M, T)
theorem ndE_c (o : Option Nd) (n : Nd) : ndE (o.map Nd.c) n.c = ndE o n := by
  cases o <;> rfl
theorem chkN_c : ∀ (N : List Nd) (o : Option Nd), chkN (o.map Nd.c) (cN N) = chkN o N
  | [], o => by cases o <;> rfl
  | n :: r, o => by
    show chkN (o.map Nd.c) (n.c :: cN r) = _
    have e := ndE_c o n
    by_cases h : ndE o n = 0
    · rw [chkN_ok h, chkN_ok (e.trans h)]
      exact chkN_c r (some n)
    · rw [chkN_bad h, chkN_bad (by rw [e]; exact h), e]
theorem gErr_c (N : List Nd) (T : List Te) : gErr (cN N) T = gErr N T := by
  unfold gErr
  rw [show chkN none (cN N) = chkN none N from chkN_c N none, show (cN N).length = N.length from List.length_map ..]
theorem cN_c (N : List Nd) : cN (cN N) = cN N := by unfold cN; rw [List.map_map]; rfl
theorem cN_len (N : List Nd) : (cN N).length = N.length := List.length_map ..
/-- Ops keep a graph right. -/
def KeepsR (S : OpS) (o : Opx) : Prop := ∀ M T, gErr M T = 0 → S.e o M T = 0 → gErr (S.m o M T) (S.t o M T) = 0
/-- What All gives. -/
def AllPost (S : OpS) (N : List Nd) (T : List Te) (L : List Opx) (w : World) (e : Ending) (w' : World) : Prop :=
  Below w.heap.size w w' ∧ ((S.err L (cN N) T = 0 ∧ ∃ un ut M, e = .returned (.tuple #[.agg #[un, ut], .int .i64 0, .nilIface]) ∧ cN M = (S.res L (cN N) T).1 ∧ OwnNs w' w.heap.size un M ∧ OwnTs w' w.heap.size ut (S.res L (cN N) T).2 ∧ gErr M (S.res L (cN N) T).2 = 0) ∨
   (S.err L (cN N) T ≠ 0 ∧ e = .returned (.tuple #[.agg #[.slice none 0 0, .slice none 0 0], .int .i64 (S.at L (cN N) T), errV (S.err L (cN N) T)])))
/-- Where the loop of All stands. -/
def AlI (S : OpS) (N : List Nd) (T : List Te) (L : List Opx) (W1 : World) (p k : Nat) (wr : World) : Prop := ∃ M U, OG wr W1.heap.size p M U ∧ gErr M U = 0 ∧ S.err L (cN N) T = S.err (L.drop k) (cN M) U ∧ S.at L (cN N) T = k + S.at (L.drop k) (cN M) U ∧ S.res L (cN N) T = S.res (L.drop k) (cN M) U ∧ Below W1.heap.size W1 wr

set_option maxHeartbeats 4000000 in
set_option maxRecDepth 100000 in
theorem all_in (S : OpS) {vn vt vl : Value} {N : List Nd} {T : List Te} {L : List Opx} {w : World} (hN : IsN w vn N) (hT : IsT w vt T) (zN : SzN N) (zT : SzT T) (he : gErr N T = 0) (hL : IsO w vl L) (hl : L.length ≤ 40) (zL : ∀ o ∈ L, OpSz o) (hap : ∀ o ∈ L, ApOk S o) (hri : ∀ o ∈ L, KeepsR S o) :
    Calls Tryz.prog 6 #[.agg #[vn, vt], vl] w (AllPost S N T L w) := by
  obtain ⟨l60, l120, hcn, _⟩ := gErr_lens he
  obtain ⟨W0, hW0⟩ : ∃ W0, W0 = (w.alloc (.cells #[vn, vt] 29)).alloc (.cells #[.slice none 0 0, .slice none 0 0] 29) := ⟨_, rfl⟩
  have hB0 : Below w.heap.size w W0 := by rw [hW0]; exact b_alloc (b_alloc (Below.refl _ _) _) _
  have hs0 : W0.heap.size = w.heap.size + 2 := by rw [hW0]; simp
  have n0 : W0.heap[w.heap.size]? = some (.cells #[vn, vt] 29 (0, 0)) := by rw [hW0]; exact (heap_alloc_old _ _ (by simp)).trans (heap_alloc_new w _)
  have n1 : W0.heap[w.heap.size + 1]? = some (.cells #[.slice none 0 0, .slice none 0 0] 29 (0, 0)) := by
    have := heap_alloc_new (w.alloc (.cells #[vn, vt] 29)) (.cells #[.slice none 0 0, .slice none 0 0] 29)
    rw [World.size_alloc] at this; rw [hW0]; exact this
  have h8 : ∀ n ∈ N, n.rc.length ≤ 1000 := fun n hn => by have := gErr_rc8 he n hn; omega
  have cG := gcheck_any (hN.on hB0) (hT.on hB0) zN zT (by unfold maxLen; omega) (by unfold maxLen; omega)
  rw [he] at cG
  have cC := fun (W1 : World) (hB : Below W0.heap.size W0 W1) => copied_any (hN.on (on1K hB0 hB (Nat.le_refl _))) (hT.on (on1K hB0 hB (Nat.le_refl _))) l60 l120 h8
  obtain ⟨an, cn, hvn, _⟩ := hN
  obtain ⟨am, cm, hvt, _⟩ := hT
  obtain ⟨ao, co, hvl, hco, hLl⟩ := hL
  subst hvn hvt hvl
  have x0 : W0.cell? ⟨w.heap.size, 0, none⟩ = some (.slice an N.length cn) := cell_at n0 rfl
  have x1 : W0.cell? ⟨w.heap.size, 1, none⟩ = some (.slice am T.length cm) := cell_at n0 rfl
  have HI : Hid (Below w.heap.size w W0 ∧ W0.heap[w.heap.size]? = some (.cells #[.slice an N.length cn, .slice am T.length cm] 29 (0, 0)) ∧ W0.heap[w.heap.size + 1]? = some (.cells #[.slice none 0 0, .slice none 0 0] 29 (0, 0)) ∧ (L = [] ∨ ∃ b off, ao = some ⟨b, off, none⟩ ∧ b < w.heap.size ∧ LiesO w b off L) ∧ gErr N T = 0) := ⟨hB0, n0, n1, hLl, he⟩
  clear hB0 n0 n1 hLl hcn he
  rw [show errV 0 = .nilIface from rfl] at cG
  have hlen : ¬ ((L.length : Int) > 40) := by omega
  go_enter Tryz.func6, Tryz.ntmps6
  subst hW0
  go_wp2_with (first | (go_at_call 20; refine cG.mono ?_; rintro e W1 ⟨rfl, hB1⟩; refine Hid.out ?_))
  refine Lib.hid ?_
  have hbw := on1K HI.out.1 hB1 (Nat.le_refl _)
  have n0 := (hB1.block w.heap.size (by rw [hs0]; omega)).trans HI.out.2.1
  have n1 := (hB1.block (w.heap.size + 1) (by rw [hs0]; omega)).trans HI.out.2.2.1
  have cC1 := cC W1 hB1
  have hW1 : w.heap.size + 2 ≤ W1.heap.size := by have := hB1.size; rw [hs0] at this; exact this
  have y0 : W1.cell? ⟨w.heap.size, 0, none⟩ = some (.slice an N.length cn) := cell_at n0 rfl
  have y1 : W1.cell? ⟨w.heap.size, 1, none⟩ = some (.slice am T.length cm) := cell_at n0 rfl
  have HJ : Hid (Below w.heap.size w W1 ∧ W1.heap[w.heap.size + 1]? = some (.cells #[.slice none 0 0, .slice none 0 0] 29 (0, 0)) ∧ (L = [] ∨ ∃ b off, ao = some ⟨b, off, none⟩ ∧ b < w.heap.size ∧ LiesO w b off L) ∧ gErr N T = 0) := ⟨hbw, n1, HI.out.2.2.2.1, HI.out.2.2.2.2⟩
  clear hbw n0 n1 cC hB1 HI cG x0 x1 hs0
  go_wp2_with (first | (go_at_call 21; refine cC1.mono ?_; rintro e W2 ⟨un, ut, M, rfl, hM, hN2, hT2, hB2⟩; refine Hid.out ?_))
  refine Lib.hid ?_
  obtain ⟨a3, c3, hu3⟩ := own_slice hN2.1
  obtain ⟨a4, c4, hu4⟩ := own_slice hT2
  subst hu3 hu4
  have hG3 : OG (W2.alloc (.cells #[.slice a3 M.length c3, .slice a4 T.length c4] 29)) W1.heap.size W2.heap.size M T :=
    ⟨_, _, hB2.size, heap_alloc_new W2 _, hN2.kt (.of_below (b_alloc (Below.refl _ _) _)) (.of_below (b_alloc (Below.refl _ _) _)), hT2.kt (.of_below (b_alloc (Below.refl _ _) _))⟩
  have hg3 : gErr M T = 0 := by rw [← gErr_c, hM, gErr_c]; exact HJ.out.2.2.2
  have HS : Hid (AlI S N T L W1 W2.heap.size 0 (W2.alloc (.cells #[.slice a3 M.length c3, .slice a4 T.length c4] 29))) := ⟨M, T, hG3, hg3, by rw [hM]; rfl, by rw [hM]; simp, by rw [hM]; rfl, b_alloc hB2 _⟩
  clear hG3 hg3 hM hN2 hT2 hB2 cC1 y0 y1
  go_wp2
  go_loopw [27] (fun i wr => ∃ k : Nat, k ≤ L.length ∧ i = .int .i64 k ∧ AlI S N T L W1 W2.heap.size k wr) (fun i _ => L.length - (intOf i).toNat)
  case atStart => exact ⟨0, Nat.zero_le _, rfl, HS.out⟩
  case round =>
    obtain ⟨k, hk, rfl, hA⟩ := hrel
    obtain ⟨M', U, g1, g2, g3, g4, g5, g6⟩ := hA
    have r1 := (g6.block (w.heap.size + 1) (by omega)).trans HJ.out.2.1
    have r0 : wr.cell? ⟨w.heap.size + 1, 0, none⟩ = some (.slice none 0 0) := cell_at r1 rfl
    by_cases hlt : k < L.length
    · obtain ⟨o, ho⟩ : ∃ o, L[k]? = some o := ⟨L[k], by simp [hlt]⟩
      have hom := List.mem_of_getElem? ho
      rcases HJ.out.2.2.1 with h0 | ⟨b, off, hao, hb, hLO⟩
      · rw [h0] at hlt; exact absurd hlt (by simp)
      subst hao
      obtain ⟨hc, hR⟩ := hLO k o ho
      have hbw : Below w.heap.size w wr := on1K HJ.out.1 g6 (Nat.le_refl _)
      have d : ∀ i u, o.cells[i]? = some u → wr.cell? ⟨b, off + k * 11 + i, none⟩ = some u := fun i u hu => (hbw.cell hb).trans (hc i u hu)
      have hX : Below wr.heap.size wr (wr.alloc (.cells #[.int .i64 o.wh, .int .i64 o.nd.id, .string o.nd.kd, o.nd.rv, .string o.pr.nm, .int .i64 o.pr.t, .int .i64 o.pr.n, .string o.pr.s, .string o.te.bd, .int .i64 o.te.fr, .int .i64 o.te.tt] 47)) := b_alloc (Below.refl _ _) _
      have cA := hap o hom _ _ _ _ _ (g1.on hX) (Nat.le_trans g6.size hX.size) g2 (hR.on (on1K hbw hX (Nat.le_refl _))) (zL o hom)
      have hdr : L.drop k = o :: L.drop (k + 1) := by
        obtain ⟨h, rfl⟩ := List.getElem?_eq_some_iff.1 ho
        exact List.drop_eq_getElem_cons h
      rw [hdr] at g3 g4 g5
      have e0 := d 0 _ rfl
      have e1 := d 1 _ rfl
      have e2 := d 2 _ rfl
      have e3 := d 3 _ rfl
      have e4 := d 4 _ rfl
      have e5 := d 5 _ rfl
      have e6 := d 6 _ rfl
      have e7 := d 7 _ rfl
      have e8 := d 8 _ rfl
      have e9 := d 9 _ rfl
      have e10 := d 10 _ rfl
      simp only [Nat.add_zero] at e0
      have HK : Hid (∀ W', Below W1.heap.size (wr.alloc (.cells #[.int .i64 o.wh, .int .i64 o.nd.id, .string o.nd.kd, o.nd.rv, .string o.pr.nm, .int .i64 o.pr.t, .int .i64 o.pr.n, .string o.pr.s, .string o.te.bd, .int .i64 o.te.fr, .int .i64 o.te.tt] 47)) W' → Below W1.heap.size W1 W') := fun W' h' => (g6.trans (hX.mono g6.size)).trans h'
      have hkr := hri o hom
      clear d hc hX hbw hLO
      by_cases hz : S.e o (cN M') U = 0
      · have HZ : Hid (∀ W' M2, Below W1.heap.size W1 W' → cN M2 = S.m o (cN M') U → OG W' W1.heap.size W2.heap.size M2 (S.t o (cN M') U) → AlI S N T L W1 W2.heap.size (k + 1) W') := fun W' M2 hB' hM2 hG' => by
          refine ⟨M2, _, hG', ?_, ?_, ?_, ?_, hB'⟩
          · rw [← gErr_c, hM2]; exact hkr _ _ (by rw [gErr_c]; exact g2) hz
          · rw [g3, hM2]; simp [OpS.err, hz]
          · rw [g4, hM2]; simp [OpS.at, hz]; omega
          · rw [g5, hM2]; simp [OpS.res, hz]
        rw [hz, show errV 0 = .nilIface from rfl] at cA
        clear g1 g2 g3 g4 g5 g6 r1 r0 hap hri zL HS hkr hdr hom ho hk
        obtain ⟨av, lv, cv, hv⟩ := hR.sl
        clear hR
        obtain ⟨wh, ⟨id, kd, rv, rc⟩, ⟨nm, pt, pn, ps⟩, ⟨bd, fr, tt⟩⟩ := o
        simp only at hv e0 e1 e2 e3 e4 e5 e6 e7 e8 e9 e10 HK
        subst hv
        go_wp2_with (first | (go_at_call 22; refine cA.mono ?_; rintro e W' ⟨rfl, h2, hB'⟩))
        obtain ⟨M2, hM2, hG'⟩ := h2 (by trivial)
        refine ⟨⟨k + 1, hlt, ?_, HZ.out W' M2 (HK.out W' hB') hM2 hG'⟩, ?_⟩
        · go_num
        · simp [intOf]
          omega
      · have HZ : Hid (S.err L (cN N) T = S.e o (cN M') U ∧ S.at L (cN N) T = k) := ⟨by rw [g3]; simp [OpS.err, hz], by rw [g4]; simp [OpS.at, hz]⟩
        obtain ⟨z, hzz⟩ : ∃ z, z = S.e o (cN M') U := ⟨_, rfl⟩
        rw [← hzz] at cA hz HZ
        rw [errV_ne hz] at cA
        have HQ : Hid (∀ W', Below W1.heap.size W1 W' → W'.heap[w.heap.size + 1]? = some (.cells #[.slice none 0 0, .slice none 0 0] 29 (0, 0)) ∧ Below w.heap.size w W') := fun W' h' => ⟨(h'.block _ (by omega)).trans HJ.out.2.1, on1K HJ.out.1 h' (Nat.le_refl _)⟩
        have HZ0 : Hid (z ≠ 0) := hz
        clear g1 g2 g3 g4 g5 g6 r1 r0 hap hri zL HS hkr hdr hom ho hk hzz hz
        obtain ⟨av, lv, cv, hv⟩ := hR.sl
        clear hR
        obtain ⟨wh, ⟨id, kd, rv, rc⟩, ⟨nm, pt, pn, ps⟩, ⟨bd, fr, tt⟩⟩ := o
        simp only at hv e0 e1 e2 e3 e4 e5 e6 e7 e8 e9 e10 HK
        subst hv
        go_wp2_with (first | (go_at_call 22; refine cA.mono ?_; rintro e W' ⟨rfl, h2, hB'⟩; obtain ⟨q1, q2⟩ := HQ.out W' (HK.out W' hB'); have t0 : W'.cell? ⟨w.heap.size + 1, 0, none⟩ = some (.slice none 0 0) := cell_at q1 rfl; have t1 : W'.cell? ⟨w.heap.size + 1, 1, none⟩ = some (.slice none 0 0) := cell_at q1 rfl; have f0 : W'.frozen? ⟨w.heap.size + 1, 0, none⟩ = false := frz_at q1; have f1 : W'.frozen? ⟨w.heap.size + 1, 1, none⟩ = false := frz_at q1; have HW' := Lib.hid (And.intro q1 q2); clear q1 q2 h2 hB'))
        have u1 : ((W'.setCell ⟨w.heap.size + 1, 0, none⟩ (.slice none 0 0)).setCell ⟨w.heap.size + 1, 1, none⟩ (.slice none 0 0)).heap[w.heap.size + 1]? = some (.cells #[.slice none 0 0, .slice none 0 0] 29 (0, 0)) := heap_setCell_same _ _ 1 _ 29 _ (heap_setCell_same W' _ 0 _ 29 _ HW'.out.1)
        have v0 : ((W'.setCell ⟨w.heap.size + 1, 0, none⟩ (.slice none 0 0)).setCell ⟨w.heap.size + 1, 1, none⟩ (.slice none 0 0)).cell? ⟨w.heap.size + 1, 0, none⟩ = some (.slice none 0 0) := cell_at u1 rfl
        have v1 : ((W'.setCell ⟨w.heap.size + 1, 0, none⟩ (.slice none 0 0)).setCell ⟨w.heap.size + 1, 1, none⟩ (.slice none 0 0)).cell? ⟨w.heap.size + 1, 1, none⟩ = some (.slice none 0 0) := cell_at u1 rfl
        refine bodyPost_ret (v := .tuple #[.agg #[.slice none 0 0, .slice none 0 0], .int .i64 k, .iface 74 (.int .i64 z)]) ?_ rfl ⟨(HW'.out.2.setCell (by show _ ≤ w.heap.size + 1; omega) _).setCell (by show _ ≤ w.heap.size + 1; omega) _, .inr ⟨by rw [HZ.out.1]; exact HZ0.out, ?_⟩⟩
        · simp [results, Tryz.results6, go_sem, v0, v1]
        · rw [HZ.out.1, HZ.out.2, errV_ne HZ0.out]
    · have hdr : L.drop k = [] := List.drop_eq_nil_of_le (by omega)
      rw [hdr] at g3 g4 g5
      obtain ⟨vn', vt', o1, o2, o3, o4⟩ := g1
      obtain ⟨a5, c5, hu5⟩ := own_slice o3.1
      obtain ⟨a6, c6, hu6⟩ := own_slice o4
      subst hu5 hu6
      have HZ : Hid (S.err L (cN N) T = 0 ∧ (S.res L (cN N) T) = (cN M', U) ∧ OwnNs wr W1.heap.size (.slice a5 M'.length c5) M' ∧ OwnTs wr W1.heap.size (.slice a6 U.length c6) U ∧ Ty wr (w.heap.size + 1) 29 ∧ Below w.heap.size w wr ∧ gErr M' U = 0) := ⟨g3, g5, o3, o4, ⟨_, r1⟩, on1K HJ.out.1 g6 (Nat.le_refl _), g2⟩
      have p0 : wr.cell? ⟨W2.heap.size, 0, none⟩ = some (.slice a5 M'.length c5) := cell_at o2 rfl
      have p1 : wr.cell? ⟨W2.heap.size, 1, none⟩ = some (.slice a6 U.length c6) := cell_at o2 rfl
      have r2 : wr.cell? ⟨w.heap.size + 1, 1, none⟩ = some (.slice none 0 0) := cell_at r1 rfl
      have f0 : wr.frozen? ⟨w.heap.size + 1, 0, none⟩ = false := frz_at r1
      have f1 : wr.frozen? ⟨w.heap.size + 1, 1, none⟩ = false := frz_at r1
      have u1 : ((wr.setCell ⟨w.heap.size + 1, 0, none⟩ (.slice a5 M'.length c5)).setCell ⟨w.heap.size + 1, 1, none⟩ (.slice a6 U.length c6)).heap[w.heap.size + 1]? = some (.cells #[.slice a5 M'.length c5, .slice a6 U.length c6] 29 (0, 0)) := heap_setCell_same _ _ 1 _ 29 _ (heap_setCell_same wr _ 0 _ 29 _ r1)
      have HU : Hid (((wr.setCell ⟨w.heap.size + 1, 0, none⟩ (.slice a5 M'.length c5)).setCell ⟨w.heap.size + 1, 1, none⟩ (.slice a6 U.length c6)).heap[w.heap.size + 1]? = some (.cells #[.slice a5 M'.length c5, .slice a6 U.length c6] 29 (0, 0))) := u1
      clear u1 g2 g3 g4 g5 g6 r1 hap hri zL HS hdr hk o1 o2 o3 o4
      go_wp2
      obtain ⟨z1, z2, z3, z4, z5, z6, z7⟩ := HZ.out
      have v0 := cell_at (i := 0) HU.out rfl
      have v1 := cell_at (i := 1) HU.out rfl
      have hww : w.heap.size ≤ W1.heap.size := by omega
      refine bodyPost_ret (v := .tuple #[.agg #[.slice a5 M'.length c5, .slice a6 U.length c6], .int .i64 0, .nilIface]) ?_ rfl ⟨(z6.setCell (by show _ ≤ w.heap.size + 1; omega) _).setCell (by show _ ≤ w.heap.size + 1; omega) _, .inl ⟨z1, _, _, M', rfl, by rw [z2], ?_, ?_, by rw [z2]; exact z7⟩⟩
      · simp [results, Tryz.results6, go_sem, v0, v1]
      · exact ⟨own_base (own_kt z3.1 (((Kt.refl _ _).ty z5 (by decide) _ _).ty (z5.set _ _ _) (by decide) _ _)) hww, fun n hn => own_base ((z3.2 n hn).kt (((Kt.refl _ _).ty z5 (by decide) _ _).ty (z5.set _ _ _) (by decide) _ _)) hww⟩
      · rw [z2]
        exact own_base (z4.kt (((Kt.refl _ _).ty z5 (by decide) _ _).ty (z5.set _ _ _) (by decide) _ _)) hww
end Go.Proofs.YtffiddpnkiejkaaGreat
