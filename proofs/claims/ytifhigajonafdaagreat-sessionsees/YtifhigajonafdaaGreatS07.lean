/-
  The walk of graph.Copy.
-/
import Derived.Test.YtifhigajonafdaaGreatS04
import Derived.Test.YtifhigajonafdaaGreatS06
namespace Go.Proofs.YtifhigajonafdaaGreat
open Go.RowKit
set_option linter.unusedVariables false
set_option linter.unusedSimpArgs false

def CpI (W0 : World) (p : Nat) (vt : Value) (N : List Nd) (T : List Te) (k : Nat) (wr : World) : Prop := ∃ (M : List Nd) (vn : Value), M.length = k ∧ cN M = cN (N.take k) ∧ wr.heap[p]? = some (.cells #[vn, vt] 29 (0, 0)) ∧ OwnNs wr W0.heap.size vn M ∧ OwnTs wr W0.heap.size vt T ∧ Below W0.heap.size W0 wr
theorem cpI_step {W0 wr W2 w1 : World} {p k : Nat} {vn vt v2 v1 : Value} {N M : List Nd} {T : List Te} {n : Nd} (hp : W0.heap.size ≤ p) (hn : N[k]? = some n) (hM : M.length = k) (hc : cN M = cN (N.take k)) (hX : wr.heap[p]? = some (.cells #[vn, vt] 29 (0, 0))) (hN : OwnNs wr W0.heap.size vn M) (hT : OwnTs wr W0.heap.size vt T) (hB : Below W0.heap.size W0 wr)
    (hB2 : Below wr.heap.size wr W2) (hR : OwnRc W2 wr.heap.size v2 n.rc) (hg : (W2.alloc (.cells #[.int .i64 n.id, .string n.kd, v2] 48)).grownBy w1 vn.ownBlock) (ho : w1.ownsRow W0.heap.size 48 3 v1 (k + 1) (cellsN M ++ [.int .i64 n.id, .string n.kd, v2])) :
    (w1.cell? ⟨p, 0, none⟩ = some vn ∧ w1.frozen? ⟨p, 0, none⟩ = false) ∧ CpI W0 p vt N T (k + 1) (w1.setCell ⟨p, 0, none⟩ v1) := by
  have hBa : Below wr.heap.size wr (W2.alloc (.cells #[.int .i64 n.id, .string n.kd, v2] 48)) := on1K hB2 (b_alloc (Below.refl _ _) _) (Nat.le_refl _)
  have hNa := own_kt hN.1 (Kt.of_below hBa)
  have hXa := (hBa.block p (Array.getElem?_eq_some_iff.1 hX).1).trans hX
  have hX1 := (hg.block p (Array.getElem?_eq_some_iff.1 hXa).1 (fun e => row_apart hNa hXa (by decide) e.symm)).trans hXa
  have k40 : Kt 52 wr (w1.setCell ⟨p, 0, none⟩ v1) := ((Kt.of_below hBa).trans (.of_own hNa (by decide) hg)).set hX1 (by decide) _ _
  have k54 : Kt 54 wr (w1.setCell ⟨p, 0, none⟩ v1) := ((Kt.of_below hBa).trans (.of_own hNa (by decide) hg)).set hX1 (by decide) _ _
  have k40' : Kt 52 W2 (w1.setCell ⟨p, 0, none⟩ v1) := (((Kt.refl _ _).alloc _).trans (.of_own hNa (by decide) hg)).set hX1 (by decide) _ _
  refine ⟨⟨cell_at hX1 rfl, frz_at hX1⟩, M ++ [⟨n.id, n.kd, v2, n.rc⟩], v1, by simp [hM], ?_, (heap_setCell_same w1 p 0 _ 29 _ hX1).trans rfl, ⟨?_, fun x hx => ?_⟩, hT.kt k54, ?_⟩
  · have e : N.take (k + 1) = N.take k ++ [n] := by rw [List.take_add_one, hn]; rfl
    unfold cN at *
    rw [e, List.map_append, List.map_append, hc]
    rfl
  · rw [List.length_append, hM, cellsN_snoc]
    exact own_set ho (row_apart ho hX1 (by decide)) _ _
  · rcases List.mem_append.1 hx with hx | hx
    · exact (hN.2 x hx).kt k40
    · obtain rfl : x = ⟨n.id, n.kd, v2, n.rc⟩ := by simpa using hx
      exact OwnRc.kt (own_base hR hB.size) k40'
  · exact (below_grown (on1K hB hBa (Nat.le_refl _)) hg (Nat.le_trans hB.size hBa.size) (fun g hg' => (hNa.lt g hg').1)).setCell (p := ⟨p, 0, none⟩) hp _
set_option maxHeartbeats 4000000 in
set_option maxRecDepth 100000 in
theorem copied_any {vn vt : Value} {N : List Nd} {T : List Te} {w : World} (hN : IsN w vn N) (hT : IsT w vt T) (h60 : N.length ≤ 60) (h120 : T.length ≤ 120) (h8 : ∀ n ∈ N, n.rc.length ≤ 1000) :
    Calls Tryz.prog 17 #[.agg #[vn, vt]] w fun e w' => ∃ un ut M, e = .returned (.agg #[un, ut]) ∧ cN M = cN N ∧ OwnNs w' w.heap.size un M ∧ OwnTs w' w.heap.size ut T ∧ Below w.heap.size w w' := by
  obtain ⟨i0, hi0, hz0, hz1, hz2⟩ := info_parts infoN
  obtain ⟨W0, hW0⟩ : ∃ W0, W0 = (w.alloc (.cells #[vn, vt] 29)).alloc (.cells #[.slice none 0 0, .slice none 0 0] 29) := ⟨_, rfl⟩
  have hB0 : Below w.heap.size w W0 := by rw [hW0]; exact b_alloc (b_alloc (Below.refl _ _) _) _
  have hs0 : W0.heap.size = w.heap.size + 2 := by rw [hW0]; simp
  have n0 : W0.heap[w.heap.size]? = some (.cells #[vn, vt] 29 (0, 0)) := by rw [hW0]; exact (heap_alloc_old _ _ (by simp)).trans (heap_alloc_new w _)
  have n1 : W0.heap[w.heap.size + 1]? = some (.cells #[.slice none 0 0, .slice none 0 0] 29 (0, 0)) := by
    have := heap_alloc_new (w.alloc (.cells #[vn, vt] 29)) (.cells #[.slice none 0 0, .slice none 0 0] 29)
    rw [World.size_alloc] at this; rw [hW0]; exact this
  have clT := fun (ty : TypeId) => clone_ties W0 W0.heap.size (Nat.le_refl _) (hT.on hB0) (by omega) ty
  have HH : Hid (Below w.heap.size w W0 ∧ W0.heap.size = w.heap.size + 2 ∧ W0.heap[w.heap.size]? = some (.cells #[vn, vt] 29 (0, 0)) ∧ W0.heap[w.heap.size + 1]? = some (.cells #[.slice none 0 0, .slice none 0 0] 29 (0, 0)) ∧ IsN w vn N) := ⟨hB0, hs0, n0, n1, hN⟩
  obtain ⟨an, cn, rfl, _⟩ := hN
  obtain ⟨am, cm, rfl, _⟩ := hT
  have c1 : W0.cell? ⟨w.heap.size, 1, none⟩ = some (.slice am T.length cm) := cell_at n0 rfl
  clear hB0 n0 n1 hs0
  go_enter Tryz.func17, Tryz.ntmps17
  go_upto_region 1 with fail
  rw [← hW0]
  clear hW0
  go_wp2_with (first | (at_builtin; refine wpList_append_E rfl _ _ 27 rfl _ _ rfl rfl (clT _) ?_; rintro v1 w1 ⟨hown, hgrow⟩; refine Hid.out ?_))
  refine Lib.hid ?_
  obtain ⟨a2, p2, rfl⟩ := own_slice hown
  have hb1 := grown_below hgrow
  obtain ⟨Wc, hWc⟩ : ∃ Wc, Wc = w1.alloc (.cells #[.slice none 0 0, .slice a2 T.length p2] 29) := ⟨_, rfl⟩
  have nc : Wc.heap[w1.heap.size]? = some (.cells #[.slice none 0 0, .slice a2 T.length p2] 29 (0, 0)) := by rw [hWc]; exact heap_alloc_new w1 _
  have hBc : Below W0.heap.size W0 Wc := by rw [hWc]; exact b_alloc hb1 _
  have HI0 : Hid (CpI W0 w1.heap.size (.slice a2 T.length p2) N T 0 Wc ∧ W0.heap.size ≤ w1.heap.size) := ⟨⟨[], .slice none 0 0, rfl, rfl, nc, ⟨World.ownsRow_nil _ _ _ _, fun n hn => by cases hn⟩, by rw [hWc]; exact World.ownsRow.alloc hown _, hBc⟩, hb1.size⟩
  have c0 : Wc.cell? ⟨w.heap.size, 0, none⟩ = some (.slice an N.length cn) := cell_at ((hBc.block _ (by have := HH.out.2.1; omega)).trans HH.out.2.2.1) rfl
  have HWc := Lib.hid hWc
  clear hown hgrow hb1 nc hBc hWc clT c1
  go_upto_region 2 with fail
  rw [← HWc.out]
  go_wp2
  go_loopw [13] (fun i wr => ∃ k : Nat, k ≤ N.length ∧ i = .int .i64 k ∧ CpI W0 w1.heap.size (.slice a2 T.length p2) N T k wr) (fun i _ => N.length - (intOf i).toNat)
  case atStart => exact ⟨0, Nat.zero_le _, rfl, HI0.out.1⟩
  case round =>
    obtain ⟨k, hk, rfl, hC⟩ := hrel
    obtain ⟨M, vm, hM, hcN, hX, hNs, hTs, hB⟩ := hC
    obtain ⟨a1, p1, e1⟩ := own_slice hNs.1
    rw [hM] at e1
    subst e1
    by_cases hlt : k < N.length
    · obtain ⟨n, hn⟩ : ∃ n, N[k]? = some n := ⟨N[k], by simp [hlt]⟩
      have hbw := on1K HH.out.1 hB (Nat.le_refl _)
      obtain ⟨b, off, ean, hbl, ⟨d0, d1, d2⟩, hR0⟩ : ∃ b off, an = some ⟨b, off, none⟩ ∧ b < w.heap.size ∧ (w.cell? ⟨b, off + k * 3, none⟩ = some (.int .i64 n.id) ∧ w.cell? ⟨b, off + k * 3 + 1, none⟩ = some (.string n.kd) ∧ w.cell? ⟨b, off + k * 3 + 2, none⟩ = some n.rv) ∧ IsR w n.rv n.rc := by
        obtain ⟨a', c', e, hle, h0 | ⟨b, off, e2, hb, hL⟩⟩ := HH.out.2.2.2.2
        · rw [h0] at hlt; simp at hlt
        · injection e with e _ _
          obtain ⟨q0, q1, q2, q3⟩ := hL k n hn
          exact ⟨b, off, e.trans e2, hb, ⟨q0, q1, q2⟩, q3⟩
      subst ean
      have d0 := (hbw.cell (p := ⟨b, off + k * 3, none⟩) hbl).trans d0
      have d1 := (hbw.cell (p := ⟨b, off + k * 3 + 1, none⟩) hbl).trans d1
      have d2 := (hbw.cell (p := ⟨b, off + k * 3 + 2, none⟩) hbl).trans d2
      have hRn := h8 n (List.mem_of_getElem? hn)
      obtain ⟨av, lv, cv, hv⟩ := hR0.sl
      obtain ⟨id, kd, rv, rc⟩ := n
      simp only at hv d0 d1 d2 hRn hR0
      subst hv
      obtain ⟨W1, hW1⟩ : ∃ W1, W1 = wr.alloc (.cells #[.int .i64 id, .string kd, .slice av lv cv] 48) := ⟨_, rfl⟩
      have hB1 : Below wr.heap.size wr W1 := by rw [hW1]; exact b_alloc (Below.refl _ _) _
      have nn : W1.heap[wr.heap.size]? = some (.cells #[.int .i64 id, .string kd, .slice av lv cv] 48 (0, 0)) := by rw [hW1]; exact heap_alloc_new wr _
      have cc := copiedNode_any ⟨id, kd, .slice av lv cv, rc⟩ W1.drew (hR0.on (on1K hbw (b_drew hB1) (Nat.le_refl _))) hRn
      have x0 : W1.drew.cell? ⟨w1.heap.size, 0, none⟩ = some (.slice a1 k p1) := (hB1.cell (p := ⟨w1.heap.size, 0, none⟩) (Array.getElem?_eq_some_iff.1 hX).1).trans (cell_at hX rfl)
      have e0 : W1.drew.cell? ⟨wr.heap.size, 0, none⟩ = some (.int .i64 id) := cell_at (w := W1) nn rfl
      have e1 : W1.drew.cell? ⟨wr.heap.size, 1, none⟩ = some (.string kd) := cell_at (w := W1) nn rfl
      have e2 : W1.drew.cell? ⟨wr.heap.size, 2, none⟩ = some (.slice av lv cv) := cell_at (w := W1) nn rfl
      have HP : Hid (∀ W2, Below W1.drew.heap.size W1.drew W2 → Below wr.heap.size wr W2 ∧ W2.cell? ⟨w1.heap.size, 0, none⟩ = some (.slice a1 k p1) ∧ ∀ o, (W2.alloc o).cell? ⟨w1.heap.size, 0, none⟩ = some (.slice a1 k p1)) := fun W2 h2 => by
        have h := on1K hB1 (b_undrew h2) (Nat.le_refl _)
        have hc := (h.cell (p := ⟨w1.heap.size, 0, none⟩) (Array.getElem?_eq_some_iff.1 hX).1).trans (cell_at hX rfl)
        exact ⟨h, hc, cell_old hc⟩
      have HO : Hid (∀ W2 v2, Below wr.heap.size wr W2 → (W2.alloc (.cells #[.int .i64 id, .string kd, v2] 48)).ownsRow W0.heap.size 48 3 (.slice a1 k p1) k (cellsN M) ∧ W0.heap.size ≤ (W2.alloc (.cells #[.int .i64 id, .string kd, v2] 48)).heap.size) := fun W2 v2 h2 => by
        have hBa := on1K h2 (b_alloc (Below.refl _ W2) (.cells #[.int .i64 id, .string kd, v2] 48)) (Nat.le_refl _)
        have := own_kt hNs.1 (Kt.of_below (t := 48) hBa)
        rw [hM] at this
        exact ⟨this, Nat.le_trans hB.size hBa.size⟩
      have HSt : Hid (∀ W2 v2 w3 v1, Below wr.heap.size wr W2 → OwnRc W2 wr.heap.size v2 rc → (W2.alloc (.cells #[.int .i64 id, .string kd, v2] 48)).grownBy w3 (Value.slice a1 k p1).ownBlock → w3.ownsRow W0.heap.size 48 3 v1 (k + 1) (cellsN M ++ [.int .i64 id, .string kd, v2]) → (w3.cell? ⟨w1.heap.size, 0, none⟩ = some (.slice a1 k p1) ∧ w3.frozen? ⟨w1.heap.size, 0, none⟩ = false) ∧ CpI W0 w1.heap.size (.slice a2 T.length p2) N T (k + 1) (w3.setCell ⟨w1.heap.size, 0, none⟩ v1)) := fun W2 v2 w3 v1 q1 q2 q3 q4 => cpI_step HI0.out.2 hn hM hcN hX hNs hTs hB q1 q2 q3 q4
      have HM : Hid (k + 1 ≤ maxLen ∧ (k + 1) * 48 ≤ 140737488355328) := by unfold maxLen; exact ⟨by omega, by omega⟩
      have hzw : Hid (wr.heap.size ≤ W1.drew.heap.size) := hB1.size
      have HW1 := Lib.hid hW1
      have hnb : ¬ b = wr.heap.size := by have := hbw.size; omega
      clear hM hcN hX hNs hTs hB hR0 hRn hbw hB1 nn hn hW1 hbl
      go_upto_region 5 with fail
      rw [← HW1.out]
      go_region_law (first | (go_simp; go_at_call 21; refine cc.mono ?_; rintro e W2 ⟨v2, rfl, hR2, hB2⟩; obtain ⟨hb2, y0, y1⟩ := HP.out W2 hB2; obtain ⟨u2, l2, q2, rfl⟩ := OwnRc.sl hR2; have HR2 : Hid (OwnRc W2 wr.heap.size (.slice u2 l2 q2) rc ∧ Below wr.heap.size wr W2) := ⟨own_base hR2 hzw.out, hb2⟩; clear hR2 hB2 hb2) | (refine step_append_own rfl (.tmp 18) (.tmp 21) 26 rfl W0.heap.size 48 i0 _ 3 48 Tryz.underlying26 hi0 hz0 hz1 hz2 rfl (by decide) (.slice a1 k p1) k (cellsN M) (by simp [Act.eval, Act.put]) (HO.out W2 _ HR2.out.2).1 ⟨W2.heap.size, 0, none⟩ 1 1 [.int .i64 id, .string kd, .slice u2 l2 q2] (by simp [Act.eval, Act.put]) rfl (new_at _ _ _) (by simp [Value.oneCell']) HM.out.1 HM.out.2 (HO.out W2 _ HR2.out.2).2 ?_; intro v1 w3 hown1 hgrow1; obtain ⟨⟨z0, z1⟩, hcp⟩ := HSt.out W2 _ w3 v1 HR2.out.2 HR2.out.1 hgrow1 hown1; obtain ⟨a3, c3, rfl⟩ := own_slice hown1; have HCp := Lib.hid hcp; clear hcp hown1 hgrow1))
      all_goals
        go_wp2
        refine ⟨?_, ?_⟩
        · first | exact ⟨k + 1, by omega, by go_num, HCp.out⟩ | ((repeat apply Exists.intro); refine ⟨?_, rfl⟩; exact ⟨k + 1, by omega, by go_num, HCp.out⟩)
        · simp [intOf]
          try omega
    · obtain rfl : k = N.length := by omega
      rw [List.take_length] at hcN
      have hr1 := (hB.block _ (by have := HH.out.2.1; omega)).trans HH.out.2.2.2.1
      have HF : Hid (cN M = cN N ∧ OwnNs wr W0.heap.size (.slice a1 N.length p1) M ∧ OwnTs wr W0.heap.size (.slice a2 T.length p2) T ∧ Below w.heap.size w wr ∧ Ty wr (w.heap.size + 1) 29) := ⟨hcN, hNs, hTs, on1K HH.out.1 hB (Nat.le_refl _), _, hr1⟩
      have e0 : wr.cell? ⟨w1.heap.size, 0, none⟩ = some (.slice a1 N.length p1) := cell_at hX rfl
      have e1 : wr.cell? ⟨w1.heap.size, 1, none⟩ = some (.slice a2 T.length p2) := cell_at hX rfl
      have r0 : wr.cell? ⟨w.heap.size + 1, 0, none⟩ = some (.slice none 0 0) := cell_at hr1 rfl
      have r1 : wr.cell? ⟨w.heap.size + 1, 1, none⟩ = some (.slice none 0 0) := cell_at hr1 rfl
      have s0 : wr.frozen? ⟨w.heap.size + 1, 0, none⟩ = false := frz_at hr1
      have s1 : wr.frozen? ⟨w.heap.size + 1, 1, none⟩ = false := frz_at hr1
      have t1 : ((wr.setCell ⟨w.heap.size + 1, 0, none⟩ (.slice a1 N.length p1)).setCell ⟨w.heap.size + 1, 1, none⟩ (.slice a2 T.length p2)).heap[w.heap.size + 1]? = some (.cells #[.slice a1 N.length p1, .slice a2 T.length p2] 29 (0, 0)) := heap_setCell_same _ _ 1 _ 29 _ (heap_setCell_same wr _ 0 _ 29 _ hr1)
      have HT : Hid (((wr.setCell ⟨w.heap.size + 1, 0, none⟩ (.slice a1 N.length p1)).setCell ⟨w.heap.size + 1, 1, none⟩ (.slice a2 T.length p2)).cell? ⟨w.heap.size + 1, 0, none⟩ = some (.slice a1 N.length p1) ∧ ((wr.setCell ⟨w.heap.size + 1, 0, none⟩ (.slice a1 N.length p1)).setCell ⟨w.heap.size + 1, 1, none⟩ (.slice a2 T.length p2)).cell? ⟨w.heap.size + 1, 1, none⟩ = some (.slice a2 T.length p2)) := ⟨cell_at t1 rfl, cell_at t1 rfl⟩
      clear hcN hX hNs hTs hB hr1 t1 hk
      go_wp2
      obtain ⟨f1, f2, f3, f4, f5⟩ := HF.out
      obtain ⟨t0, t1⟩ := HT.out
      have hs0' : w.heap.size ≤ W0.heap.size := HH.out.1.size
      refine bodyPost_ret (v := .agg #[.slice a1 N.length p1, .slice a2 T.length p2]) ?_ rfl ⟨_, _, M, rfl, f1, ?_, ?_, ?_⟩
      · simp [results, Tryz.results17, go_sem, t0, t1]
      · exact ⟨own_base (own_kt f2.1 (((Kt.refl _ _).ty f5 (by decide) _ _).ty (f5.set _ _ _) (by decide) _ _)) hs0', fun n hn => own_base ((f2.2 n hn).kt (((Kt.refl _ _).ty f5 (by decide) _ _).ty (f5.set _ _ _) (by decide) _ _)) hs0'⟩
      · exact own_base (f3.kt (((Kt.refl _ _).ty f5 (by decide) _ _).ty (f5.set _ _ _) (by decide) _ _)) hs0'
      · exact (f4.setCell (by show _ ≤ w.heap.size + 1; omega) _).setCell (by show _ ≤ w.heap.size + 1; omega) _
end Go.Proofs.YtifhigajonafdaaGreat

/-
  Ops in memory; what an op does, as contracts of delta.apply speak of it; delta.apply of Gone.
-/
namespace Go.Proofs.YtifhigajonafdaaGreat
open Go.RowKit
set_option linter.unusedVariables false
set_option linter.unusedSimpArgs false

structure Opx where
  wh : Int
  nd : Nd
  pr : Pr
  te : Te
def Opx.cells (o : Opx) : List Value := [.int .i64 o.wh, .int .i64 o.nd.id, .string o.nd.kd, o.nd.rv, .string o.pr.nm, .int .i64 o.pr.t, .int .i64 o.pr.n, .string o.pr.s, .string o.te.bd, .int .i64 o.te.fr, .int .i64 o.te.tt]
abbrev Opx.one (o : Opx) : Value := .agg #[.int .i64 o.wh, .int .i64 o.nd.id, .string o.nd.kd, o.nd.rv, .string o.pr.nm, .int .i64 o.pr.t, .int .i64 o.pr.n, .string o.pr.s, .string o.te.bd, .int .i64 o.te.fr, .int .i64 o.te.tt]
theorem op_len (o : Opx) : o.cells.length = 11 := rfl
def OpSz (o : Opx) : Prop := (o.nd.kd.size ≤ maxLen ∧ Sz o.nd.rc ∧ o.nd.rc.length ≤ maxLen) ∧ (o.pr.nm.size ≤ maxLen ∧ o.pr.s.size ≤ maxLen) ∧ o.te.bd.size ≤ maxLen
def LiesO (w : World) (b off : Nat) (L : List Opx) : Prop := ∀ k o, L[k]? = some o → (∀ i u, o.cells[i]? = some u → w.cell? ⟨b, off + k * 11 + i, none⟩ = some u) ∧ IsR w o.nd.rv o.nd.rc
def IsO (w : World) (v : Value) (L : List Opx) : Prop :=
  ∃ ao c, v = .slice ao L.length c ∧ L.length ≤ c ∧ (L = [] ∨ ∃ b off, ao = some ⟨b, off, none⟩ ∧ b < w.heap.size ∧ LiesO w b off L)
theorem LiesO.on {w w' : World} {b off : Nat} {L : List Opx} (h : LiesO w b off L) (hb : b < w.heap.size) (hB : Below w.heap.size w w') : LiesO w' b off L := fun k o ho => by
  obtain ⟨c0, c1⟩ := h k o ho
  exact ⟨fun i u hu => (hB.cell hb).trans (c0 i u hu), c1.on hB⟩
theorem IsO.on {w w' : World} {v : Value} {L : List Opx} (h : IsO w v L) (hB : Below w.heap.size w w') : IsO w' v L := by
  obtain ⟨ao, c, rfl, hc, h0 | ⟨b, off, rfl, hb, hL⟩⟩ := h
  · exact ⟨ao, c, rfl, hc, .inl h0⟩
  · exact ⟨_, c, rfl, hc, .inr ⟨b, off, rfl, Nat.lt_of_lt_of_le hb hB.size, hL.on hb hB⟩⟩

structure OpS where
  e : Opx → List Nd → List Te → Int
  m : Opx → List Nd → List Te → List Nd
  t : Opx → List Nd → List Te → List Te
def ApOk (S : OpS) (o : Opx) : Prop := ∀ (w : World) (base p : Nat) (N : List Nd) (T : List Te), OG w base p N T → base ≤ w.heap.size → gErr N T = 0 → IsR w o.nd.rv o.nd.rc → OpSz o →
  Calls Tryz.prog 51 #[.pointer (some ⟨p, 0, none⟩), o.one] w fun e w' => e = .returned (errV (S.e o (cN N) T)) ∧ (S.e o (cN N) T = 0 → ∃ N', cN N' = S.m o (cN N) T ∧ OG w' base p N' (S.t o (cN N) T)) ∧ Below base w w'

theorem loN_c (id : Int) : ∀ N : List Nd, loN id (cN N) = loN id N
  | [] => rfl
  | n :: r => by
    have := loN_c id r
    show loN id (n.c :: cN r) = _
    unfold loN
    rw [this]
    rfl
theorem fndN_c (id : Int) (N : List Nd) : fndN id (cN N) = fndN id N := by
  unfold fndN
  rw [loN_c]
  unfold cN
  rw [List.getElem?_map]
  cases N[loN id N]? <;> rfl
theorem chkN_srt : ∀ (N : List Nd) (o : Option Nd), chkN o N = 0 → (∀ q, o = some q → ∀ x ∈ N, q.id < x.id) ∧ SrtN N
  | [], o, _ => ⟨fun q _ x hx => (by cases hx), List.Pairwise.nil⟩
  | n :: r, o, h => by
    have hn : ndE o n = 0 := by
      by_cases e : ndE o n = 0
      · exact e
      · rw [chkN_bad e] at h; exact absurd h e
    rw [chkN_ok hn] at h
    obtain ⟨h1, h2⟩ := chkN_srt r (some n) h
    have hl : n.low o = false := by
      unfold ndE at hn
      by_cases a : idOk n.id = true
      · rw [if_pos a] at hn
        by_cases b : n.low o = true
        · rw [if_pos b] at hn; omega
        · simpa using b
      · rw [if_neg a] at hn; omega
    refine ⟨fun q hq x hx => ?_, List.pairwise_cons.2 ⟨h1 n rfl, h2⟩⟩
    subst hq
    have hlt : q.id < n.id := by simpa [Nd.low] using hl
    rcases List.mem_cons.1 hx with rfl | hx
    · exact hlt
    · exact Int.lt_trans hlt (h1 n rfl x hx)
theorem gErr_lens {N : List Nd} {T : List Te} (h : gErr N T = 0) : N.length ≤ 60 ∧ T.length ≤ 120 ∧ chkN none N = 0 ∧ chkT none T = 0 := by
  unfold gErr at h
  by_cases h1 : 60 < N.length ∨ 120 < T.length
  · rw [if_pos h1] at h; omega
  · rw [if_neg h1] at h
    by_cases h2 : chkN none N = 0
    · rw [if_pos h2] at h; exact ⟨by omega, by omega, h2, h⟩
    · rw [if_neg h2] at h; exact absurd h h2
theorem gErr_srt {N : List Nd} {T : List Te} (h : gErr N T = 0) : SrtN N := (chkN_srt N none (gErr_lens h).2.2.1).2

theorem chkN_rc : ∀ (N : List Nd) (o : Option Nd), chkN o N = 0 → ∀ n ∈ N, idOk n.id = true ∧ nErr n.kd.data.toList = 0 ∧ rErr n.rc = 0
  | [], o, _, n, hn => by cases hn
  | x :: r, o, h, n, hn => by
    have hx : ndE o x = 0 := by
      by_cases e : ndE o x = 0
      · exact e
      · rw [chkN_bad e] at h; exact absurd h e
    rw [chkN_ok hx] at h
    rcases List.mem_cons.1 hn with rfl | hn
    · unfold ndE at hx
      by_cases a : idOk n.id = true
      · rw [if_pos a] at hx
        by_cases b : n.low o = true
        · rw [if_pos b] at hx; omega
        · rw [if_neg b] at hx
          by_cases c : nErr n.kd.data.toList = 0
          · rw [if_pos c] at hx; exact ⟨a, c, hx⟩
          · rw [if_neg c] at hx; exact absurd hx c
      · rw [if_neg a] at hx; omega
    · exact chkN_rc r (some x) h n hn
theorem rErr_le {L : List Pr} (h : rErr L = 0) : L.length ≤ 8 := by
  unfold rErr at h
  by_cases e : 8 < L.length
  · rw [if_pos e] at h; omega
  · omega
theorem gErr_rc8 {N : List Nd} {T : List Te} (h : gErr N T = 0) : ∀ n ∈ N, n.rc.length ≤ 8 := fun n hn => rErr_le (chkN_rc N none (gErr_lens h).2.2.1 n hn).2.2

def goneE (id : Int) (M : List Nd) : Int := if fndN id M = true then 0 else 5
set_option maxHeartbeats 1000000 in
theorem apply_gone (o : Opx) (ho : o.wh = 2) (w : World) (base p : Nat) (N : List Nd) (T : List Te) (hG : OG w base p N T) (hb : base ≤ w.heap.size) (he : gErr N T = 0) (hR : IsR w o.nd.rv o.nd.rc) :
    Calls Tryz.prog 51 #[.pointer (some ⟨p, 0, none⟩), o.one] w fun e w' => e = .returned (errV (goneE o.nd.id (cN N))) ∧ (goneE o.nd.id (cN N) = 0 → ∃ N', cN N' = (cN N).eraseIdx (loN o.nd.id (cN N)) ∧ OG w' base p N' (T.filter (keepT o.nd.id))) ∧ Below base w w' := by
  obtain ⟨l60, l120, _, _⟩ := gErr_lens he
  have hs := gErr_srt he
  obtain ⟨av, lv, cv, hv⟩ := hR.sl
  obtain ⟨wh, ⟨id, kd, rv, rc⟩, ⟨nm, pt, pn, ps⟩, ⟨bd, fr, tt⟩⟩ := o
  simp only at ho hv ⊢
  subst ho hv
  obtain ⟨W0, hW0⟩ : ∃ W0, W0 = w.alloc (.cells #[.int .i64 2, .int .i64 id, .string kd, .slice av lv cv, .string nm, .int .i64 pt, .int .i64 pn, .string ps, .string bd, .int .i64 fr, .int .i64 tt] 56) := ⟨_, rfl⟩
  have hB0 : Below w.heap.size w W0 := by rw [hW0]; exact b_alloc (Below.refl _ _) _
  have hG0 := hG.on hB0
  have n0 : W0.heap[w.heap.size]? = some (.cells #[.int .i64 2, .int .i64 id, .string kd, .slice av lv cv, .string nm, .int .i64 pt, .int .i64 pn, .string ps, .string bd, .int .i64 fr, .int .i64 tt] 56 (0, 0)) := by rw [hW0]; exact heap_alloc_new w _
  have x0 : W0.cell? ⟨w.heap.size, 0, none⟩ = some (.int .i64 2) := cell_at n0 rfl
  have x1 : W0.cell? ⟨w.heap.size, 1, none⟩ = some (.int .i64 id) := cell_at n0 rfl
  unfold goneE
  rw [fndN_c, loN_c]
  cases hf : fndN id N with
  | false =>
    have cD := dropNode_no hG0 hs (by omega) id hf
    have HB : Hid (Below w.heap.size w W0) := hB0
    clear hG0 hG hB0 n0 hs he hR hf
    simp only [Bool.false_eq_true, if_false]
    rw [show errV 5 = .iface 74 (.int .i64 5) from rfl] at cD ⊢
    subst hW0
    go_enter Tryz.func51, Tryz.ntmps51
    go_wp2_with (first | (go_at_call 78; refine cD.mono ?_; rintro e W2 ⟨rfl, hB2⟩))
    go_ret
    exact ⟨rfl, fun h => (by cases h), (on1K HB.out hB2 (Nat.le_refl _)).mono hb⟩
  | true =>
    have cD := dropNode_ok hG0 (Nat.le_trans hb hB0.size) hs (by omega) (by omega) id hf
    have HB : Hid (Below w.heap.size w W0 ∧ OG w base p N T) := ⟨hB0, hG⟩
    clear hG0 hG hB0 n0 hs he hR hf
    simp only [if_true]
    subst hW0
    go_enter Tryz.func51, Tryz.ntmps51
    go_wp2_with (first | (go_at_call 78; refine cD.mono ?_; rintro e W2 ⟨rfl, hG2, hB2⟩))
    go_ret
    refine ⟨rfl, fun _ => ⟨_, ?_, hG2⟩, (HB.out.1.mono hb).trans hB2⟩
    unfold cN
    rw [List.eraseIdx_eq_take_drop_succ, List.eraseIdx_eq_take_drop_succ, List.map_append, List.map_take, List.map_drop]
end Go.Proofs.YtifhigajonafdaaGreat
