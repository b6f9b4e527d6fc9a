/-
  The walk of schema.Copy.
-/
import Derived.Test.YtpmblbhemcippaaGreatDoorM13
namespace Go.Proofs.YtpmblbhemcippaaGreatDoor
open Go.RowKit
set_option linter.unusedVariables false
set_option linter.unusedSimpArgs false

def Apt (L : List Kd) : Prop := L.Pairwise fun a b => ∀ g, a.vf.ownBlock = some g → b.vf.ownBlock ≠ some g
theorem Apt.snoc {L : List Kd} {k : Kd} (h : Apt L) (hk : ∀ x ∈ L, ∀ g, x.vf.ownBlock = some g → k.vf.ownBlock ≠ some g) : Apt (L ++ [k]) := by
  unfold Apt
  rw [List.pairwise_append]
  refine ⟨h, List.pairwise_singleton _ _, fun a ha b hb => ?_⟩
  have e : b = k := by simpa using hb
  rw [e]
  exact hk a ha
def CsI (W0 : World) (p : Nat) (ub : Value) (L : List Kd) (B : List Bd) (k : Nat) (wr : World) : Prop := ∃ (M : List Kd) (uk : Value), M.length = k ∧ M.map kq3 = (L.take k).map kq3 ∧ wr.heap[p]? = some (.cells #[uk, ub] 46 (0, 0)) ∧ OwnKs wr W0.heap.size uk M ∧ OwnBs wr W0.heap.size ub B ∧ Below W0.heap.size W0 wr ∧ Apt M
theorem csI_step {W0 wr W5 w7 : World} {p k : Nat} {uk ub v1 v2 v7 : Value} {L M : List Kd} {B : List Bd} {q : Kd} (hp : W0.heap.size ≤ p) (hq : L[k]? = some q) (hM : M.length = k) (hc : M.map kq3 = (L.take k).map kq3) (hX : wr.heap[p]? = some (.cells #[uk, ub] 46 (0, 0))) (hN : OwnKs wr W0.heap.size uk M) (hT : OwnBs wr W0.heap.size ub B) (hB : Below W0.heap.size W0 wr) (hAp : Apt M)
    (hB5 : Below wr.heap.size wr W5) (h1 : W5.ownsRow W0.heap.size 9 1 v1 q.of.length (cellsS q.of)) (h2 : W5.ownsRow wr.heap.size 28 4 v2 q.fs.length (cellsF q.fs)) (hg : (W5.alloc (.cells #[.string (bs q.nm), v1, v2] 32)).grownBy w7 uk.ownBlock) (ho : w7.ownsRow W0.heap.size 32 3 v7 (k + 1) (cellsK M ++ [.string (bs q.nm), v1, v2])) :
    (w7.cell? ⟨p, 0, none⟩ = some uk ∧ w7.frozen? ⟨p, 0, none⟩ = false) ∧ CsI W0 p ub L B (k + 1) (w7.setCell ⟨p, 0, none⟩ v7) := by
  have hBa : Below wr.heap.size wr (W5.alloc (.cells #[.string (bs q.nm), v1, v2] 32)) := on1K hB5 (b_alloc (Below.refl _ _) _) (Nat.le_refl _)
  have hNa := own_kt hN.1 (Kt.of_below hBa)
  have hXa := (hBa.block p (Array.getElem?_eq_some_iff.1 hX).1).trans hX
  have hX1 := (hg.block p (Array.getElem?_eq_some_iff.1 hXa).1 (fun e => row_apart hNa hXa (by decide) e.symm)).trans hXa
  have kk : ∀ t : TypeId, t ≠ 32 → t ≠ 46 → Kt t wr (w7.setCell ⟨p, 0, none⟩ v7) := fun t n1 n2 => ((Kt.of_below hBa).trans (.of_own hNa (Ne.symm n1) hg)).set hX1 (Ne.symm n2) _ _
  have k5 : ∀ t : TypeId, t ≠ 32 → t ≠ 46 → Kt t W5 (w7.setCell ⟨p, 0, none⟩ v7) := fun t n1 n2 => (((Kt.refl _ _).alloc _).trans (.of_own hNa (Ne.symm n1) hg)).set hX1 (Ne.symm n2) _ _
  refine ⟨⟨cell_at hX1 rfl, frz_at hX1⟩, M ++ [⟨q.nm, q.of, q.fs, v1, v2⟩], v7, by simp [hM], ?_, (heap_setCell_same w7 p 0 _ 46 _ hX1).trans rfl, ⟨?_, fun x hx => ?_⟩, own_kt hT (kk 34 (by decide) (by decide)), ?_, hAp.snoc fun x hx g hg1 hg2 => ?_⟩
  · have e : L.take (k + 1) = L.take k ++ [q] := by rw [List.take_add_one, hq]; rfl
    rw [e, List.map_append, List.map_append, hc]
    rfl
  · rw [List.length_append, hM, cellsK_app, show cellsK [(⟨q.nm, q.of, q.fs, v1, v2⟩ : Kd)] = [.string (bs q.nm), v1, v2] by simp [cellsK, Kd.cells]]
    exact own_set ho (row_apart ho hX1 (by decide)) _ _
  · rcases List.mem_append.1 hx with hx | hx
    · exact ⟨own_kt (hN.2 x hx).1 (kk 9 (by decide) (by decide)), own_kt (hN.2 x hx).2 (kk 28 (by decide) (by decide))⟩
    · obtain rfl : x = ⟨q.nm, q.of, q.fs, v1, v2⟩ := by simpa using hx
      exact ⟨own_kt h1 (k5 9 (by decide) (by decide)), own_base (own_kt h2 (k5 28 (by decide) (by decide))) hB.size⟩
  · exact (below_grown (on1K hB hBa (Nat.le_refl _)) hg (Nat.le_trans hB.size hBa.size) (fun g hg' => (hNa.lt g hg').1)).setCell (p := ⟨p, 0, none⟩) hp _
  · have h3 := ((hN.2 x hx).2.lt g hg1).2
    have h4 := (h2.lt g hg2).1
    omega
set_option maxHeartbeats 4000000 in
set_option maxRecDepth 100000 in
theorem scopy_any {vk vb : Value} {L : List Kd} {B : List Bd} {w : World} (hK : IsK w vk L) (hP : Parts w L) (hb : IsB w vb B) (hl : L.length ≤ 1000) (hlb : B.length ≤ 1000) (hs : ∀ k ∈ L, k.of.length * 16 ≤ 140737488355328 ∧ k.fs.length * 32 ≤ 140737488355328) :
    Calls Tryz.prog 30 #[.agg #[vk, vb]] w fun e w' => ∃ uk ub M, e = .returned (.agg #[uk, ub]) ∧ M.map kq3 = L.map kq3 ∧ OwnKs w' w.heap.size uk M ∧ OwnBs w' w.heap.size ub B ∧ Below w.heap.size w w' ∧ Apt M := by
  obtain ⟨i0, hi0, hz0, hz1, hz2⟩ := info_parts infoKd
  obtain ⟨W0, hW0⟩ : ∃ W0, W0 = (w.alloc (.cells #[vk, vb] 46)).alloc (.cells #[.slice none 0 0, .slice none 0 0] 46) := ⟨_, rfl⟩
  have hB0 : Below w.heap.size w W0 := by rw [hW0]; exact b_alloc (b_alloc (Below.refl _ _) _) _
  have hs0 : W0.heap.size = w.heap.size + 2 := by rw [hW0]; simp
  have n0 : W0.heap[w.heap.size]? = some (.cells #[vk, vb] 46 (0, 0)) := by rw [hW0]; exact (heap_alloc_old _ _ (by simp)).trans (heap_alloc_new w _)
  have n1 : W0.heap[w.heap.size + 1]? = some (.cells #[.slice none 0 0, .slice none 0 0] 46 (0, 0)) := by
    have := heap_alloc_new (w.alloc (.cells #[vk, vb] 46)) (.cells #[.slice none 0 0, .slice none 0 0] 46)
    rw [World.size_alloc] at this; rw [hW0]; exact this
  have clB := fun (ty : TypeId) => clone_bonds W0 W0.heap.size (Nat.le_refl _) (hb.on hB0) hlb ty
  obtain ⟨ak, ck, evk, hVK⟩ : ∃ ak ck, vk = .slice ak L.length ck ∧ ∀ k q, L[k]? = some q → ∃ b off, ak = some ⟨b, off, none⟩ ∧ b < w.heap.size ∧ w.cell? ⟨b, off + k * 3, none⟩ = some (.string (bs q.nm)) ∧ w.cell? ⟨b, off + k * 3 + 1, none⟩ = some q.vo ∧ w.cell? ⟨b, off + k * 3 + 2, none⟩ = some q.vf := by
    rcases hK with ⟨rfl, rfl⟩ | ⟨b, off, cap, rfl, _, _, hb, hl⟩
    · exact ⟨none, 0, rfl, fun k q h => by cases h⟩
    · exact ⟨_, cap, rfl, fun k q h => ⟨b, off, rfl, hb, hl k q h⟩⟩
  obtain ⟨ab, cb, evb⟩ : ∃ ab cb, vb = .slice ab B.length cb := by
    rcases hb with ⟨rfl, rfl⟩ | ⟨b, off, cap, rfl, _⟩
    · exact ⟨none, 0, rfl⟩
    · exact ⟨_, _, rfl⟩
  subst evk evb
  have HH : Hid (Below w.heap.size w W0 ∧ W0.heap.size = w.heap.size + 2 ∧ W0.heap[w.heap.size]? = some (.cells #[.slice ak L.length ck, .slice ab B.length cb] 46 (0, 0)) ∧ W0.heap[w.heap.size + 1]? = some (.cells #[.slice none 0 0, .slice none 0 0] 46 (0, 0)) ∧ Parts w L) := ⟨hB0, hs0, n0, n1, hP⟩
  have HVK := Lib.hid hVK
  have HSm := Lib.hid hs
  have c1 : W0.cell? ⟨w.heap.size, 1, none⟩ = some (.slice ab B.length cb) := cell_at n0 rfl
  clear hB0 n0 n1 hs0 hK hP hb hVK hs
  go_enter Tryz.func30, Tryz.ntmps30
  go_upto_region 1 with fail
  rw [← hW0]
  clear hW0
  go_wp2_with (first | (at_builtin; refine wpList_append_E rfl _ _ 44 rfl _ _ rfl rfl (clB _) ?_; rintro v1 w1 ⟨hown, hgrow⟩; refine Hid.out ?_))
  refine Lib.hid ?_
  obtain ⟨a2, p2, rfl⟩ := own_slice hown
  have hb1 := grown_below hgrow
  obtain ⟨Wc, hWc⟩ : ∃ Wc, Wc = w1.alloc (.cells #[.slice none 0 0, .slice a2 B.length p2] 46) := ⟨_, rfl⟩
  have nc : Wc.heap[w1.heap.size]? = some (.cells #[.slice none 0 0, .slice a2 B.length p2] 46 (0, 0)) := by rw [hWc]; exact heap_alloc_new w1 _
  have hBc : Below W0.heap.size W0 Wc := by rw [hWc]; exact b_alloc hb1 _
  have HI0 : Hid (CsI W0 w1.heap.size (.slice a2 B.length p2) L B 0 Wc ∧ W0.heap.size ≤ w1.heap.size) := ⟨⟨[], .slice none 0 0, rfl, rfl, nc, ⟨World.ownsRow_nil _ _ _ _, fun n hn => by cases hn⟩, by rw [hWc]; exact World.ownsRow.alloc hown _, hBc, List.Pairwise.nil⟩, hb1.size⟩
  have c0 : Wc.cell? ⟨w.heap.size, 0, none⟩ = some (.slice ak L.length ck) := cell_at ((hBc.block _ (by have := HH.out.2.1; omega)).trans HH.out.2.2.1) rfl
  have HWc := Lib.hid hWc
  clear hown hgrow hb1 nc hBc hWc clB c1
  go_upto_region 2 with fail
  rw [← HWc.out]
  go_wp2
  go_loopw [13] (fun i wr => ∃ k : Nat, k ≤ L.length ∧ i = .int .i64 k ∧ CsI W0 w1.heap.size (.slice a2 B.length p2) L B k wr) (fun i _ => L.length - (intOf i).toNat)
  case atStart => exact ⟨0, Nat.zero_le _, rfl, HI0.out.1⟩
  case round =>
    obtain ⟨k, hk, rfl, hC⟩ := hrel
    obtain ⟨M, vm, hM, hcN, hX, hNs, hTs, hB, hAp⟩ := hC
    have HAp := Lib.hid hAp
    clear hAp
    obtain ⟨a1, p1, e1⟩ := own_slice hNs.1
    rw [hM] at e1
    subst e1
    by_cases hlt : k < L.length
    · obtain ⟨q, hq⟩ : ∃ q, L[k]? = some q := ⟨L[k], by simp [hlt]⟩
      have hbw := on1K HH.out.1 hB (Nat.le_refl _)
      obtain ⟨b, off, rfl, hbl, d0, d1, d2⟩ := HVK.out k q hq
      have d0 := (hbw.cell (p := ⟨b, off + k * 3, none⟩) hbl).trans d0
      have d1 := (hbw.cell (p := ⟨b, off + k * 3 + 1, none⟩) hbl).trans d1
      have d2 := (hbw.cell (p := ⟨b, off + k * 3 + 2, none⟩) hbl).trans d2
      obtain ⟨hSo, hFo⟩ := HH.out.2.2.2.2 q (List.mem_of_getElem? hq)
      obtain ⟨ms, mf⟩ := HSm.out q (List.mem_of_getElem? hq)
      obtain ⟨ao, lo, co, evo⟩ : ∃ a l c, q.vo = .slice a l c := by
        rcases hSo with ⟨a, c, e, _⟩ | ⟨_, _, c, e, _⟩
        · exact ⟨_, _, _, e⟩
        · exact ⟨_, _, _, e⟩
      obtain ⟨af, lf, cf, evf⟩ : ∃ a l c, q.vf = .slice a l c := by
        rcases hFo with ⟨a, c, e, _⟩ | ⟨_, _, c, e, _⟩
        · exact ⟨_, _, _, e⟩
        · exact ⟨_, _, _, e⟩
      have HQ := Lib.hid hq
      obtain ⟨nm, of, fs, vo, vf⟩ := q
      simp only at evo evf d0 d1 d2 hSo hFo ms mf
      subst evo evf
      obtain ⟨W1, hW1⟩ : ∃ W1, W1 = wr.alloc (.cells #[.string (bs nm), .slice ao lo co, .slice af lf cf] 32) := ⟨_, rfl⟩
      have hB1 : Below wr.heap.size wr W1 := by rw [hW1]; exact b_alloc (Below.refl _ _) _
      have nn : W1.heap[wr.heap.size]? = some (.cells #[.string (bs nm), .slice ao lo co, .slice af lf cf] 32 (0, 0)) := by rw [hW1]; exact heap_alloc_new wr _
      have clS := fun (ty : TypeId) => clone_names W1 W0.heap.size (Nat.le_trans hB.size hB1.size) (hSo.on (on1K hbw hB1 (Nat.le_refl _))) ms ty
      have e1 : W1.cell? ⟨wr.heap.size, 1, none⟩ = some (.slice ao lo co) := cell_at nn rfl
      have HA : Hid (M.length = k ∧ M.map kq3 = (L.take k).map kq3 ∧ wr.heap[w1.heap.size]? = some (.cells #[.slice a1 k p1, .slice a2 B.length p2] 46 (0, 0)) ∧ OwnKs wr W0.heap.size (.slice a1 k p1) M ∧ OwnBs wr W0.heap.size (.slice a2 B.length p2) B ∧ Below W0.heap.size W0 wr) := ⟨hM, hcN, hX, hNs, hTs, hB⟩
      have HB1 : Hid (Below wr.heap.size wr W1 ∧ W1.heap[wr.heap.size]? = some (.cells #[.string (bs nm), .slice ao lo co, .slice af lf cf] 32 (0, 0)) ∧ Below w.heap.size w wr ∧ IsF w (.slice af lf cf) fs) := ⟨hB1, nn, hbw, hFo⟩
      have HW1 := Lib.hid hW1
      have hnb : ¬ b = wr.heap.size := by have := hbw.size; omega
      clear hM hcN hX hNs hTs hB hbw hB1 nn hq hW1 hbl hSo hFo
      go_upto_region 5 with fail
      rw [← HW1.out]
      go_wp2_with (first | (at_builtin; refine wpList_append_E rfl _ _ 29 rfl _ _ rfl rfl (clS _) ?_; rintro v1 w2 ⟨ho1, hg1⟩; refine Hid.out ?_))
      refine Lib.hid ?_
      obtain ⟨asn, cs', rfl⟩ := own_slice ho1
      have hb2 := grown_below hg1
      have n2 := (hb2.block _ (Array.getElem?_eq_some_iff.1 HB1.out.2.1).1).trans HB1.out.2.1
      have f1 : w2.cell? ⟨wr.heap.size, 1, none⟩ = some (.slice ao lo co) := cell_at n2 rfl
      have f1' : w2.frozen? ⟨wr.heap.size, 1, none⟩ = false := frz_at n2
      obtain ⟨W3, hW3⟩ : ∃ W3, W3 = w2.setCell ⟨wr.heap.size, 1, none⟩ (.slice asn of.length cs') := ⟨_, rfl⟩
      have n3 : W3.heap[wr.heap.size]? = some (.cells #[.string (bs nm), .slice asn of.length cs', .slice af lf cf] 32 (0, 0)) := by rw [hW3]; exact (heap_setCell_same w2 _ 1 _ 32 _ n2).trans rfl
      have hB3 : Below wr.heap.size wr W3 := by rw [hW3]; exact (on1K HB1.out.1 hb2 (Nat.le_refl _)).setCell (p := ⟨wr.heap.size, 1, none⟩) (Nat.le_refl _) _
      have ho3 : W3.ownsRow W0.heap.size 9 1 (.slice asn of.length cs') of.length (cellsS of) := by rw [hW3]; exact own_set ho1 (row_apart ho1 n2 (by decide)) _ _
      have clF := fun (ty : TypeId) => clone_fields W3 wr.heap.size hB3.size (HB1.out.2.2.2.on (on1K HB1.out.2.2.1 hB3 (Nat.le_refl _))) mf ty
      have e3 : W3.cell? ⟨wr.heap.size, 2, none⟩ = some (.slice af lf cf) := cell_at n3 rfl
      have HW3 := Lib.hid hW3
      have H3 : Hid (W3.heap[wr.heap.size]? = some (.cells #[.string (bs nm), .slice asn of.length cs', .slice af lf cf] 32 (0, 0)) ∧ Below wr.heap.size wr W3 ∧ W3.ownsRow W0.heap.size 9 1 (.slice asn of.length cs') of.length (cellsS of)) := ⟨n3, hB3, ho3⟩
      clear ho1 hg1 hb2 n2 hW3 n3 hB3 ho3 clS
      go_upto_region 6 with fail
      rw [← HW3.out]
      clear f1 f1' e1
      go_wp2_with (first | (at_builtin; refine wpList_append_E rfl _ _ 30 rfl _ _ rfl rfl (clF _) ?_; rintro v2 w4 ⟨ho4, hg4⟩; refine Hid.out ?_))
      refine Lib.hid ?_
      obtain ⟨ag, cg, rfl⟩ := own_slice ho4
      have hb4 := grown_below hg4
      have n4 := (hb4.block _ (Array.getElem?_eq_some_iff.1 H3.out.1).1).trans H3.out.1
      have f1 : w4.cell? ⟨wr.heap.size, 2, none⟩ = some (.slice af lf cf) := cell_at n4 rfl
      have f1' : w4.frozen? ⟨wr.heap.size, 2, none⟩ = false := frz_at n4
      obtain ⟨W5, hW5⟩ : ∃ W5, W5 = w4.setCell ⟨wr.heap.size, 2, none⟩ (.slice ag fs.length cg) := ⟨_, rfl⟩
      have n5 : W5.heap[wr.heap.size]? = some (.cells #[.string (bs nm), .slice asn of.length cs', .slice ag fs.length cg] 32 (0, 0)) := by rw [hW5]; exact (heap_setCell_same w4 _ 2 _ 32 _ n4).trans rfl
      have hB5 : Below wr.heap.size wr W5 := by rw [hW5]; exact (on1K H3.out.2.1 hb4 (Nat.le_refl _)).setCell (p := ⟨wr.heap.size, 2, none⟩) (Nat.le_refl _) _
      have ho5 : W5.ownsRow wr.heap.size 28 4 (.slice ag fs.length cg) fs.length (cellsF fs) := by rw [hW5]; exact own_set ho4 (row_apart ho4 n4 (by decide)) _ _
      have ho5' : W5.ownsRow W0.heap.size 9 1 (.slice asn of.length cs') of.length (cellsS of) := by rw [hW5]; exact own_kt H3.out.2.2 ((Kt.of_below hb4).set n4 (by decide) _ _)
      have x0 : W5.cell? ⟨w1.heap.size, 0, none⟩ = some (.slice a1 k p1) := (hB5.cell (p := ⟨w1.heap.size, 0, none⟩) (Array.getElem?_eq_some_iff.1 HA.out.2.2.1).1).trans (cell_at HA.out.2.2.1 rfl)
      have g0 : W5.cell? ⟨wr.heap.size, 0, none⟩ = some (.string (bs nm)) := cell_at n5 rfl
      have g1 : W5.cell? ⟨wr.heap.size, 1, none⟩ = some (.slice asn of.length cs') := cell_at n5 rfl
      have g2 : W5.cell? ⟨wr.heap.size, 2, none⟩ = some (.slice ag fs.length cg) := cell_at n5 rfl
      have HO : Hid ((W5.alloc (.cells #[.string (bs nm), .slice asn of.length cs', .slice ag fs.length cg] 32)).ownsRow W0.heap.size 32 3 (.slice a1 k p1) k (cellsK M) ∧ W0.heap.size ≤ (W5.alloc (.cells #[.string (bs nm), .slice asn of.length cs', .slice ag fs.length cg] 32)).heap.size) := by
        have hBa := on1K hB5 (b_alloc (Below.refl _ W5) (.cells #[.string (bs nm), .slice asn of.length cs', .slice ag fs.length cg] 32)) (Nat.le_refl _)
        have := own_kt HA.out.2.2.2.1.1 (Kt.of_below (t := 32) hBa)
        rw [HA.out.1] at this
        exact ⟨this, Nat.le_trans HA.out.2.2.2.2.2.size hBa.size⟩
      have HSt : Hid (∀ w7 v7, (W5.alloc (.cells #[.string (bs nm), .slice asn of.length cs', .slice ag fs.length cg] 32)).grownBy w7 (Value.slice a1 k p1).ownBlock → w7.ownsRow W0.heap.size 32 3 v7 (k + 1) (cellsK M ++ [.string (bs nm), .slice asn of.length cs', .slice ag fs.length cg]) → (w7.cell? ⟨w1.heap.size, 0, none⟩ = some (.slice a1 k p1) ∧ w7.frozen? ⟨w1.heap.size, 0, none⟩ = false) ∧ CsI W0 w1.heap.size (.slice a2 B.length p2) L B (k + 1) (w7.setCell ⟨w1.heap.size, 0, none⟩ v7)) := fun w7 v7 q1 q2 => csI_step HI0.out.2 HQ.out HA.out.1 HA.out.2.1 HA.out.2.2.1 HA.out.2.2.2.1 HA.out.2.2.2.2.1 HA.out.2.2.2.2.2 HAp.out hB5 ho5' ho5 q1 q2
      have HM : Hid (k + 1 ≤ maxLen ∧ (k + 1) * 64 ≤ 140737488355328) := by unfold maxLen; exact ⟨by omega, by omega⟩
      have HW5 := Lib.hid hW5
      clear ho4 hg4 hb4 n4 hW5 n5 hB5 ho5 ho5' clF e3
      go_upto_region 7 with fail
      rw [← HW5.out]
      clear f1 f1'
      go_wp2_with (first | (at_builtin; refine wpList_append_own _ rfl (.tmp 26) (.tmp 28) 43 rfl W0.heap.size 32 i0 _ 3 64 Tryz.underlying43 hi0 hz0 hz1 hz2 rfl (by decide) (.slice a1 k p1) k (cellsK M) rfl HO.out.1 ⟨W5.heap.size, 0, none⟩ 1 1 [.string (bs nm), .slice asn of.length cs', .slice ag fs.length cg] rfl rfl (new_at _ _ _) (by simp [Value.oneCell']) HM.out.1 HM.out.2 HO.out.2 ?_; intro v7 w7 hown7 hgrow7 _; obtain ⟨⟨z0, z1⟩, hcs⟩ := HSt.out w7 v7 hgrow7 hown7; obtain ⟨a3, c3, rfl⟩ := own_slice hown7; have HCs := Lib.hid hcs; clear hcs hown7 hgrow7))
      go_roundw
      case rel => exact ⟨k + 1, by omega, by go_num, HCs.out⟩
      case measure => simp [intOf]; omega
    · obtain rfl : k = L.length := by omega
      rw [List.take_length] at hcN
      have hr1 := (hB.block _ (by have := HH.out.2.1; omega)).trans HH.out.2.2.2.1
      have HF : Hid (M.map kq3 = L.map kq3 ∧ OwnKs wr W0.heap.size (.slice a1 L.length p1) M ∧ OwnBs wr W0.heap.size (.slice a2 B.length p2) B ∧ Below w.heap.size w wr ∧ Ty wr (w.heap.size + 1) 46) := ⟨hcN, hNs, hTs, on1K HH.out.1 hB (Nat.le_refl _), _, hr1⟩
      have e0 : wr.cell? ⟨w1.heap.size, 0, none⟩ = some (.slice a1 L.length p1) := cell_at hX rfl
      have e1 : wr.cell? ⟨w1.heap.size, 1, none⟩ = some (.slice a2 B.length p2) := cell_at hX rfl
      have r0 : wr.cell? ⟨w.heap.size + 1, 0, none⟩ = some (.slice none 0 0) := cell_at hr1 rfl
      have r1 : wr.cell? ⟨w.heap.size + 1, 1, none⟩ = some (.slice none 0 0) := cell_at hr1 rfl
      have s0 : wr.frozen? ⟨w.heap.size + 1, 0, none⟩ = false := frz_at hr1
      have s1 : wr.frozen? ⟨w.heap.size + 1, 1, none⟩ = false := frz_at hr1
      have t1 : ((wr.setCell ⟨w.heap.size + 1, 0, none⟩ (.slice a1 L.length p1)).setCell ⟨w.heap.size + 1, 1, none⟩ (.slice a2 B.length p2)).heap[w.heap.size + 1]? = some (.cells #[.slice a1 L.length p1, .slice a2 B.length p2] 46 (0, 0)) := heap_setCell_same _ _ 1 _ 46 _ (heap_setCell_same wr _ 0 _ 46 _ hr1)
      have HT : Hid (((wr.setCell ⟨w.heap.size + 1, 0, none⟩ (.slice a1 L.length p1)).setCell ⟨w.heap.size + 1, 1, none⟩ (.slice a2 B.length p2)).cell? ⟨w.heap.size + 1, 0, none⟩ = some (.slice a1 L.length p1) ∧ ((wr.setCell ⟨w.heap.size + 1, 0, none⟩ (.slice a1 L.length p1)).setCell ⟨w.heap.size + 1, 1, none⟩ (.slice a2 B.length p2)).cell? ⟨w.heap.size + 1, 1, none⟩ = some (.slice a2 B.length p2)) := ⟨cell_at t1 rfl, cell_at t1 rfl⟩
      clear hcN hX hNs hTs hB hr1 t1 hk
      go_wp2
      obtain ⟨f1, f2, f3, f4, f5⟩ := HF.out
      obtain ⟨t0, t1⟩ := HT.out
      have hs0' : w.heap.size ≤ W0.heap.size := HH.out.1.size
      have kk : ∀ t : TypeId, (46 : TypeId) ≠ t → Kt t wr ((wr.setCell ⟨w.heap.size + 1, 0, none⟩ (.slice a1 L.length p1)).setCell ⟨w.heap.size + 1, 1, none⟩ (.slice a2 B.length p2)) := fun t ht => ((Kt.refl _ _).ty f5 ht _ _).ty (f5.set _ _ _) ht _ _
      refine bodyPost_ret (v := .agg #[.slice a1 L.length p1, .slice a2 B.length p2]) ?_ rfl ⟨_, _, M, rfl, f1, ⟨?_, fun q hq => ⟨?_, ?_⟩⟩, ?_, ?_, HAp.out⟩
      · simp [results, Tryz.results30, go_sem, t0, t1]
      · exact own_base (own_kt f2.1 (kk 32 (by decide))) hs0'
      · exact own_base (own_kt (f2.2 q hq).1 (kk 9 (by decide))) hs0'
      · exact own_base (own_kt (f2.2 q hq).2 (kk 28 (by decide))) hs0'
      · exact own_base (own_kt f3 (kk 34 (by decide))) hs0'
      · exact (f4.setCell (by show _ ≤ w.heap.size + 1; omega) _).setCell (by show _ ≤ w.heap.size + 1; omega) _
end Go.Proofs.YtpmblbhemcippaaGreatDoor

/-
  The walks of slices.Delete of one element: of kinds, of fields and of bonds.
-/
namespace Go.Proofs.YtpmblbhemcippaaGreatDoor
open Go.RowKit
set_option linter.unusedVariables false
set_option linter.unusedSimpArgs false

theorem run_clear_row {P : Program} (w : World) (t e ty : TypeId) (z : Value) (ht : P.underlying t = some (.slice e)) (hv : ∀ w, (zeroValue e).run P w = .ok z w) (g o n c : Nat) (hn : 0 < n) (cur : Array Value) (hg : w.heap[g]? = some (.cells cur e (0, 0)))
    (hfit : o + n * z.cells.size ≤ cur.size) (h1 : ∀ u ∈ (Builtin.zeroCells z.cells n).toList, u.oneCell' = true) :
    (Builtin.clear_ #[t] ty #[.slice (some ⟨g, o, none⟩) n c]).run P w = .ok (.tuple #[]) (w.setRow g (cur.toList.take o ++ (Builtin.zeroCells z.cells n).toList ++ cur.toList.drop (o + n * z.cells.size)).toArray) := by
  have hl : (Builtin.zeroCells z.cells n).toList.length = n * z.cells.size := by simp [Builtin.zeroCells]
  have hst := run_storeCells_at P g o e (Builtin.zeroCells z.cells n).toList 0 cur w hg (by rw [hl]; simpa using hfit) h1
  simp only [Nat.add_zero, hl] at hst
  obtain ⟨m, rfl⟩ : ∃ m, n = m + 1 := ⟨n - 1, by omega⟩
  simp [Builtin.clear_, run_underlying ht, hv, hst]
theorem setRow_grown (w : World) (g : Nat) (r : Array Value) : w.grownBy (w.setRow g r) (some g) := ⟨rfl, rfl, rfl, by simp [World.setRow], fun k hk hne => setRow_other w g k r (fun e => hne (by rw [e]))⟩

theorem kd_len (k : Kd) : k.cells.length = 3 := rfl
theorem zeroK_one (n : Nat) : ∀ u ∈ (Builtin.zeroCells #[.string ⟨#[]⟩, .slice none 0 0, .slice none 0 0] n).toList, u.oneCell' = true := by
  intro u hu
  simp [Builtin.zeroCells] at hu
  obtain ⟨i, _, rfl⟩ := hu
  have h3 : i % 3 = 0 ∨ i % 3 = 1 ∨ i % 3 = 2 := by omega
  rcases h3 with h | h | h <;> simp [h, Value.oneCell']
set_option maxHeartbeats 2000000 in
set_option maxRecDepth 100000 in
theorem deleteK_row {w : World} {g cap i m : Nat} {cur : Array Value} {xs ys zs : List Value} (hg : w.heap[g]? = some (.cells cur 32 (0, 0))) (hs : cur.size = cap * 3) (hcm : cap ≤ maxLen) (hnc : i + 1 + m ≤ cap)
    (ht : cur.toList.take ((i + 1 + m) * 3) = xs ++ ys ++ zs) (hx : xs.length = i * 3) (hy : ys.length = 3) (hz : zs.length = m * 3) (h1 : ∀ u ∈ zs, u.oneCell' = true) (hn : i + 1 + m ≤ 1000) :
    Calls Tryz.prog 109 #[.slice (some ⟨g, 0, none⟩) (i + 1 + m) cap, .int .i64 i, .int .i64 ((i : Int) + 1)] w fun e w' => e = .returned (.slice (some ⟨g, 0, none⟩) (i + m) cap) ∧ ∃ row : List Value, w'.heap[g]? = some (.cells row.toArray 32 (0, 0)) ∧ row.length = cap * 3 ∧ row.take ((i + m) * 3) = xs ++ zs ∧ w.grownBy w' (some g) := by
  obtain ⟨i0, hi0, hz0, hz1, hz2⟩ := info_parts infoKd
  have hcl : cur.toList.length = cap * 3 := by simpa using hs
  have hgl : g < w.heap.size := (Array.getElem?_eq_some_iff.1 hg).1
  have hcur : cur.toList = xs ++ ys ++ zs ++ cur.toList.drop ((i + 1 + m) * 3) := by rw [← ht, List.take_append_drop]
  have hxt : cur.toList.take (i * 3) = xs := by rw [hcur]; simp [List.take_append, hx]
  have hzc : ∀ j u, zs[j]? = some u → cur.toList[(i + 1) * 3 + j]? = some u := fun j u hu => by
    have hj := (List.getElem?_eq_some_iff.1 hu).1
    have : (cur.toList.take ((i + 1 + m) * 3))[(i + 1) * 3 + j]? = some u := by
      rw [ht, List.getElem?_append_right (by simp; omega)]
      simpa [hx, hy, show (i + 1) * 3 + j - (i * 3 + 3) = j by omega] using hu
    rw [List.getElem?_take] at this
    split at this
    · exact this
    · cases this
  obtain ⟨R1, hR1⟩ : ∃ R1, R1 = cur.toList.take (i * 3) ++ zs ++ cur.toList.drop (i * 3 + zs.length) := ⟨_, rfl⟩
  have hR1l : R1.length = cap * 3 := by rw [hR1]; simp [hz, hs]; omega
  have hR1t : R1.take ((i + m) * 3) = xs ++ zs := by rw [hR1, hxt, List.take_append_of_le_length (by simp [hx, hz]; omega), List.take_of_length_le (by simp [hx, hz]; omega)]
  obtain ⟨W1, hW1⟩ : ∃ W1, W1 = w.drew.setRow g R1.toArray := ⟨_, rfl⟩
  have happ : ∀ ty (A : Option Addr) c, (A = some ⟨g, (i + 1) * 3, none⟩ ∨ (m = 0 ∧ ∃ a, A = some a)) → (Builtin.append_ #[43, 43] ty #[.slice (some ⟨g, 0, none⟩) i cap, .slice A m c]).run Tryz.prog w.drew = .ok (.slice (some ⟨g, 0, none⟩) (i + m) cap) W1 := fun ty A c hA => by
    obtain ⟨a, rfl, ha⟩ : ∃ a, A = some a ∧ ∀ j u, zs[j]? = some u → w.drew.cell? (a.add j) = some u := by
      rcases hA with rfl | ⟨rfl, a, rfl⟩
      · refine ⟨_, rfl, fun j u hu => ?_⟩
        rw [Addr.add_lit, cell_of_row w.drew g _ cur 32 (0, 0) hg]
        simpa using hzc j u hu
      · refine ⟨a, rfl, fun j u hu => ?_⟩
        have : zs = [] := List.eq_nil_of_length_eq_zero (by omega)
        rw [this] at hu; simp at hu
    have := run_append_room (P := Tryz.prog) w.drew 43 ty 32 i0 Tryz.underlying43 hi0 g i cap cur hg a m c zs (by rw [hz1]; exact hz) ha h1 (by omega) (by rw [hz1, hz]; omega)
    rw [hz1] at this
    rw [hW1, hR1]
    exact this
  have hg1 : W1.heap[g]? = some (.cells R1.toArray 32 (0, 0)) := by rw [hW1]; exact setRow_heap w.drew g cur _ 32 _ hg
  obtain ⟨R2, hR2⟩ : ∃ R2, R2 = R1.take ((i + m) * 3) ++ (Builtin.zeroCells #[.string ⟨#[]⟩, .slice none 0 0, .slice none 0 0] 1).toList ++ R1.drop ((i + m) * 3 + 1 * 3) := ⟨_, rfl⟩
  have hz3 : (Builtin.zeroCells #[.string ⟨#[]⟩, .slice none 0 0, .slice none 0 0] 1).toList.length = 3 := by simp [Builtin.zeroCells]
  have hR2l : R2.length = cap * 3 := by rw [hR2]; simp [hz3, hR1l]; omega
  have hR2t : R2.take ((i + m) * 3) = xs ++ zs := by rw [hR2, List.append_assoc, List.take_append_of_le_length (by simp [hR1l]; omega), List.take_of_length_le (List.length_take_le _ _), hR1t]
  obtain ⟨W2, hW2⟩ : ∃ W2, W2 = W1.setRow g R2.toArray := ⟨_, rfl⟩
  have hclr : ∀ ty c, (Builtin.clear_ #[43] ty #[.slice (some ⟨g, (i + m) * 3, none⟩) 1 c]).run Tryz.prog W1 = .ok (.tuple #[]) W2 := fun ty c => by
    have := run_clear_row W1 43 32 ty (.agg #[.string ⟨#[]⟩, .slice none 0 0, .slice none 0 0]) Tryz.underlying43 Tryz.zeroValue32 g ((i + m) * 3) 1 c (by omega) R1.toArray hg1 (by simp [Value.cells, hR1l]; omega) (zeroK_one 1)
    rw [hW2, hR2]
    exact this
  have HE : Hid (W2.heap[g]? = some (.cells R2.toArray 32 (0, 0)) ∧ R2.length = cap * 3 ∧ R2.take ((i + m) * 3) = xs ++ zs ∧ w.grownBy W2 (some g)) := by
    refine ⟨by rw [hW2]; exact setRow_heap W1 g _ _ 32 _ hg1, hR2l, hR2t, ?_⟩
    rw [hW2, hW1]
    exact grown_trans (b := w.drew) ⟨rfl, rfl, rfl, Nat.le_refl _, fun _ _ _ => rfl⟩ (grown_trans (setRow_grown w.drew g _) (setRow_grown _ g _))
  have HA : Hid (∀ ty (A : Option Addr) c, (A = some ⟨g, (i + 1) * 3, none⟩ ∨ (m = 0 ∧ ∃ a, A = some a)) → (Builtin.append_ #[43, 43] ty #[.slice (some ⟨g, 0, none⟩) i cap, .slice A m c]).run Tryz.prog w.drew = .ok (.slice (some ⟨g, 0, none⟩) (i + m) cap) W1) := happ
  unfold maxLen at hcm
  clear hg ht hzc hcur hR1 hR1l hR1t hW1 hg1 hR2 hz3 hR2l hR2t hW2 hxt hcl hgl happ hi0 hz0 hz1 hz2 hx hy hz h1 hs
  have hii : IntKind.i64.wrap ((i : Int) + 1) = (i : Int) + 1 := by rw [IntKind.wrap_i64]; omega
  have hi1 : (i : Int) + 1 ≤ (i : Int) + 1 + (m : Int) := by omega
  have hi2 : (i : Int) + 1 + (m : Int) ≤ (cap : Int) := by omega
  have hi3 : (i : Int) ≤ (cap : Int) := by omega
  have hi4 : (i : Int) + 1 ≤ (cap : Int) := by omega
  have htn : ((i : Int) + 1).toNat = i + 1 := by omega
  have hne : ¬ (i : Int) = (i : Int) + 1 := by omega
  have hp0 : (0 : Int) ≤ (i : Int) + 1 := by omega
  have hp1 : (i : Int) ≤ (i : Int) + 1 := by omega
  have hs1 : ((i + 1 + m : Nat) : Int) - ((i + m : Nat) : Int) = 1 := by omega
  have hs2 : i + 1 + m - (i + m) = 1 := by omega
  have hs3 : i + 1 + m - (i + 1) = m := by omega
  have hc2 : ¬ cap = i + m := by omega
  by_cases hcap : cap = i + 1
  · obtain rfl : m = 0 := by omega
    subst hcap
    simp only [Nat.add_zero] at *
    go_enter Tryz.func109, Tryz.ntmps109
    go_wp2
    go_region_law (refine step_append_E rfl (.tmp 22) (.tmp 25) 43 rfl (.slice (some ⟨g, 0, none⟩) i (i + 1)) (.slice (some ⟨g, 0, none⟩) 0 (i + 1 - (i + 1))) (by simp [Act.eval, Act.put]) (by simp [Act.eval, Act.put]) (R := fun v' w' => v' = .slice (some ⟨g, 0, none⟩) i (i + 1) ∧ w' = W1) ⟨_, _, HA.out _ _ _ (.inr ⟨trivial, _, rfl⟩), rfl, rfl⟩ ?_; rintro v1 w1 ⟨rfl, rfl⟩)
    all_goals
      go_wp2
      go_ret
      exact ⟨rfl, R2, HE.out⟩
  · have hne2 : ¬ cap = i + 1 := hcap
    go_enter Tryz.func109, Tryz.ntmps109
    go_wp2
    go_region_law (refine step_append_E rfl (.tmp 22) (.tmp 25) 43 rfl (.slice (some ⟨g, 0, none⟩) i cap) (.slice (some ⟨g, (i + 1) * 3, none⟩) m (cap - (i + 1))) (by simp [Act.eval, Act.put]) (by simp [Act.eval, Act.put]) (R := fun v' w' => v' = .slice (some ⟨g, 0, none⟩) (i + m) cap ∧ w' = W1) ⟨_, _, HA.out _ _ _ (.inl rfl), rfl, rfl⟩ ?_; rintro v1 w1 ⟨rfl, rfl⟩)
    all_goals
      go_wp2
      go_ret
      exact ⟨rfl, R2, HE.out⟩
theorem deleteK_any {w : World} {base : Nat} {v : Value} {N : List Kd} (h : w.ownsRow base 32 3 v N.length (cellsK N)) (h1 : ∀ u ∈ cellsK N, u.oneCell' = true) (hn : N.length ≤ 1000) (i : Nat) (hi : i < N.length) :
    Calls Tryz.prog 109 #[v, .int .i64 i, .int .i64 ((i : Int) + 1)] w fun e w' => ∃ v', e = .returned v' ∧ w'.ownsRow base 32 3 v' (N.eraseIdx i).length (cellsK (N.eraseIdx i)) ∧ w.grownBy w' v.ownBlock ∧ v'.ownBlock = v.ownBlock := by
  rcases h.2 with ⟨rfl, h0⟩ | ⟨g, cap, cur, rfl, hb, hg, hle, hcm, hcs, ht⟩
  · omega
  · obtain ⟨m, hm⟩ : ∃ m, N.length = i + 1 + m := ⟨N.length - (i + 1), by omega⟩
    have hsp : cellsK N = cellsK (N.take i) ++ (N[i]).cells ++ cellsK (N.drop (i + 1)) := by
      have e : N = N.take i ++ N[i] :: N.drop (i + 1) := by rw [← List.drop_eq_getElem_cons hi, List.take_append_drop]
      refine (congrArg cellsK e).trans ?_
      simp only [cellsK, List.flatMap_append, List.flatMap_cons, List.append_assoc]
    have hx : (cellsK (N.take i)).length = i * 3 := by unfold cellsK; rw [flatK_len kd_len, List.length_take_of_le (by omega)]
    have hz : (cellsK (N.drop (i + 1))).length = m * 3 := by unfold cellsK; rw [flatK_len kd_len, List.length_drop, hm]; congr 1; omega
    rw [hm] at hle ht ⊢
    rw [hsp] at ht
    refine (deleteK_row hg hcs hcm hle ht hx (kd_len _) hz (fun u hu => h1 u (by rw [hsp]; simp [hu])) (by omega)).mono ?_
    rintro e w' ⟨rfl, row, r1, r2, r3, r4⟩
    have hel : (N.eraseIdx i).length = i + m := by rw [List.length_eraseIdx_of_lt hi, hm]; omega
    have hec : cellsK (N.eraseIdx i) = cellsK (N.take i) ++ cellsK (N.drop (i + 1)) := by rw [List.eraseIdx_eq_take_drop_succ]; simp [cellsK]
    refine ⟨_, rfl, ?_, r4, rfl⟩
    rw [hel, hec]
    refine ⟨by rw [List.length_append, hx, hz]; omega, .inr ⟨g, cap, row.toArray, rfl, hb, r1, by omega, hcm, by simpa using r2, by simpa using r3⟩⟩
end Go.Proofs.YtpmblbhemcippaaGreatDoor
