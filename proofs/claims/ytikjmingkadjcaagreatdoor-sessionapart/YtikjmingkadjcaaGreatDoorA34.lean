/-
  The walk of schema.Copy.
-/
import Derived.Test.YtikjmingkadjcaaGreatDoorA33
import Derived.Test.YtikjmingkadjcaaGreatDoorA21
import Derived.Test.YtikjmingkadjcaaGreatDoorA20
import Derived.Lib.SliceRun
import Derived.Test.YtikjmingkadjcaaGreatDoorA03
namespace Go.Proofs.YtikjmingkadjcaaGreatDoor
open Go.RowKit
set_option linter.unusedVariables false
set_option linter.unusedSimpArgs false

def CsI (W0 : World) (p : Nat) (ub : Value) (L : List Kd) (B : List Bd) (k : Nat) (wr : World) : Prop := ∃ (M : List Kd) (uk : Value), M.length = k ∧ M.map kq3 = (L.take k).map kq3 ∧ wr.heap[p]? = some (.cells #[uk, ub] 25 (0, 0)) ∧ OwnKs wr W0.heap.size uk M ∧ OwnBs wr W0.heap.size ub B ∧ Below W0.heap.size W0 wr
theorem csI_step {W0 wr W5 w7 : World} {p k : Nat} {uk ub v1 v2 v7 : Value} {L M : List Kd} {B : List Bd} {q : Kd} (hp : W0.heap.size ≤ p) (hq : L[k]? = some q) (hM : M.length = k) (hc : M.map kq3 = (L.take k).map kq3) (hX : wr.heap[p]? = some (.cells #[uk, ub] 25 (0, 0))) (hN : OwnKs wr W0.heap.size uk M) (hT : OwnBs wr W0.heap.size ub B) (hB : Below W0.heap.size W0 wr)
    (hB5 : Below wr.heap.size wr W5) (h1 : W5.ownsRow W0.heap.size 9 1 v1 q.of.length (cellsS q.of)) (h2 : W5.ownsRow W0.heap.size 101 4 v2 q.fs.length (cellsF q.fs)) (hg : (W5.alloc (.cells #[.string (bs q.nm), v1, v2] 34)).grownBy w7 uk.ownBlock) (ho : w7.ownsRow W0.heap.size 34 3 v7 (k + 1) (cellsK M ++ [.string (bs q.nm), v1, v2])) :
    (w7.cell? ⟨p, 0, none⟩ = some uk ∧ w7.frozen? ⟨p, 0, none⟩ = false) ∧ CsI W0 p ub L B (k + 1) (w7.setCell ⟨p, 0, none⟩ v7) := by
  have hBa : Below wr.heap.size wr (W5.alloc (.cells #[.string (bs q.nm), v1, v2] 34)) := on1K hB5 (b_alloc (Below.refl _ _) _) (Nat.le_refl _)
  have hNa := own_kt hN.1 (Kt.of_below hBa)
  have hXa := (hBa.block p (Array.getElem?_eq_some_iff.1 hX).1).trans hX
  have hX1 := (hg.block p (Array.getElem?_eq_some_iff.1 hXa).1 (fun e => row_apart hNa hXa (by decide) e.symm)).trans hXa
  have kk : ∀ t : TypeId, t ≠ 34 → t ≠ 25 → Kt t wr (w7.setCell ⟨p, 0, none⟩ v7) := fun t n1 n2 => ((Kt.of_below hBa).trans (.of_own hNa (Ne.symm n1) hg)).set hX1 (Ne.symm n2) _ _
  have k5 : ∀ t : TypeId, t ≠ 34 → t ≠ 25 → Kt t W5 (w7.setCell ⟨p, 0, none⟩ v7) := fun t n1 n2 => (((Kt.refl _ _).alloc _).trans (.of_own hNa (Ne.symm n1) hg)).set hX1 (Ne.symm n2) _ _
  refine ⟨⟨cell_at hX1 rfl, frz_at hX1⟩, M ++ [⟨q.nm, q.of, q.fs, v1, v2⟩], v7, by simp [hM], ?_, (heap_setCell_same w7 p 0 _ 25 _ hX1).trans rfl, ⟨?_, fun x hx => ?_⟩, own_kt hT (kk 103 (by decide) (by decide)), ?_⟩
  · have e : L.take (k + 1) = L.take k ++ [q] := by rw [List.take_add_one, hq]; rfl
    rw [e, List.map_append, List.map_append, hc]
    rfl
  · rw [List.length_append, hM, cellsK_app, show cellsK [(⟨q.nm, q.of, q.fs, v1, v2⟩ : Kd)] = [.string (bs q.nm), v1, v2] by simp [cellsK, Kd.cells]]
    exact own_set ho (row_apart ho hX1 (by decide)) _ _
  · rcases List.mem_append.1 hx with hx | hx
    · exact ⟨own_kt (hN.2 x hx).1 (kk 9 (by decide) (by decide)), own_kt (hN.2 x hx).2 (kk 101 (by decide) (by decide))⟩
    · obtain rfl : x = ⟨q.nm, q.of, q.fs, v1, v2⟩ := by simpa using hx
      exact ⟨own_kt h1 (k5 9 (by decide) (by decide)), own_kt h2 (k5 101 (by decide) (by decide))⟩
  · exact (below_grown (on1K hB hBa (Nat.le_refl _)) hg (Nat.le_trans hB.size hBa.size) (fun g hg' => (hNa.lt g hg').1)).setCell (p := ⟨p, 0, none⟩) hp _
set_option maxHeartbeats 4000000 in
set_option maxRecDepth 100000 in
theorem scopy_any {vk vb : Value} {L : List Kd} {B : List Bd} {w : World} (hK : IsK w vk L) (hP : Parts w L) (hb : IsB w vb B) (hl : L.length ≤ 1000) (hlb : B.length ≤ 1000) (hs : ∀ k ∈ L, k.of.length ≤ 1000 ∧ k.fs.length ≤ 1000) :
    Calls Tryz.prog 20 #[.agg #[vk, vb]] w fun e w' => ∃ uk ub M, e = .returned (.agg #[uk, ub]) ∧ M.map kq3 = L.map kq3 ∧ OwnKs w' w.heap.size uk M ∧ OwnBs w' w.heap.size ub B ∧ Below w.heap.size w w' := by
  obtain ⟨i0, hi0, hz0, hz1, hz2⟩ := info_parts infoKd
  obtain ⟨W0, hW0⟩ : ∃ W0, W0 = (w.alloc (.cells #[vk, vb] 25)).alloc (.cells #[.slice none 0 0, .slice none 0 0] 25) := ⟨_, rfl⟩
  have hB0 : Below w.heap.size w W0 := by rw [hW0]; exact b_alloc (b_alloc (Below.refl _ _) _) _
  have hs0 : W0.heap.size = w.heap.size + 2 := by rw [hW0]; simp
  have n0 : W0.heap[w.heap.size]? = some (.cells #[vk, vb] 25 (0, 0)) := by rw [hW0]; exact (heap_alloc_old _ _ (by simp)).trans (heap_alloc_new w _)
  have n1 : W0.heap[w.heap.size + 1]? = some (.cells #[.slice none 0 0, .slice none 0 0] 25 (0, 0)) := by
    have := heap_alloc_new (w.alloc (.cells #[vk, vb] 25)) (.cells #[.slice none 0 0, .slice none 0 0] 25)
    rw [World.size_alloc] at this; rw [hW0]; exact this
  have clB := fun (ty : TypeId) => clone_bonds W0 W0.heap.size (Nat.le_refl _) (hb.on hB0) hlb ty
  obtain ⟨ak, ck, evk, hVK⟩ : ∃ ak ck, vk = .slice ak L.length ck ∧ ∀ k q, L[k]? = some q → ∃ b off, ak = some ⟨b, off, none⟩ ∧ b < w.heap.size ∧ w.cell? ⟨b, off + k * 3, none⟩ = some (.string (bs q.nm)) ∧ w.cell? ⟨b, off + k * 3 + 1, none⟩ = some q.vo ∧ w.cell? ⟨b, off + k * 3 + 2, none⟩ = some q.vf := by
    rcases hK with ⟨rfl, rfl⟩ | ⟨b, off, cap, rfl, _, _, hb, hl⟩
    · exact ⟨none, 0, rfl, fun k q h => by cases h⟩
    · exact ⟨_, cap, rfl, fun k q h => ⟨b, off, rfl, hb, hl k q h⟩⟩
  obtain ⟨ab, cb, evb⟩ : ∃ ab cb, vb = .slice ab B.length cb := by
    rcases hb with ⟨rfl, rfl⟩ | ⟨b, off, cap, rfl, _⟩
    · exact ⟨none, 0, rfl⟩
    · exact ⟨_, _, rfl⟩
  subst evk evb
  have HH : Hid (Below w.heap.size w W0 ∧ W0.heap.size = w.heap.size + 2 ∧ W0.heap[w.heap.size]? = some (.cells #[.slice ak L.length ck, .slice ab B.length cb] 25 (0, 0)) ∧ W0.heap[w.heap.size + 1]? = some (.cells #[.slice none 0 0, .slice none 0 0] 25 (0, 0)) ∧ Parts w L) := ⟨hB0, hs0, n0, n1, hP⟩
  have HVK := Lib.hid hVK
  have HSm := Lib.hid hs
  have c1 : W0.cell? ⟨w.heap.size, 1, none⟩ = some (.slice ab B.length cb) := cell_at n0 rfl
  clear hB0 n0 n1 hs0 hK hP hb hVK hs
  go_enter Tryz.func20, Tryz.ntmps20
  go_upto_region 1 with fail
  rw [← hW0]
  clear hW0
  go_wp2_with (first | (at_builtin; refine wpList_append_E rfl _ _ 23 rfl _ _ rfl rfl (clB _) ?_; rintro v1 w1 ⟨hown, hgrow⟩; refine Hid.out ?_))
  refine Lib.hid ?_
  obtain ⟨a2, p2, rfl⟩ := own_slice hown
  have hb1 := grown_below hgrow
  obtain ⟨Wc, hWc⟩ : ∃ Wc, Wc = w1.alloc (.cells #[.slice none 0 0, .slice a2 B.length p2] 25) := ⟨_, rfl⟩
  have nc : Wc.heap[w1.heap.size]? = some (.cells #[.slice none 0 0, .slice a2 B.length p2] 25 (0, 0)) := by rw [hWc]; exact heap_alloc_new w1 _
  have hBc : Below W0.heap.size W0 Wc := by rw [hWc]; exact b_alloc hb1 _
  have HI0 : Hid (CsI W0 w1.heap.size (.slice a2 B.length p2) L B 0 Wc ∧ W0.heap.size ≤ w1.heap.size) := ⟨⟨[], .slice none 0 0, rfl, rfl, nc, ⟨World.ownsRow_nil _ _ _ _, fun n hn => by cases hn⟩, by rw [hWc]; exact World.ownsRow.alloc hown _, hBc⟩, hb1.size⟩
  have c0 : Wc.cell? ⟨w.heap.size, 0, none⟩ = some (.slice ak L.length ck) := cell_at ((hBc.block _ (by have := HH.out.2.1; omega)).trans HH.out.2.2.1) rfl
  have HWc := Lib.hid hWc
  clear hown hgrow hb1 nc hBc hWc clB c1
  go_upto_region 2 with fail
  rw [← HWc.out]
  go_wp2
  go_loopw [13] (fun i wr => ∃ k : Nat, k ≤ L.length ∧ i = .int .i64 k ∧ CsI W0 w1.heap.size (.slice a2 B.length p2) L B k wr) (fun i _ => L.length - (intOf i).toNat)
  case atStart => exact ⟨0, Nat.zero_le _, rfl, HI0.out.1⟩
  case round =>
    obtain ⟨k, hk, rfl, hC⟩ := hrel
    obtain ⟨M, vm, hM, hcN, hX, hNs, hTs, hB⟩ := hC
    obtain ⟨a1, p1, e1⟩ := own_slice hNs.1
    rw [hM] at e1
    subst e1
    by_cases hlt : k < L.length
    · obtain ⟨q, hq⟩ : ∃ q, L[k]? = some q := ⟨L[k], by simp [hlt]⟩
      have hbw := on1K HH.out.1 hB (Nat.le_refl _)
      obtain ⟨b, off, rfl, hbl, d0, d1, d2⟩ := HVK.out k q hq
      have d0 := (hbw.cell (p := ⟨b, off + k * 3, none⟩) hbl).trans d0
      have d1 := (hbw.cell (p := ⟨b, off + k * 3 + 1, none⟩) hbl).trans d1
      have d2 := (hbw.cell (p := ⟨b, off + k * 3 + 2, none⟩) hbl).trans d2
      obtain ⟨hSo, hFo⟩ := HH.out.2.2.2.2 q (List.mem_of_getElem? hq)
      obtain ⟨ms, mf⟩ := HSm.out q (List.mem_of_getElem? hq)
      obtain ⟨ao, lo, co, evo⟩ : ∃ a l c, q.vo = .slice a l c := by
        rcases hSo with ⟨a, c, e, _⟩ | ⟨_, _, c, e, _⟩
        · exact ⟨_, _, _, e⟩
        · exact ⟨_, _, _, e⟩
      obtain ⟨af, lf, cf, evf⟩ : ∃ a l c, q.vf = .slice a l c := by
        rcases hFo with ⟨a, c, e, _⟩ | ⟨_, _, c, e, _⟩
        · exact ⟨_, _, _, e⟩
        · exact ⟨_, _, _, e⟩
      have HQ := Lib.hid hq
      obtain ⟨nm, of, fs, vo, vf⟩ := q
      simp only at evo evf d0 d1 d2 hSo hFo ms mf
      subst evo evf
      obtain ⟨W1, hW1⟩ : ∃ W1, W1 = wr.alloc (.cells #[.string (bs nm), .slice ao lo co, .slice af lf cf] 34) := ⟨_, rfl⟩
      have hB1 : Below wr.heap.size wr W1 := by rw [hW1]; exact b_alloc (Below.refl _ _) _
      have nn : W1.heap[wr.heap.size]? = some (.cells #[.string (bs nm), .slice ao lo co, .slice af lf cf] 34 (0, 0)) := by rw [hW1]; exact heap_alloc_new wr _
      have clS := fun (ty : TypeId) => clone_names W1 W0.heap.size (Nat.le_trans hB.size hB1.size) (hSo.on (on1K hbw hB1 (Nat.le_refl _))) ms ty
      have e1 : W1.cell? ⟨wr.heap.size, 1, none⟩ = some (.slice ao lo co) := cell_at nn rfl
      have HA : Hid (M.length = k ∧ M.map kq3 = (L.take k).map kq3 ∧ wr.heap[w1.heap.size]? = some (.cells #[.slice a1 k p1, .slice a2 B.length p2] 25 (0, 0)) ∧ OwnKs wr W0.heap.size (.slice a1 k p1) M ∧ OwnBs wr W0.heap.size (.slice a2 B.length p2) B ∧ Below W0.heap.size W0 wr) := ⟨hM, hcN, hX, hNs, hTs, hB⟩
      have HB1 : Hid (Below wr.heap.size wr W1 ∧ W1.heap[wr.heap.size]? = some (.cells #[.string (bs nm), .slice ao lo co, .slice af lf cf] 34 (0, 0)) ∧ Below w.heap.size w wr ∧ IsF w (.slice af lf cf) fs) := ⟨hB1, nn, hbw, hFo⟩
      have HW1 := Lib.hid hW1
      have hnb : ¬ b = wr.heap.size := by have := hbw.size; omega
      clear hM hcN hX hNs hTs hB hbw hB1 nn hq hW1 hbl hSo hFo
      go_upto_region 5 with fail
      rw [← HW1.out]
      go_wp2_with (first | (at_builtin; refine wpList_append_E rfl _ _ 31 rfl _ _ rfl rfl (clS _) ?_; rintro v1 w2 ⟨ho1, hg1⟩; refine Hid.out ?_))
      refine Lib.hid ?_
      obtain ⟨asn, cs', rfl⟩ := own_slice ho1
      have hb2 := grown_below hg1
      have n2 := (hb2.block _ (Array.getElem?_eq_some_iff.1 HB1.out.2.1).1).trans HB1.out.2.1
      have f1 : w2.cell? ⟨wr.heap.size, 1, none⟩ = some (.slice ao lo co) := cell_at n2 rfl
      have f1' : w2.frozen? ⟨wr.heap.size, 1, none⟩ = false := frz_at n2
      obtain ⟨W3, hW3⟩ : ∃ W3, W3 = w2.setCell ⟨wr.heap.size, 1, none⟩ (.slice asn of.length cs') := ⟨_, rfl⟩
      have n3 : W3.heap[wr.heap.size]? = some (.cells #[.string (bs nm), .slice asn of.length cs', .slice af lf cf] 34 (0, 0)) := by rw [hW3]; exact (heap_setCell_same w2 _ 1 _ 34 _ n2).trans rfl
      have hB3 : Below wr.heap.size wr W3 := by rw [hW3]; exact (on1K HB1.out.1 hb2 (Nat.le_refl _)).setCell (p := ⟨wr.heap.size, 1, none⟩) (Nat.le_refl _) _
      have ho3 : W3.ownsRow W0.heap.size 9 1 (.slice asn of.length cs') of.length (cellsS of) := by rw [hW3]; exact own_set ho1 (row_apart ho1 n2 (by decide)) _ _
      have clF := fun (ty : TypeId) => clone_fields W3 W0.heap.size (Nat.le_trans HA.out.2.2.2.2.2.size hB3.size) (HB1.out.2.2.2.on (on1K HB1.out.2.2.1 hB3 (Nat.le_refl _))) mf ty
      have e3 : W3.cell? ⟨wr.heap.size, 2, none⟩ = some (.slice af lf cf) := cell_at n3 rfl
      have HW3 := Lib.hid hW3
      have H3 : Hid (W3.heap[wr.heap.size]? = some (.cells #[.string (bs nm), .slice asn of.length cs', .slice af lf cf] 34 (0, 0)) ∧ Below wr.heap.size wr W3 ∧ W3.ownsRow W0.heap.size 9 1 (.slice asn of.length cs') of.length (cellsS of)) := ⟨n3, hB3, ho3⟩
      clear ho1 hg1 hb2 n2 hW3 n3 hB3 ho3 clS
      go_upto_region 6 with fail
      rw [← HW3.out]
      clear f1 f1' e1
      go_wp2_with (first | (at_builtin; refine wpList_append_E rfl _ _ 32 rfl _ _ rfl rfl (clF _) ?_; rintro v2 w4 ⟨ho4, hg4⟩; refine Hid.out ?_))
      refine Lib.hid ?_
      obtain ⟨ag, cg, rfl⟩ := own_slice ho4
      have hb4 := grown_below hg4
      have n4 := (hb4.block _ (Array.getElem?_eq_some_iff.1 H3.out.1).1).trans H3.out.1
      have f1 : w4.cell? ⟨wr.heap.size, 2, none⟩ = some (.slice af lf cf) := cell_at n4 rfl
      have f1' : w4.frozen? ⟨wr.heap.size, 2, none⟩ = false := frz_at n4
      obtain ⟨W5, hW5⟩ : ∃ W5, W5 = w4.setCell ⟨wr.heap.size, 2, none⟩ (.slice ag fs.length cg) := ⟨_, rfl⟩
      have n5 : W5.heap[wr.heap.size]? = some (.cells #[.string (bs nm), .slice asn of.length cs', .slice ag fs.length cg] 34 (0, 0)) := by rw [hW5]; exact (heap_setCell_same w4 _ 2 _ 34 _ n4).trans rfl
      have hB5 : Below wr.heap.size wr W5 := by rw [hW5]; exact (on1K H3.out.2.1 hb4 (Nat.le_refl _)).setCell (p := ⟨wr.heap.size, 2, none⟩) (Nat.le_refl _) _
      have ho5 : W5.ownsRow W0.heap.size 101 4 (.slice ag fs.length cg) fs.length (cellsF fs) := by rw [hW5]; exact own_set ho4 (row_apart ho4 n4 (by decide)) _ _
      have ho5' : W5.ownsRow W0.heap.size 9 1 (.slice asn of.length cs') of.length (cellsS of) := by rw [hW5]; exact own_kt H3.out.2.2 ((Kt.of_below hb4).set n4 (by decide) _ _)
      have x0 : W5.cell? ⟨w1.heap.size, 0, none⟩ = some (.slice a1 k p1) := (hB5.cell (p := ⟨w1.heap.size, 0, none⟩) (Array.getElem?_eq_some_iff.1 HA.out.2.2.1).1).trans (cell_at HA.out.2.2.1 rfl)
      have g0 : W5.cell? ⟨wr.heap.size, 0, none⟩ = some (.string (bs nm)) := cell_at n5 rfl
      have g1 : W5.cell? ⟨wr.heap.size, 1, none⟩ = some (.slice asn of.length cs') := cell_at n5 rfl
      have g2 : W5.cell? ⟨wr.heap.size, 2, none⟩ = some (.slice ag fs.length cg) := cell_at n5 rfl
      have HO : Hid ((W5.alloc (.cells #[.string (bs nm), .slice asn of.length cs', .slice ag fs.length cg] 34)).ownsRow W0.heap.size 34 3 (.slice a1 k p1) k (cellsK M) ∧ W0.heap.size ≤ (W5.alloc (.cells #[.string (bs nm), .slice asn of.length cs', .slice ag fs.length cg] 34)).heap.size) := by
        have hBa := on1K hB5 (b_alloc (Below.refl _ W5) (.cells #[.string (bs nm), .slice asn of.length cs', .slice ag fs.length cg] 34)) (Nat.le_refl _)
        have := own_kt HA.out.2.2.2.1.1 (Kt.of_below (t := 34) hBa)
        rw [HA.out.1] at this
        exact ⟨this, Nat.le_trans HA.out.2.2.2.2.2.size hBa.size⟩
      have HSt : Hid (∀ w7 v7, (W5.alloc (.cells #[.string (bs nm), .slice asn of.length cs', .slice ag fs.length cg] 34)).grownBy w7 (Value.slice a1 k p1).ownBlock → w7.ownsRow W0.heap.size 34 3 v7 (k + 1) (cellsK M ++ [.string (bs nm), .slice asn of.length cs', .slice ag fs.length cg]) → (w7.cell? ⟨w1.heap.size, 0, none⟩ = some (.slice a1 k p1) ∧ w7.frozen? ⟨w1.heap.size, 0, none⟩ = false) ∧ CsI W0 w1.heap.size (.slice a2 B.length p2) L B (k + 1) (w7.setCell ⟨w1.heap.size, 0, none⟩ v7)) := fun w7 v7 q1 q2 => csI_step HI0.out.2 HQ.out HA.out.1 HA.out.2.1 HA.out.2.2.1 HA.out.2.2.2.1 HA.out.2.2.2.2.1 HA.out.2.2.2.2.2 hB5 ho5' ho5 q1 q2
      have HM : Hid (k + 1 ≤ maxLen ∧ (k + 1) * 64 ≤ 140737488355328) := by unfold maxLen; exact ⟨by omega, by omega⟩
      have HW5 := Lib.hid hW5
      clear ho4 hg4 hb4 n4 hW5 n5 hB5 ho5 ho5' clF e3
      go_upto_region 7 with fail
      rw [← HW5.out]
      clear f1 f1'
      go_wp2_with (first | (at_builtin; refine wpList_append_own _ rfl (.tmp 26) (.tmp 28) 22 rfl W0.heap.size 34 i0 _ 3 64 Tryz.underlying22 hi0 hz0 hz1 hz2 rfl (by decide) (.slice a1 k p1) k (cellsK M) rfl HO.out.1 ⟨W5.heap.size, 0, none⟩ 1 1 [.string (bs nm), .slice asn of.length cs', .slice ag fs.length cg] rfl rfl (new_at _ _ _) (by simp [Value.oneCell']) HM.out.1 HM.out.2 HO.out.2 ?_; intro v7 w7 hown7 hgrow7 _; obtain ⟨⟨z0, z1⟩, hcs⟩ := HSt.out w7 v7 hgrow7 hown7; obtain ⟨a3, c3, rfl⟩ := own_slice hown7; have HCs := Lib.hid hcs; clear hcs hown7 hgrow7))
      go_roundw
      case rel => exact ⟨k + 1, by omega, by go_num, HCs.out⟩
      case measure => simp [intOf]; omega
    · obtain rfl : k = L.length := by omega
      rw [List.take_length] at hcN
      have hr1 := (hB.block _ (by have := HH.out.2.1; omega)).trans HH.out.2.2.2.1
      have HF : Hid (M.map kq3 = L.map kq3 ∧ OwnKs wr W0.heap.size (.slice a1 L.length p1) M ∧ OwnBs wr W0.heap.size (.slice a2 B.length p2) B ∧ Below w.heap.size w wr ∧ Ty wr (w.heap.size + 1) 25) := ⟨hcN, hNs, hTs, on1K HH.out.1 hB (Nat.le_refl _), _, hr1⟩
      have e0 : wr.cell? ⟨w1.heap.size, 0, none⟩ = some (.slice a1 L.length p1) := cell_at hX rfl
      have e1 : wr.cell? ⟨w1.heap.size, 1, none⟩ = some (.slice a2 B.length p2) := cell_at hX rfl
      have r0 : wr.cell? ⟨w.heap.size + 1, 0, none⟩ = some (.slice none 0 0) := cell_at hr1 rfl
      have r1 : wr.cell? ⟨w.heap.size + 1, 1, none⟩ = some (.slice none 0 0) := cell_at hr1 rfl
      have s0 : wr.frozen? ⟨w.heap.size + 1, 0, none⟩ = false := frz_at hr1
      have s1 : wr.frozen? ⟨w.heap.size + 1, 1, none⟩ = false := frz_at hr1
      have t1 : ((wr.setCell ⟨w.heap.size + 1, 0, none⟩ (.slice a1 L.length p1)).setCell ⟨w.heap.size + 1, 1, none⟩ (.slice a2 B.length p2)).heap[w.heap.size + 1]? = some (.cells #[.slice a1 L.length p1, .slice a2 B.length p2] 25 (0, 0)) := heap_setCell_same _ _ 1 _ 25 _ (heap_setCell_same wr _ 0 _ 25 _ hr1)
      have HT : Hid (((wr.setCell ⟨w.heap.size + 1, 0, none⟩ (.slice a1 L.length p1)).setCell ⟨w.heap.size + 1, 1, none⟩ (.slice a2 B.length p2)).cell? ⟨w.heap.size + 1, 0, none⟩ = some (.slice a1 L.length p1) ∧ ((wr.setCell ⟨w.heap.size + 1, 0, none⟩ (.slice a1 L.length p1)).setCell ⟨w.heap.size + 1, 1, none⟩ (.slice a2 B.length p2)).cell? ⟨w.heap.size + 1, 1, none⟩ = some (.slice a2 B.length p2)) := ⟨cell_at t1 rfl, cell_at t1 rfl⟩
      clear hcN hX hNs hTs hB hr1 t1 hk
      go_wp2
      obtain ⟨f1, f2, f3, f4, f5⟩ := HF.out
      obtain ⟨t0, t1⟩ := HT.out
      have hs0' : w.heap.size ≤ W0.heap.size := HH.out.1.size
      have kk : ∀ t : TypeId, (25 : TypeId) ≠ t → Kt t wr ((wr.setCell ⟨w.heap.size + 1, 0, none⟩ (.slice a1 L.length p1)).setCell ⟨w.heap.size + 1, 1, none⟩ (.slice a2 B.length p2)) := fun t ht => ((Kt.refl _ _).ty f5 ht _ _).ty (f5.set _ _ _) ht _ _
      refine bodyPost_ret (v := .agg #[.slice a1 L.length p1, .slice a2 B.length p2]) ?_ rfl ⟨_, _, M, rfl, f1, ⟨?_, fun q hq => ⟨?_, ?_⟩⟩, ?_, ?_⟩
      · simp [results, Tryz.results20, go_sem, t0, t1]
      · exact own_base (own_kt f2.1 (kk 34 (by decide))) hs0'
      · exact own_base (own_kt (f2.2 q hq).1 (kk 9 (by decide))) hs0'
      · exact own_base (own_kt (f2.2 q hq).2 (kk 101 (by decide))) hs0'
      · exact own_base (own_kt f3 (kk 103 (by decide))) hs0'
      · exact (f4.setCell (by show _ ≤ w.heap.size + 1; omega) _).setCell (by show _ ≤ w.heap.size + 1; omega) _
end Go.Proofs.YtikjmingkadjcaaGreatDoor

/-
  The walk of index.shapesOf.
-/
namespace Go.Proofs.YtikjmingkadjcaaGreatDoor
open Go.RowKit
open Go.Maps (Keyed)
set_option linter.unusedVariables false
set_option linter.unusedSimpArgs false

structure Hp where
  kn : List Nm
  ks : List Nm
def hpP (L : List Kd) (a : Nm) : Hp := ⟨nms (kin L a), keysF (fields L a)⟩
def hpO (L M : List Kd) : ByteArray → Option Hp := M.foldl (fun F k => upd F (bs k.nm) (hpP L k.nm)) (fun _ => none)
theorem hpO_take {L M : List Kd} {k : Nat} {x : Kd} (h : M[k]? = some x) : hpO L (M.take (k + 1)) = upd (hpO L (M.take k)) (bs x.nm) (hpP L x.nm) := foldl_take _ _ h
def OwnHp (w : World) (base : Nat) (v : Value) (h : Hp) : Prop := ∃ vk vs, v = .agg #[vk, vs] ∧ w.ownsRow base 9 1 vk h.kn.length (cellsS h.kn) ∧ w.ownsRow base 9 1 vs h.ks.length (cellsS h.ks)
theorem OwnHp.kt {w w' : World} {base : Nat} {v : Value} {h : Hp} (hh : OwnHp w base v h) (hk : Kt 9 w w') : OwnHp w' base v h := by
  obtain ⟨a, b, rfl, h1, h2⟩ := hh
  exact ⟨a, b, rfl, own_kt h1 hk, own_kt h2 hk⟩
def HpR (w : World) (base : Nat) (o : Option Value) (h : Option Hp) : Prop := (o = none ∧ h = none) ∨ ∃ v s, o = some v ∧ h = some s ∧ OwnHp w base v s
def MapHp (w : World) (base b : Nat) (H : ByteArray → Option Hp) : Prop := ∃ F, OwnM w Tryz.prog 9 encS b F ∧ ∀ x, HpR w base (F x) (H x)
theorem MapHp.kt {w w' : World} {base b : Nat} {H : ByteArray → Option Hp} (h : MapHp w base b H) (hb : w'.heap[b]? = w.heap[b]?) (hk : Kt 9 w w') : MapHp w' base b H := by
  obtain ⟨F, h1, h2⟩ := h
  refine ⟨F, h1.of_block hb, fun x => ?_⟩
  rcases h2 x with h | ⟨v, s, e1, e2, hh⟩
  · exact .inl h
  · exact .inr ⟨v, s, e1, e2, hh.kt hk⟩
theorem MapHp.on {w w' : World} {base b : Nat} {H : ByteArray → Option Hp} (h : MapHp w base b H) (hB : Below w.heap.size w w') : MapHp w' base b H := by
  obtain ⟨F, h1, h2⟩ := h
  exact MapHp.kt ⟨F, h1, h2⟩ (hB.block b h1.lt) (.of_below hB)
theorem Kt.of_map {t : TypeId} {κ : Type} {k : TypeId} {enc : κ → Value} {b : Nat} {F : κ → Option Value} {w w' : World} (h : OwnM w Tryz.prog k enc b F) (hg : w.grownBy w' (some b)) : Kt t w w' := by
  obtain ⟨es, c, hm, _⟩ := h
  exact ⟨hg.size, fun x cs hx => (hg.block x (Array.getElem?_eq_some_iff.1 hx).1 (fun e => by injection e with e; subst e; rw [hm] at hx; cases hx)).trans hx⟩
theorem mapHp_put {w : World} {base b : Nat} {H : ByteArray → Option Hp} (h : MapHp w base b H) {x : ByteArray} {l : Lit} (hk : keyOf Tryz.prog 9 (encS x) = some l) {v : Value} {s : Hp} (hv : OwnHp w base v s) :
    ∃ w', (Instr.mapUpdate 106 (.map (some b)) (encS x) v).run Tryz.prog w = .ok () w' ∧ MapHp w' base b (upd H x s) ∧ w.grownBy w' (some b) ∧ Kp w w' ∧ Kt 9 w w' := by
  obtain ⟨F, h1, h2⟩ := h
  obtain ⟨w', r1, r2, r3⟩ := h1.put keyedS encS_inj Tryz.underlying106 hk v
  have hK := but_map h1 r3
  have hT : Kt 9 w w' := Kt.of_map h1 r3
  refine ⟨w', r1, ⟨_, r2, fun y => ?_⟩, r3, hK, hT⟩
  unfold upd
  split
  · exact .inr ⟨v, s, rfl, rfl, hv.kt hT⟩
  · rcases h2 y with h | ⟨v', s', e1, e2, hh⟩
    · exact .inl h
    · exact .inr ⟨v', s', e1, e2, hh.kt hT⟩
set_option maxHeartbeats 8000000 in
set_option maxRecDepth 100000 in
theorem shapesOf_any {vk vb : Value} {L : List Kd} {w : World} (hK : IsK w vk L) (hP : Parts w L) (hz : SzK L) (he : (ksErr L).2 = 0) (hvb : ∃ a n c, vb = .slice a n c) :
    Calls Tryz.prog 35 #[.agg #[vk, vb]] w fun e w' => ∃ b, e = .returned (.map (some b)) ∧ w.heap.size ≤ b ∧ MapHp w' w.heap.size b (hpO L L) ∧ Below w.heap.size w w' := by
  have hl12 := ksErr_len he
  obtain ⟨ab, nb, cb, rfl⟩ := hvb
  obtain ⟨ak, ck, rfl, _⟩ := hK.sln
  obtain ⟨W2, hW2⟩ : ∃ W2, W2 = (w.alloc (.cells #[.slice ak L.length ck, .slice ab nb cb] 25)).alloc (.map #[] 0) := ⟨_, rfl⟩
  have hB2 : Below w.heap.size w W2 := by rw [hW2]; exact b_alloc (b_alloc (Below.refl _ _) _) _
  have n0 : W2.heap[w.heap.size]? = some (.cells #[.slice ak L.length ck, .slice ab nb cb] 25 (0, 0)) := by rw [hW2]; exact (heap_alloc_old _ _ (by simp)).trans (heap_alloc_new w _)
  have hs2 : W2.heap.size = w.heap.size + 2 := by rw [hW2]; simp
  have hM0 : MapHp W2 w.heap.size (w.heap.size + 1) (hpO L (L.take 0)) := by
    refine ⟨fun _ => none, ?_, fun x => .inl ⟨rfl, rfl⟩⟩
    have := OwnM.made (P := Tryz.prog) (k := 9) (enc := encS) (w.alloc (.cells #[.slice ak L.length ck, .slice ab nb cb] 25))
    rw [World.size_alloc] at this
    rw [hW2]; exact this
  have HH : Hid (IsK w (.slice ak L.length ck) L ∧ Parts w L ∧ (ksErr L).2 = 0 ∧ Below w.heap.size w W2 ∧ W2.heap[w.heap.size]? = some (.cells #[.slice ak L.length ck, .slice ab nb cb] 25 (0, 0)) ∧ W2.heap.size = w.heap.size + 2 ∧ MapHp W2 w.heap.size (w.heap.size + 1) (hpO L (L.take 0))) := ⟨hK, hP, he, hB2, n0, hs2, hM0⟩
  have x0 : W2.cell? ⟨w.heap.size, 0, none⟩ = some (.slice ak L.length ck) := cell_at n0 rfl
  have hmm := @run_makeMap Tryz.prog
  clear hK hP he hB2 n0 hs2 hM0
  go_enter Tryz.func35, Tryz.ntmps35
  go_upto_region 2 with fail
  rw [← hW2]
  clear hW2
  go_wp2
  go_loopw [14] (fun i wr => ∃ k : Nat, k ≤ L.length ∧ i = .int .i64 k ∧ MapHp wr w.heap.size (w.heap.size + 1) (hpO L (L.take k)) ∧ W2.grownBy wr (some (w.heap.size + 1))) (fun i _ => L.length - (intOf i).toNat)
  case atStart => exact ⟨0, Nat.zero_le _, rfl, HH.out.2.2.2.2.2.2, but_of_below (Below.refl _ _) _⟩
  case round =>
    obtain ⟨k, hk, rfl, hM, hg⟩ := hrel
    have hbw : Below w.heap.size w wr := HH.out.2.2.2.1.trans (below_but hg (by have := HH.out.2.2.2.2.2.1; omega) (by omega))
    have y0 := (hg.block w.heap.size (by have := HH.out.2.2.2.2.2.1; omega) (by simp)).trans HH.out.2.2.2.2.1
    have hsz : w.heap.size + 2 ≤ wr.heap.size := by have := hg.size; have := HH.out.2.2.2.2.2.1; omega
    by_cases hlt : k < L.length
    · obtain ⟨x, hx⟩ : ∃ x, L[k]? = some x := ⟨L[k], by simp [hlt]⟩
      obtain ⟨b, off, c, hv, hb, e0, e1, e2⟩ := HH.out.1.at hx
      injection hv with hv1 hv2 hv3
      subst hv1 hv3
      clear hv2
      have d0 := (hbw.cell (p := ⟨b, off + k * 3, none⟩) hb).trans e0
      have d1 := (hbw.cell (p := ⟨b, off + k * 3 + 1, none⟩) hb).trans e1
      have d2 := (hbw.cell (p := ⟨b, off + k * 3 + 2, none⟩) hb).trans e2
      have hxm := List.mem_of_getElem? hx
      have hT := hpO_take (L := L) hx
      obtain ⟨p1, p2⟩ := HH.out.2.1 x hxm
      have hnm := in_nmErr HH.out.2.2.1 hxm
      obtain ⟨kl, hkl⟩ := keyS (s := bs x.nm) (by rw [bs_size]; exact (hz x hxm).1)
      obtain ⟨ao, co, ho, _⟩ := p1.sln
      obtain ⟨af, cf, hf, _⟩ := p2.sln
      obtain ⟨nm, of, fs, vo, vf⟩ := x
      simp only at d0 d1 d2 hT hnm hkl ho hf
      subst ho
      subst hf
      obtain ⟨W3, hW3⟩ : ∃ W3, W3 = wr.alloc (.cells #[.string (bs nm), .slice ao of.length co, .slice af fs.length cf] 34) := ⟨_, rfl⟩
      have hB3 : Below wr.heap.size wr W3 := by rw [hW3]; exact b_alloc (Below.refl _ _) _
      have n3 : W3.heap[wr.heap.size]? = some (.cells #[.string (bs nm), .slice ao of.length co, .slice af fs.length cf] 34 (0, 0)) := by rw [hW3]; exact heap_alloc_new wr _
      have HC : Hid (∀ W, Below W3.heap.size W3 W → Below wr.heap.size wr W ∧ W.cell? ⟨w.heap.size, 0, none⟩ = some (.slice (some ⟨b, off, none⟩) L.length ck) ∧ W.cell? ⟨wr.heap.size, 0, none⟩ = some (.string (bs nm))) := fun W h => by
        have h' := on1K hB3 h (Nat.le_refl _)
        exact ⟨h', cell_at ((h'.block _ (by omega)).trans y0) rfl, cell_at ((h.block _ (Array.getElem?_eq_some_iff.1 n3).1).trans n3) rfl⟩
      have ck1 := fun W (h : Below W3.heap.size W3 W) => kin_any (HH.out.1.on (on1K hbw (on1K hB3 h (Nat.le_refl _)) (Nat.le_refl _))) (HH.out.2.1.on (on1K hbw (on1K hB3 h (Nat.le_refl _)) (Nat.le_refl _))) hz nm
      have cf1 := fun W (h : Below W3.heap.size W3 W) => fields_any (HH.out.1.on (on1K hbw (on1K hB3 h (Nat.le_refl _)) (Nat.le_refl _))) (HH.out.2.1.on (on1K hbw (on1K hB3 h (Nat.le_refl _)) (Nat.le_refl _))) hz nm
      have HCk := Lib.hid ck1
      have HCf := Lib.hid cf1
      have HN : Hid (nmErr L nm = 0) := hnm
      have HF : Hid (∀ W6 v s, Below W3.heap.size W3 W6 → W6.ownsRow w.heap.size 9 1 v (nms (kin L nm)).length (cellsS (nms (kin L nm))) → W6.ownsRow w.heap.size 9 1 s (keysF (fields L nm)).length (cellsS (keysF (fields L nm))) → ∃ w7, (Instr.mapUpdate 106 (.map (some (w.heap.size + 1))) (.string (bs nm)) (.agg #[v, s])).run Tryz.prog W6 = .ok () w7 ∧ (MapHp w7 w.heap.size (w.heap.size + 1) (hpO L (L.take (k + 1))) ∧ W2.grownBy w7 (some (w.heap.size + 1))) ∧ Kp W6 w7) := fun W6 v s h6 o1 o2 => by
        have h' := on1K hB3 h6 (Nat.le_refl _)
        obtain ⟨w7, r1, r2, r3, r4, _⟩ := mapHp_put (hM.on h') hkl (v := .agg #[v, s]) (s := hpP L nm) ⟨v, s, rfl, o1, o2⟩
        exact ⟨w7, r1, ⟨by rw [hT]; exact r2, but_trans (but_below hg h') r3⟩, r4⟩
      have HW3 := Lib.hid hW3
      have hzw : Hid (w.heap.size ≤ wr.heap.size ∧ wr.heap.size ≤ W3.heap.size) := ⟨by omega, hB3.size⟩
      obtain ⟨_, u0, u1⟩ := HC.out W3 (Below.refl _ _)
      have hbn : ¬ b = wr.heap.size := by have := hbw.size; omega
      clear hB3 n3 ck1 cf1 e0 e1 e2 hx hT hkl hnm hxm p1 p2 hM hg hbw y0 hW3
      go_upto_region 5 with fail
      rw [← HW3.out]
      go_wp2_with (first | (go_at_call 49; refine (HCk.out W3 (Below.refl _ _)).mono ?_; rintro e W4 ⟨v4, rfl, hv4, _, hB4⟩; refine Hid.out ?_))
      refine Lib.hid ?_
      have ho4 := hv4 HN.out
      obtain ⟨a4, c4, rfl⟩ := own_slice ho4
      rw [HN.out, errV_0]
      obtain ⟨_, s0, s1⟩ := HC.out W4 hB4
      have H4 : Hid (W4.ownsRow w.heap.size 9 1 (.slice a4 (nms (kin L nm)).length c4) (nms (kin L nm)).length (cellsS (nms (kin L nm))) ∧ Below W3.heap.size W3 W4) := ⟨own_base ho4 (Nat.le_trans hzw.out.1 hzw.out.2), hB4⟩
      clear hv4 ho4 hB4 u0 u1
      go_wp2_with (first | (go_at_call 50; refine (HCf.out W4 H4.out.2).mono ?_; rintro e W5 ⟨v5, rfl, hv5, _, hB5⟩; refine Hid.out ?_))
      refine Lib.hid ?_
      obtain ⟨ho5, _, hf8⟩ := hv5 HN.out
      have hI5 := own_isF ho5
      obtain ⟨a5, c5, rfl⟩ := own_slice ho5
      rw [HN.out, errV_0]
      have hB35 := on1K H4.out.2 hB5 (Nat.le_refl _)
      obtain ⟨_, t0, t1⟩ := HC.out W5 hB35
      have H5 : Hid (W5.ownsRow w.heap.size 9 1 (.slice a4 (nms (kin L nm)).length c4) (nms (kin L nm)).length (cellsS (nms (kin L nm))) ∧ Below W3.heap.size W3 W5) := ⟨own_kt H4.out.1 (.of_below hB5), hB35⟩
      have cK := keyNames_any (w := W5.drew) (v := .slice a5 (fields L nm).length c5) (l := fields L nm) hI5 (by omega)
      have HKc : Hid (∀ W6, Kp W5.drew W6 → W6.cell? ⟨wr.heap.size, 0, none⟩ = some (.string (bs nm))) := fun W6 hK => hK.2 _ _ t1
      have HKn : Hid (∀ W6 u, W6.ownsRow W5.drew.heap.size 9 1 u (keysF (fields L nm)).length (cellsS (keysF (fields L nm))) → Below W5.drew.heap.size W5.drew W6 → ∃ w7, (Instr.mapUpdate 106 (.map (some (w.heap.size + 1))) (.string (bs nm)) (.agg #[.slice a4 (nms (kin L nm)).length c4, u])).run Tryz.prog W6 = .ok () w7 ∧ (MapHp w7 w.heap.size (w.heap.size + 1) (hpO L (L.take (k + 1))) ∧ W2.grownBy w7 (some (w.heap.size + 1))) ∧ Kp W6 w7) := fun W6 u h6 hB6 => HF.out W6 _ u (on1K H5.out.2 (b_undrew hB6) (Nat.le_refl _)) (own_kt H5.out.1 (.of_below (b_undrew hB6))) (own_base h6 (by have := H5.out.2.size; have := hzw.out; show w.heap.size ≤ W5.heap.size; omega))
      clear hv5 ho5 hI5 hB5 hB35 hf8 s0 s1
      obtain ⟨nk, hnk⟩ : ∃ nk, nk = (nms (kin L nm)).length := ⟨_, rfl⟩
      rw [← hnk] at HKn ⊢
      clear hnk
      go_wp2
      first | (go_region_held_law (fun w' => w'.cell? ⟨wr.heap.size, 0, none⟩ = some (.string (bs nm))) (go_keep) (first | (go_simp; go_at_call 51; refine cK.mono ?_; rintro e W6 ⟨v6, rfl, ho6, hB6⟩; obtain ⟨w7, hrun, hN7, hK7⟩ := HKn.out W6 v6 ho6 hB6; obtain ⟨a6, c6, rfl⟩ := own_slice ho6; have q0 := HKc.out W6 (Kp.of_below hB6); have q1 := HKc.out w7 ((Kp.of_below hB6).trans hK7); have HN7 := Lib.hid hN7; clear hN7 ho6 hB6 hK7))) | fail
      all_goals
        go_wp2
        refine ⟨?_, ?_⟩
        · first | exact ⟨k + 1, by omega, by go_num, HN7.out⟩ | ((repeat apply Exists.intro); refine ⟨?_, rfl⟩; exact ⟨k + 1, by omega, by go_num, HN7.out⟩)
        · simp [intOf]
          try omega
    · obtain rfl : k = L.length := by omega
      rw [List.take_length] at hM
      clear y0
      go_wp2
      go_ret
      exact ⟨_, rfl, by omega, hM, hbw⟩
end Go.Proofs.YtikjmingkadjcaaGreatDoor

/-
  The walk of index.conform.
-/
namespace Go.Proofs.YtikjmingkadjcaaGreatDoor
open Go.RowKit
set_option linter.unusedVariables false
set_option linter.unusedSimpArgs false

def cfE (L : List Kd) (B : List Bd) (N : List Nd) (T : List Te) : Int := if inE L B N T = 0 then (if confB L B N T then 0 else 9) else inE L B N T
set_option maxHeartbeats 8000000 in
set_option maxRecDepth 100000 in
theorem conform_any {vs vg : Value} {L : List Kd} {B : List Bd} {N : List Nd} {T : List Te} {w : World} (hs : IsSc w vs L B) (hg : IsG w vg N T) : Calls Tryz.prog 34 #[vs, vg] w fun e w' => e = .returned (errV (cfE L B N T)) ∧ Below w.heap.size w w' := by
  obtain ⟨vk, vb, rfl, hK, hP, hz, hb, hzb⟩ := hs
  obtain ⟨vn, vt, rfl, hN, hT, zN, zT, lN, lT⟩ := hg
  obtain ⟨ak, ck, rfl, hl1⟩ := hK.sln
  obtain ⟨ab, cb, rfl, hl2⟩ := hb.sln
  have HN : Hid (IsN w vn N ∧ IsT w vt T) := ⟨hN, hT⟩
  obtain ⟨an, cn, rfl, _⟩ := hN
  obtain ⟨at', ct, rfl, _⟩ := hT
  have HB0 : Hid (Below w.heap.size w (box2 w #[.slice ak L.length ck, .slice ab B.length cb] 25 #[.slice an N.length cn, .slice at' T.length ct] 29)) := box2_below _ _ _ _ _
  have c := conforms_any (L := L) (B := B) (N := N) (T := T) (w := (box2 w #[.slice ak L.length ck, .slice ab B.length cb] 25 #[.slice an N.length cn, .slice at' T.length ct] 29)) ⟨_, _, rfl, hK.on HB0.out, hP.on HB0.out, hz, hb.on HB0.out, hzb⟩ ⟨_, _, rfl, HN.out.1.on HB0.out, HN.out.2.on HB0.out, zN, zT, lN, lT⟩
  have hE : cfE L B N T = if inE L B N T = 0 then (if confB L B N T then 0 else 9) else inE L B N T := rfl
  generalize confB L B N T = cb1 at c hE
  generalize inE L B N T = ie at c hE
  generalize cfE L B N T = ce at hE
  clear hK hP hz hb hzb zN zT lN lT hl1 hl2
  by_cases he : ie = 0
  · subst he
    rw [if_pos rfl] at hE
    rw [errV_0] at c
    cases cb1
    · have h9 : errV ce = .iface 79 (.int .i64 9) := by rw [hE]; exact errV_ne (by decide)
      rw [h9]
      clear hE h9
      go_enter Tryz.func34, Tryz.ntmps34
      go_wp2_with (go_at_call 39; refine c.mono ?_; rintro e W1 ⟨rfl, hB1⟩)
      go_ret
      exact ⟨rfl, on1KC HB0.out hB1 (Nat.le_refl _)⟩
    · have h9 : errV ce = .nilIface := by rw [hE]; exact errV_0
      rw [h9]
      clear hE h9
      go_enter Tryz.func34, Tryz.ntmps34
      go_wp2_with (go_at_call 39; refine c.mono ?_; rintro e W1 ⟨rfl, hB1⟩)
      go_ret
      exact ⟨rfl, on1KC HB0.out hB1 (Nat.le_refl _)⟩
  · rw [if_neg he] at hE
    subst hE
    rw [errV_ne he] at c ⊢
    clear he
    go_enter Tryz.func34, Tryz.ntmps34
    go_wp2_with (go_at_call 39; refine c.mono ?_; rintro e W1 ⟨rfl, hB1⟩)
    go_ret
    exact ⟨rfl, on1KC HB0.out hB1 (Nat.le_refl _)⟩
end Go.Proofs.YtikjmingkadjcaaGreatDoor

/-
  The walk of slices.Clone of ints.
-/
namespace Go.Proofs.YtikjmingkadjcaaGreatDoor
open Go.RowKit
set_option linter.unusedVariables false
set_option linter.unusedSimpArgs false

def cellsI (L : List Int) : List Value := L.map (fun x => .int .i64 x)
theorem infoInt : (Tryz.prog.info? 3).map (fun i => (i.zero, i.size, i.bytes)) = some (some (.int .i64 0), 1, 8) := by kernel_rfl
end Go.Proofs.YtikjmingkadjcaaGreatDoor

/-
  The walks of find and of what it calls, and of kinref2.In.
-/
namespace Go.Proofs.YtikjmingkadjcaaGreatDoor
open Go.RowKit
set_option linter.unusedVariables false
set_option linter.unusedSimpArgs false

end Go.Proofs.YtikjmingkadjcaaGreatDoor
