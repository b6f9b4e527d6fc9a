/-
  The walk of change.Do.
-/
import Derived.Test.YtpmblbhemcippaaGreatDoorM29
import Derived.Test.YtpmblbhemcippaaGreatDoorM12
import Derived.Test.YtpmblbhemcippaaGreatDoorM13
namespace Go.Proofs.YtpmblbhemcippaaGreatDoor
open Go.RowKit
set_option linter.unusedVariables false
set_option linter.unusedSimpArgs false

theorem all_any {w : World} {vk vb vl : Value} {L : List Kd} {B : List Bd} {l : List Ch} (hK : IsK w vk L) (hP : Parts w L) (hz : SzK L) (hb : IsB w vb B) (hzb : SzB B) (hl : IsC w vl l) (hlz : ∀ c ∈ l, ChSz c) :
    Calls Tryz.prog 18 #[.agg #[vk, vb], vl] w (AllP w (allA L B l)) := by
  unfold allA
  by_cases h40 : 40 < l.length
  · rw [if_pos h40]
    exact all_many hK hb hl h40
  · rw [if_neg h40]
    by_cases hs : (sErr L B).2 = 0
    · rw [if_pos hs]
      exact all_ok hK hP hz hb hzb hl hlz h40 hs
    · rw [if_neg hs]
      exact all_bad hK hP hz hb hzb hl h40 hs
def DoP (w : World) (r : Int × Nat × List Kd × List Bd) (e : Ending) (w' : World) : Prop :=
  ∃ uk ub M, e = .returned (.tuple #[.agg #[uk, ub], errV r.1]) ∧ M.map kq3 = r.2.2.1.map kq3 ∧ OwnKs w' w.heap.size uk M ∧ OwnBs w' w.heap.size ub r.2.2.2 ∧ Below w.heap.size w w'
set_option maxHeartbeats 8000000 in
set_option maxRecDepth 100000 in
theorem do_any {w : World} {vk vb : Value} {L : List Kd} {B : List Bd} (c : Ch) (hK : IsK w vk L) (hP : Parts w L) (hz : SzK L) (hb : IsB w vb B) (hzb : SzB B) (hc : ChIs w c) (hcz : ChSz c) :
    Calls Tryz.prog 9 #[.agg #[vk, vb], c.one] w (DoP w (allA L B [c])) := by
  obtain ⟨a1, c1, rfl, _⟩ := hK.sln
  obtain ⟨a2, c2, rfl, _⟩ := hb.sln
  obtain ⟨wh, nm, ⟨kn, ko, kf, vo, vf⟩, ⟨bn, bf, bt, mn, mx⟩, ⟨fn, ft, fm, fk⟩, vt, vn, vs, tn⟩ := c
  obtain ⟨ao, lo1, co, q1⟩ := hc.1.sl
  obtain ⟨af, lf1, cf, q2⟩ := hc.2.sl
  simp only at q1 q2
  subst q1 q2
  obtain ⟨W0, hW0⟩ : ∃ W0, W0 = ((w.alloc (.cells #[.slice a1 L.length c1, .slice a2 B.length c2] 46)).alloc (.cells #[.int .i64 wh, .string (bs nm), .string (bs kn), .slice ao lo1 co, .slice af lf1 cf, .string (bs bn), .string (bs bf), .string (bs bt), .int .i64 mn, .int .i64 mx, .string (bs fn), .int .i64 ft, .bool fm, .bool fk, .int .i64 vt, .int .i64 vn, .string (bs vs), .string (bs tn)] 38)).alloc (.cells #[.slice none 0 0, .slice none 0 0] 46) := ⟨_, rfl⟩
  have hB0 : Below w.heap.size w W0 := by rw [hW0]; exact b_alloc (b_alloc (b_alloc (Below.refl _ _) _) _) _
  have hs0 : W0.heap.size = w.heap.size + 3 := by rw [hW0]; simp
  have n0 : W0.heap[w.heap.size]? = some (.cells #[.slice a1 L.length c1, .slice a2 B.length c2] 46 (0, 0)) := by rw [hW0]; exact (heap_alloc_old _ _ (by simp; omega)).trans ((heap_alloc_old _ _ (by simp)).trans (heap_alloc_new w _))
  have n1 : W0.heap[w.heap.size + 1]? = some (.cells #[.int .i64 wh, .string (bs nm), .string (bs kn), .slice ao lo1 co, .slice af lf1 cf, .string (bs bn), .string (bs bf), .string (bs bt), .int .i64 mn, .int .i64 mx, .string (bs fn), .int .i64 ft, .bool fm, .bool fk, .int .i64 vt, .int .i64 vn, .string (bs vs), .string (bs tn)] 38 (0, 0)) := by
    have := heap_alloc_new (w.alloc (.cells #[.slice a1 L.length c1, .slice a2 B.length c2] 46)) (.cells #[.int .i64 wh, .string (bs nm), .string (bs kn), .slice ao lo1 co, .slice af lf1 cf, .string (bs bn), .string (bs bf), .string (bs bt), .int .i64 mn, .int .i64 mx, .string (bs fn), .int .i64 ft, .bool fm, .bool fk, .int .i64 vt, .int .i64 vn, .string (bs vs), .string (bs tn)] 38)
    rw [World.size_alloc] at this; rw [hW0]; exact (heap_alloc_old _ _ (by simp)).trans this
  have n2 : W0.heap[w.heap.size + 2]? = some (.cells #[.slice none 0 0, .slice none 0 0] 46 (0, 0)) := by
    have := heap_alloc_new ((w.alloc (.cells #[.slice a1 L.length c1, .slice a2 B.length c2] 46)).alloc (.cells #[.int .i64 wh, .string (bs nm), .string (bs kn), .slice ao lo1 co, .slice af lf1 cf, .string (bs bn), .string (bs bf), .string (bs bt), .int .i64 mn, .int .i64 mx, .string (bs fn), .int .i64 ft, .bool fm, .bool fk, .int .i64 vt, .int .i64 vn, .string (bs vs), .string (bs tn)] 38)) (.cells #[.slice none 0 0, .slice none 0 0] 46)
    rw [World.size_alloc, World.size_alloc] at this; rw [hW0]; exact this
  obtain ⟨W1, hW1⟩ : ∃ W1, W1 = W0.alloc (.cells #[.int .i64 wh, .string (bs nm), .string (bs kn), .slice ao lo1 co, .slice af lf1 cf, .string (bs bn), .string (bs bf), .string (bs bt), .int .i64 mn, .int .i64 mx, .string (bs fn), .int .i64 ft, .bool fm, .bool fk, .int .i64 vt, .int .i64 vn, .string (bs vs), .string (bs tn)] 38) := ⟨_, rfl⟩
  have hB1 : Below W0.heap.size W0 W1 := by rw [hW1]; exact b_alloc (Below.refl _ _) _
  have m1 : W1.heap[W0.heap.size]? = some (.cells #[.int .i64 wh, .string (bs nm), .string (bs kn), .slice ao lo1 co, .slice af lf1 cf, .string (bs bn), .string (bs bf), .string (bs bt), .int .i64 mn, .int .i64 mx, .string (bs fn), .int .i64 ft, .bool fm, .bool fk, .int .i64 vt, .int .i64 vn, .string (bs vs), .string (bs tn)] 38 (0, 0)) := by rw [hW1]; exact heap_alloc_new W0 _
  have hB01 := on1K hB0 hB1 (Nat.le_refl _)
  have cA := all_any (hK.on hB01) (hP.on hB01) hz (hb.on hB01) hzb (vl := .slice (some ⟨W0.heap.size, 0, none⟩) 1 1) (l := [⟨wh, nm, ⟨kn, ko, kf, .slice ao lo1 co, .slice af lf1 cf⟩, ⟨bn, bf, bt, mn, mx⟩, ⟨fn, ft, fm, fk⟩, vt, vn, vs, tn⟩]) ⟨_, 1, rfl, by simp [maxLen], .inr ⟨W0.heap.size, 0, rfl, (Array.getElem?_eq_some_iff.1 m1).1, fun k c hk => by
    obtain ⟨hk0, e⟩ := List.getElem?_eq_some_iff.1 hk
    have hk1 : k = 0 := by simp only [List.length_singleton] at hk0; omega
    subst hk1
    simp only [List.getElem_cons_zero] at e
    subst e
    exact ⟨fun j v hv => cell_at m1 (by simpa [Ch.cells] using hv), hc.on hB01⟩⟩⟩ (fun c hm => by
    have e : c = ⟨wh, nm, ⟨kn, ko, kf, .slice ao lo1 co, .slice af lf1 cf⟩, ⟨bn, bf, bt, mn, mx⟩, ⟨fn, ft, fm, fk⟩, vt, vn, vs, tn⟩ := by simpa using hm
    subst e
    exact hcz)
  have HF : Hid (∀ e w2, AllP W1 (allA L B [⟨wh, nm, ⟨kn, ko, kf, .slice ao lo1 co, .slice af lf1 cf⟩, ⟨bn, bf, bt, mn, mx⟩, ⟨fn, ft, fm, fk⟩, vt, vn, vs, tn⟩]) e w2 → ∃ uk ub, (∃ a l c, uk = .slice a l c) ∧ (∃ a l c, ub = .slice a l c) ∧ e = .returned (.tuple #[.agg #[uk, ub], .int .i64 (allA L B [⟨wh, nm, ⟨kn, ko, kf, .slice ao lo1 co, .slice af lf1 cf⟩, ⟨bn, bf, bt, mn, mx⟩, ⟨fn, ft, fm, fk⟩, vt, vn, vs, tn⟩]).2.1, errV (allA L B [⟨wh, nm, ⟨kn, ko, kf, .slice ao lo1 co, .slice af lf1 cf⟩, ⟨bn, bf, bt, mn, mx⟩, ⟨fn, ft, fm, fk⟩, vt, vn, vs, tn⟩]).1]) ∧ ∀ (W3 : World), W3 = w2.alloc (.cells #[uk, ub] 46) → W3.heap[w.heap.size + 2]? = some (.cells #[.slice none 0 0, .slice none 0 0] 46 (0, 0)) ∧ W3.cell? ⟨w2.heap.size, 0, none⟩ = some uk ∧ W3.cell? ⟨w2.heap.size, 1, none⟩ = some ub ∧ ∀ W4, W4 = (W3.setCell ⟨w.heap.size + 2, 0, none⟩ uk).setCell ⟨w.heap.size + 2, 1, none⟩ ub → W4.cell? ⟨w.heap.size + 2, 0, none⟩ = some uk ∧ W4.cell? ⟨w.heap.size + 2, 1, none⟩ = some ub ∧ DoP w (allA L B [⟨wh, nm, ⟨kn, ko, kf, .slice ao lo1 co, .slice af lf1 cf⟩, ⟨bn, bf, bt, mn, mx⟩, ⟨fn, ft, fm, fk⟩, vt, vn, vs, tn⟩]) (.returned (.tuple #[.agg #[uk, ub], errV (allA L B [⟨wh, nm, ⟨kn, ko, kf, .slice ao lo1 co, .slice af lf1 cf⟩, ⟨bn, bf, bt, mn, mx⟩, ⟨fn, ft, fm, fk⟩, vt, vn, vs, tn⟩]).1])) W4) := fun e w2 ha => by
    obtain ⟨uk, ub, M, he, hM, hK2, hT2, hB2⟩ := ha
    refine ⟨uk, ub, ?_, ?_, he, fun W3 hW3 => ?_⟩
    · obtain ⟨a, c, e⟩ := own_slice hK2.1; exact ⟨a, _, c, e⟩
    · obtain ⟨a, c, e⟩ := own_slice hT2; exact ⟨a, _, c, e⟩
    · have hB3 : Below w2.heap.size w2 W3 := by rw [hW3]; exact b_alloc (Below.refl _ _) _
      have hB13 := on1K hB1 (on1K hB2 hB3 (Nat.le_refl _)) (Nat.le_refl _)
      have x2 := (hB13.block _ (by omega)).trans n2
      have x3 : W3.heap[w2.heap.size]? = some (.cells #[uk, ub] 46 (0, 0)) := by rw [hW3]; exact heap_alloc_new w2 _
      refine ⟨x2, cell_at x3 rfl, cell_at x3 rfl, fun W4 hW4 => ?_⟩
      have t1 : W4.heap[w.heap.size + 2]? = some (.cells #[uk, ub] 46 (0, 0)) := by rw [hW4]; exact heap_setCell_same _ _ 1 _ 46 _ (heap_setCell_same W3 _ 0 _ 46 _ x2)
      have kk : ∀ t : TypeId, (46 : TypeId) ≠ t → Kt t w2 W4 := fun t ht => by rw [hW4]; exact ((Kt.of_below hB3).ty ⟨_, x2⟩ ht _ _).ty (Ty.set ⟨_, x2⟩ _ _ _) ht _ _
      have zk := hK2.kt (kk 32 (by decide)) (kk 9 (by decide)) (kk 28 (by decide))
      have z6 : w.heap.size ≤ W1.heap.size := hB01.size
      refine ⟨cell_at t1 rfl, cell_at t1 rfl, uk, ub, M, rfl, hM, ⟨own_base zk.1 z6, fun q hq => ⟨own_base (zk.2 q hq).1 z6, own_base (zk.2 q hq).2 z6⟩⟩, own_base (own_kt hT2 (kk 34 (by decide))) z6, ?_⟩
      rw [hW4]
      exact ((on1K hB0 hB13 (Nat.le_refl _)).setCell (by show _ ≤ w.heap.size + 2; omega) _).setCell (by show _ ≤ w.heap.size + 2; omega) _
  have d0 : W0.cell? ⟨w.heap.size, 0, none⟩ = some (.slice a1 L.length c1) := cell_at n0 rfl
  have d1 : W0.cell? ⟨w.heap.size, 1, none⟩ = some (.slice a2 B.length c2) := cell_at n0 rfl
  have HN := Lib.hid n1
  rw [hW1] at cA HF
  generalize allA L B [⟨wh, nm, ⟨kn, ko, kf, .slice ao lo1 co, .slice af lf1 cf⟩, ⟨bn, bf, bt, mn, mx⟩, ⟨fn, ft, fm, fk⟩, vt, vn, vs, tn⟩] = r at *
  clear hK hP hb hz hzb n0 n1 n2 hB0 hB1 m1 hB01 hc hcz hs0 hW1
  go_enter Tryz.func9, Tryz.ntmps9
  go_upto_region 1 with fail
  rw [← hW0]
  clear hW0
  go_wp2_with (first | (refine wpList_load_row rfl 38 (.tmp 3) rfl (w.heap.size + 1) rfl 38 _ (0, 0) _ HN.out Tryz.underlying38 rfl info37 ?_) | (go_at_call 18; refine cA.mono ?_; intro e w2 ha; obtain ⟨uk, ub, ⟨b1, b2, b3, rfl⟩, ⟨b4, b5, b6, rfl⟩, rfl, hf⟩ := HF.out e w2 ha; obtain ⟨y2, y0, y1, hg⟩ := hf _ rfl; obtain ⟨t0, t1, hd⟩ := hg _ rfl; have HD := Lib.hid hd; have HT : Hid (_ ∧ _) := ⟨t0, t1⟩; have f0 := cell_at (i := 0) y2 rfl; have f1 := cell_at (i := 1) y2 rfl; have f2 := frz_at (i := 0) y2; have f3 := frz_at (i := 1) y2; clear hf hg ha hd y2 t0 t1))
  obtain ⟨t0, t1⟩ := HT.out
  refine bodyPost_ret (v := .tuple #[.agg #[.slice b1 b2 b3, .slice b4 b5 b6], errV r.1]) ?_ rfl ?_
  · simp [results, Tryz.results9, go_sem, t0, t1]
  · exact HD.out
end Go.Proofs.YtpmblbhemcippaaGreatDoor

/-
  The walks of kind.Kin, Under and Is.
-/
namespace Go.Proofs.YtpmblbhemcippaaGreatDoor
open Go.RowKit
set_option linter.unusedVariables false
set_option linter.unusedSimpArgs false

theorem kinOf_ne {L : List Kd} {z : Kd} (h : L.getLast? = some z) : ¬ kinOf L = [] := by
  unfold kinOf
  rw [h]
  obtain ⟨A, rfl⟩ : ∃ A, L = A ++ [z] := ⟨L.dropLast, by
    have hne : L ≠ [] := fun e => by rw [e] at h; simp at h
    have e1 := List.dropLast_concat_getLast hne
    rw [List.getLast?_eq_some_getLast hne] at h
    rw [Option.some.inj h] at e1
    exact e1.symm⟩
  have h1 : hasN [z.nm] z.nm = true := by unfold hasN; simp
  simp [back, h1]
def nms (K : List Kd) : List Nm := K.map Kd.nm
def KPost (w : World) (L : List Kd) (a : Nm) (e : Ending) (w' : World) : Prop :=
  ∃ v, e = .returned (.tuple #[v, errV (nmErr L a)]) ∧ (nmErr L a = 0 → w'.ownsRow w.heap.size 9 1 v (nms (kin L a)).length (cellsS (nms (kin L a)))) ∧ (¬ nmErr L a = 0 → v = .slice none 0 0) ∧ Below w.heap.size w w'
def NR (w : World) (kk : List Kd) (v8 i : Value) (wr : World) : Prop :=
  ∃ k : Nat, k ≤ kk.length ∧ i = .int .i64 k ∧ wr.ownsRow w.heap.size 9 1 v8 (nms (kk.take k)).length (cellsS (nms (kk.take k))) ∧ Below w.heap.size w wr

set_option maxHeartbeats 4000000 in
set_option maxRecDepth 100000 in
theorem kin_any {v : Value} {L : List Kd} {w : World} (h : IsK w v L) (hP : Parts w L) (hz : SzK L) (a : Nm) : Calls Tryz.prog 126 #[v, .string (bs a)] w (KPost w L a) := by
  obtain ⟨i0, hi0, hz0, hz1, hz2⟩ := info_parts info9
  have c1 := find_anyC h hP hz a
  by_cases e1 : nmErr L a = 0
  · obtain ⟨hG, hn, j, q, hx, hat, hq, hqa⟩ := nmErr_zero e1
    have hjl := (List.getElem?_eq_some_iff.1 hq).1
    have hA : fAt L a = (j : Int) := by unfold fAt; rw [if_pos e1, hx]
    have hkin : kin L a = kinOf (L.take (j + 1)) := by unfold kin; rw [hat]
    rcases h with ⟨rfl, rfl⟩ | ⟨b, off, cap, rfl, hc, hm, hb, hl⟩
    · simp at hq
    · have HH : Hid (LiesK w b off L ∧ Parts w L ∧ Small L ∧ L.length ≤ 12 ∧ L[j]? = some q ∧ kin L a = kinOf (L.take (j + 1)) ∧ nmErr L a = 0) := ⟨hl, hP, hG.small, hn, hq, hkin, e1⟩
      rw [hA, e1, errV_0] at c1
      have hj12 : j < 12 := by omega
      have hj1 : (j : Int) + 1 ≤ (cap : Int) := by omega
      unfold maxLen at hm
      clear hz e1 hG hx hat hq hqa hA hkin hl hP
      go_enter Tryz.func126, Tryz.ntmps126
      go_wp2_with (go_at_call 80; refine c1.mono ?_; rintro e W1 ⟨rfl, hB1⟩; refine Hid.out ?_)
      refine Lib.hid ?_
      have c2 := kinTake (cap := cap) (Nat.lt_of_lt_of_le hb hB1.size) (HH.out.1.on hb hB1) (HH.out.2.1.on hB1) HH.out.2.2.1 HH.out.2.2.2.1 HH.out.2.2.2.2.1
      clear c1
      go_wp2_with (go_at_call 82; refine c2.mono ?_; rintro e W2 ⟨v2, rfl, hown2, hB2⟩; refine Hid.out ?_)
      refine Lib.hid ?_
      have hBw2 := on1KC hB1 hB2 (Nat.le_refl _)
      obtain ⟨f1, f2, f3⟩ := kin_facts (j + 1) W2 (HH.out.2.1.on hBw2) HH.out.2.2.1 HH.out.2.2.2.1
      have hne : ¬ kinOf (L.take (j + 1)) = [] := kinOf_ne (z := q) (by rw [takeK HH.out.2.2.2.2.1]; simp)
      have HKE : Hid (kin L a = kinOf (L.take (j + 1)) ∧ nmErr L a = 0) := HH.out.2.2.2.2.2
      have hK := own_isK hown2
      obtain ⟨kk, hkk⟩ : ∃ kk, kk = kinOf (L.take (j + 1)) := ⟨_, rfl⟩
      rw [← hkk] at f1 f2 f3 hne hK HKE
      clear c2 hown2 hkk HH
      rcases hK with ⟨_, h0⟩ | ⟨bk, ok, ck, rfl, hck, hckm, hbk, hlk⟩
      · exact absurd h0 hne
      · have HK : Hid (LiesK W2 bk ok kk ∧ Parts W2 kk) := ⟨hlk, f1⟩
        have HB2 : Hid (Below w.heap.size w W2) := hBw2
        clear hlk f1 f2 hne hB1 hB2 hBw2
        go_wp2
        go_loopw [8, 26] (fun v8 i wr => NR W2 kk v8 i wr) (fun _ i _ => kk.length - (intOf i).toNat)
        case atStart => exact ⟨0, Nat.zero_le _, rfl, World.ownsRow_nil _ _ _ _, Below.refl _ _⟩
        case round =>
          obtain ⟨k, hk, rfl, ho, hB⟩ := hrel
          by_cases hlt : k < kk.length
          · obtain ⟨p, hp⟩ : ∃ p, kk[k]? = some p := ⟨kk[k], by simp [hlt]⟩
            obtain ⟨c0, c1, c2⟩ := HK.out.1 k p hp
            have hpm : p ∈ kk := List.mem_of_getElem? hp
            obtain ⟨ao, no, co, evo⟩ := (HK.out.2 p hpm).1.sl
            obtain ⟨af, nf, cf, evf⟩ := (HK.out.2 p hpm).2.sl
            rw [evo] at c1
            rw [evf] at c2
            have d0 := (hB.cell (p := ⟨bk, ok + k * 3, none⟩) hbk).trans c0
            have d1 := (hB.cell (p := ⟨bk, ok + k * 3 + 1, none⟩) hbk).trans c1
            have d2 := (hB.cell (p := ⟨bk, ok + k * 3 + 2, none⟩) hbk).trans c2
            have HD : Hid (kk.take (k + 1) = kk.take k ++ [p]) := takeK hp
            have hbr : bk < wr.heap.size := Nat.lt_of_lt_of_le hbk hB.size
            have hln : (nms (kk.take k)).length = k := by unfold nms; rw [List.length_map, List.length_take_of_le hk]
            have HM : Hid ((nms (kk.take k)).length + 1 ≤ maxLen ∧ ((nms (kk.take k)).length + 1) * 16 ≤ 140737488355328) := by rw [hln]; unfold maxLen; exact ⟨by omega, by omega⟩
            have hB0 : Below W2.heap.size W2 ((wr.alloc (.cells #[.string (bs p.nm), .slice ao no co, .slice af nf cf] 32)).alloc (.cells #[.string (bs p.nm)] 9)) := b_allocKC (b_allocKC hB (Nat.le_refl _) _) (Nat.le_refl _) _
            have HO : Hid (((wr.alloc (.cells #[.string (bs p.nm), .slice ao no co, .slice af nf cf] 32)).alloc (.cells #[.string (bs p.nm)] 9)).ownsRow W2.heap.size 9 1 u8 (nms (kk.take k)).length (cellsS (nms (kk.take k))) ∧ Below W2.heap.size W2 ((wr.alloc (.cells #[.string (bs p.nm), .slice ao no co, .slice af nf cf] 32)).alloc (.cells #[.string (bs p.nm)] 9))) := ⟨(ho.alloc _).alloc _, hB0⟩
            clear c0 c1 c2 hpm hp ho hB hB0 hln evo evf
            go_wp2_with (at_builtin; refine wpList_append_own _ rfl (.tmp 30) (.tmp 33) 29 rfl W2.heap.size 9 i0 _ 1 16 Tryz.underlying29 hi0 hz0 hz1 hz2 rfl (by decide) u8 (nms (kk.take k)).length (cellsS (nms (kk.take k))) rfl HO.out.1 ⟨wr.heap.size + 1, 0, none⟩ 1 1 [.string (bs p.nm)] (by simp [Act.eval]) rfl (by have := new_atC (wr.alloc (.cells #[.string (bs p.nm), .slice ao no co, .slice af nf cf] 32)) [.string (bs p.nm)] 9; simpa using this) (by simp [Value.oneCell']) HM.out.1 HM.out.2 HO.out.2.size ?_; intro v1 w1 hown1 hgrow1 _; refine Hid.out ?_)
            refine Lib.hid ?_
            have R : NR W2 kk v1 (.int .i64 ((k + 1 : Nat) : Int)) w1 := by
              refine ⟨k + 1, by omega, rfl, ?_, HO.out.2.grown hgrow1 HO.out.2.size (fun k hk => (HO.out.1.lt k hk).1)⟩
              rw [HD.out]; unfold nms at *
              rw [List.map_append, List.length_append, cellsS_app]
              exact hown1
            have HRR : Hid (NR W2 kk v1 (.int .i64 ((k + 1 : Nat) : Int)) w1) := R
            clear R hown1
            go_wp2
            refine ⟨?_, ?_⟩
            · first | exact HRR.out | ((repeat apply Exists.intro); refine ⟨?_, rfl⟩; exact HRR.out)
            · simp [intOf]
              try omega
          · have hke : kk.take k = kk := List.take_of_length_le (by omega)
            rw [hke] at ho
            have HO : Hid (wr.ownsRow W2.heap.size 9 1 u8 (nms kk).length (cellsS (nms kk)) ∧ Below W2.heap.size W2 wr) := ⟨ho, hB⟩
            clear ho hB hke
            go_wp2
            go_ret2
            refine ⟨_, ret_v (by rw [HKE.out.2]; rfl), fun _ => ?_, fun h => absurd HKE.out.2 h, on1KC HB2.out HO.out.2 (Nat.le_refl _)⟩
            rw [HKE.out.1]
            exact own_baseC HO.out.1 HB2.out.size
  · have hA : fAt L a = 0 := by unfold fAt; rw [if_neg e1]
    have HE : Hid (¬ nmErr L a = 0) := e1
    rw [errV_ne e1, hA] at c1
    clear h hP hz e1 hA
    go_enter Tryz.func126, Tryz.ntmps126
    go_wp2_with (go_at_call 80; refine c1.mono ?_; rintro e W1 ⟨rfl, hB1⟩)
    go_ret2
    exact ⟨.slice none 0 0, ret_v (by rw [errV_ne HE.out]; rfl), fun h => absurd h HE.out, fun _ => rfl, hB1⟩
end Go.Proofs.YtpmblbhemcippaaGreatDoor

/-
  The walk of kind.Under.
-/
namespace Go.Proofs.YtpmblbhemcippaaGreatDoor
open Go.RowKit
set_option linter.unusedVariables false
set_option linter.unusedSimpArgs false
theorem unds_app (L : List Kd) (a : Nm) (x y : List Nat) : unds L a (x ++ y) = unds L a x ++ unds L a y := by
  induction x with
  | nil => rfl
  | cons i x ih =>
    simp only [List.cons_append, unds]
    cases L[i]? with
    | none => exact ih
    | some k =>
      simp only
      split
      · exact ih
      · rw [List.cons_append, ih]
theorem unds_len (L : List Kd) (a : Nm) (x : List Nat) : (unds L a x).length ≤ x.length := by
  induction x with
  | nil => simp [unds]
  | cons i x ih =>
    simp only [unds]
    cases L[i]? with
    | none => simp; omega
    | some k =>
      simp only
      split
      · simp; omega
      · simp; omega
def UPost (w : World) (L : List Kd) (a : Nm) (e : Ending) (w' : World) : Prop :=
  ∃ v, e = .returned (.tuple #[v, errV (nmErr L a)]) ∧ (nmErr L a = 0 → w'.ownsRow w.heap.size 9 1 v (under L a).length (cellsS (under L a))) ∧ (¬ nmErr L a = 0 → v = .slice none 0 0) ∧ Below w.heap.size w w'
def UR (w : World) (L : List Kd) (a : Nm) (v8 i : Value) (wr : World) : Prop :=
  ∃ k : Nat, k ≤ L.length ∧ i = .int .i64 k ∧ wr.ownsRow w.heap.size 9 1 v8 (unds L a (List.range k)).length (cellsS (unds L a (List.range k))) ∧ Below w.heap.size w wr

set_option maxHeartbeats 4000000 in
set_option maxRecDepth 100000 in
theorem under_any {v : Value} {L : List Kd} {w : World} (h : IsK w v L) (hP : Parts w L) (hz : SzK L) (a : Nm) : Calls Tryz.prog 51 #[v, .string (bs a)] w (UPost w L a) := by
  obtain ⟨i0, hi0, hz0, hz1, hz2⟩ := info_parts info9
  have c1 := find_anyC h hP hz a
  by_cases e1 : nmErr L a = 0
  · obtain ⟨hG, hn, j, q, hx, hat, hq, hqa⟩ := nmErr_zero e1
    have hA : fAt L a = (j : Int) := by unfold fAt; rw [if_pos e1, hx]
    rcases h with ⟨rfl, rfl⟩ | ⟨b, off, cap, rfl, hc, hm, hb, hl⟩
    · simp at hq
    · have HH : Hid (LiesK w b off L ∧ Parts w L ∧ Small L ∧ L.length ≤ 12 ∧ nmErr L a = 0) := ⟨hl, hP, hG.small, hn, e1⟩
      rw [hA, e1, errV_0] at c1
      unfold maxLen at hm
      clear hz e1 hG hx hat hq hqa hA hl hP
      go_enter Tryz.func51, Tryz.ntmps51
      go_wp2_with (go_at_call 80; refine c1.mono ?_; rintro e W1 ⟨rfl, hB1⟩; refine Hid.out ?_)
      refine Lib.hid ?_
      have HB1 : Hid (Below w.heap.size w W1) := hB1
      clear c1 hB1
      go_wp2
      go_loopw [8, 22] (fun v8 i wr => UR W1 L a v8 i wr) (fun _ i _ => L.length - (intOf i).toNat)
      case atStart => exact ⟨0, Nat.zero_le _, rfl, World.ownsRow_nil _ _ _ _, Below.refl _ _⟩
      case round =>
        obtain ⟨k, hk, rfl, ho, hB⟩ := hrel
        by_cases hlt : k < L.length
        · obtain ⟨p, hp⟩ : ∃ p, L[k]? = some p := ⟨L[k], by simp [hlt]⟩
          obtain ⟨hL, hP, hS, hn', _⟩ := HH.out
          obtain ⟨c0, c1, c2⟩ := hL k p hp
          have hpm : p ∈ L := List.mem_of_getElem? hp
          obtain ⟨ao, no, co, evo⟩ := (hP p hpm).1.sl
          obtain ⟨af, nf, cf, evf⟩ := (hP p hpm).2.sl
          rw [evo] at c1
          rw [evf] at c2
          have hBw := on1K HB1.out hB (Nat.le_refl _)
          have d0 := (hBw.cell (p := ⟨b, off + k * 3, none⟩) hb).trans c0
          have d1 := (hBw.cell (p := ⟨b, off + k * 3 + 1, none⟩) hb).trans c1
          have d2 := (hBw.cell (p := ⟨b, off + k * 3 + 2, none⟩) hb).trans c2
          have hbr : b < wr.heap.size := Nat.lt_of_lt_of_le hb hBw.size
          have hB0 : Below w.heap.size w (wr.alloc (.cells #[.string (bs p.nm), .slice ao no co, .slice af nf cf] 32)) := b_allocK hBw (Nat.le_refl _) _
          have ck := kinTake (cap := cap) (Nat.lt_of_lt_of_le hb hB0.size) (hL.on hb hB0) (hP.on hB0) hS hn' hp
          have hk1 : (k : Int) + 1 ≤ (cap : Int) := by omega
          have HO : Hid (wr.ownsRow W1.heap.size 9 1 u8 (unds L a (List.range k)).length (cellsS (unds L a (List.range k))) ∧ Below W1.heap.size W1 wr ∧ L[k]? = some p ∧ Below w.heap.size w (wr.alloc (.cells #[.string (bs p.nm), .slice ao no co, .slice af nf cf] 32))) := ⟨ho, hB, hp, hB0⟩
          clear c0 c1 c2 hpm hp ho hB hB0 evo evf hL hP hS hn' hBw
          go_wp2_with (go_at_call 82; refine ck.mono ?_; rintro e W2 ⟨v2, rfl, hown2, hB2⟩; refine Hid.out ?_)
          refine Lib.hid ?_
          have hBw2 := on1K HO.out.2.2.2 hB2 (Nat.le_refl _)
          have g0 := hB2.cell (p := ⟨wr.heap.size, 0, none⟩) (by simp)
          simp at g0
          have hs2 : wr.heap.size < W2.heap.size := Nat.lt_of_lt_of_le (by simp) hB2.size
          obtain ⟨f1, f2, f3⟩ := kin_facts (k + 1) W2 (HH.out.2.1.on hBw2) HH.out.2.2.1 HH.out.2.2.2.1
          have cx := index_anyC (own_isK hown2) f3 a
          clear ck f1 f2 f3 hown2
          rcases idxK_spec a (kinOf (L.take (k + 1))) 0 with hx | ⟨m, q2, hx, hq2, _⟩
          · rw [hx] at cx
            have HU : Hid (unds L a (List.range (k + 1)) = unds L a (List.range k)) := by
              show _ = _
              rw [List.range_succ, unds_app]
              simp [unds, HO.out.2.2.1, hx]
            clear hx
            go_wp2_with (go_at_call 81; refine cx.mono ?_; rintro e W3 ⟨rfl, hB3⟩; refine Hid.out ?_)
            refine Lib.hid ?_
            have hBB : Below W1.heap.size W1 W3 := on1K (on1K (b_allocK HO.out.2.1 (Nat.le_refl _) _) hB2 (Nat.le_refl _)) hB3 (Nat.le_refl _)
            have R : UR W1 L a u8 (.int .i64 ((k + 1 : Nat) : Int)) W3 := by
              refine ⟨k + 1, by omega, rfl, ?_, hBB⟩
              rw [HU.out]
              exact own_below (own_below (HO.out.1.alloc _) hB2) hB3
            have HRR : Hid (UR W1 L a u8 (.int .i64 ((k + 1 : Nat) : Int)) W3) := R
            clear R cx
            go_wp2
            refine ⟨?_, ?_⟩
            · first | exact HRR.out | ((repeat apply Exists.intro); refine ⟨?_, rfl⟩; exact HRR.out)
            · simp [intOf]
              try omega
          · have hne : ¬ idxK a (kinOf (L.take (k + 1))) 0 = -1 := by omega
            rw [hx] at cx
            simp only [Nat.zero_add] at cx
            have HU : Hid (unds L a (List.range (k + 1)) = unds L a (List.range k) ++ [p.nm]) := by
              show _ = _
              rw [List.range_succ, unds_app]
              simp [unds, HO.out.2.2.1, hne]
            have hm12 : m < 100 := by
              have h1 := (List.getElem?_eq_some_iff.1 hq2).1
              have h2 := (kinOf_sub (L.take (k + 1))).2
              have h3 := HH.out.2.2.2.1
              simp at h2
              omega
            have HM : Hid ((unds L a (List.range k)).length + 1 ≤ maxLen ∧ ((unds L a (List.range k)).length + 1) * 16 ≤ 140737488355328) := by
              have := unds_len L a (List.range k)
              have h3 := HH.out.2.2.2.1
              simp at this
              unfold maxLen; exact ⟨by omega, by omega⟩
            clear hx hne hq2
            go_wp2_with (go_at_call 81; refine cx.mono ?_; rintro e W3 ⟨rfl, hB3⟩; refine Hid.out ?_)
            refine Lib.hid ?_
            have k0 := (hB3.cell (p := ⟨wr.heap.size, 0, none⟩) hs2).trans g0
            have hBB : Below W1.heap.size W1 (W3.alloc (.cells #[.string (bs p.nm)] 9)) := b_allocK (on1K (on1K (b_allocK HO.out.2.1 (Nat.le_refl _) _) hB2 (Nat.le_refl _)) hB3 (Nat.le_refl _)) (Nat.le_refl _) _
            have HO3 : Hid ((W3.alloc (.cells #[.string (bs p.nm)] 9)).ownsRow W1.heap.size 9 1 u8 (unds L a (List.range k)).length (cellsS (unds L a (List.range k))) ∧ Below W1.heap.size W1 (W3.alloc (.cells #[.string (bs p.nm)] 9))) := ⟨(own_below (own_below (HO.out.1.alloc _) hB2) hB3).alloc _, hBB⟩
            clear cx g0 hBB
            go_wp2_with (at_builtin; refine wpList_append_own _ rfl (.tmp 35) (.tmp 38) 29 rfl W1.heap.size 9 i0 _ 1 16 Tryz.underlying29 hi0 hz0 hz1 hz2 rfl (by decide) u8 (unds L a (List.range k)).length (cellsS (unds L a (List.range k))) rfl HO3.out.1 ⟨W3.heap.size, 0, none⟩ 1 1 [.string (bs p.nm)] rfl rfl (new_at _ _ _) (by simp [Value.oneCell']) HM.out.1 HM.out.2 HO3.out.2.size ?_; intro v1 w1 hown1 hgrow1 _; refine Hid.out ?_)
            refine Lib.hid ?_
            have R : UR W1 L a v1 (.int .i64 ((k + 1 : Nat) : Int)) w1 := by
              refine ⟨k + 1, by omega, rfl, ?_, HO3.out.2.grown hgrow1 HO3.out.2.size (fun k hk => (HO3.out.1.lt k hk).1)⟩
              rw [HU.out, List.length_append, cellsS_app]
              exact hown1
            have HRR : Hid (UR W1 L a v1 (.int .i64 ((k + 1 : Nat) : Int)) w1) := R
            clear R hown1
            go_wp2
            refine ⟨?_, ?_⟩
            · first | exact HRR.out | ((repeat apply Exists.intro); refine ⟨?_, rfl⟩; exact HRR.out)
            · simp [intOf]
              try omega
        · have hke : k = L.length := by omega
          have HO : Hid (wr.ownsRow W1.heap.size 9 1 u8 (under L a).length (cellsS (under L a)) ∧ Below W1.heap.size W1 wr) := by
            subst hke; exact ⟨ho, hB⟩
          clear ho hB hke
          go_wp2
          go_ret2
          exact ⟨_, ret_v (by rw [HH.out.2.2.2.2]; rfl), fun _ => own_base HO.out.1 HB1.out.size, fun h => absurd HH.out.2.2.2.2 h, on1K HB1.out HO.out.2 (Nat.le_refl _)⟩
  · have hA : fAt L a = 0 := by unfold fAt; rw [if_neg e1]
    have HE : Hid (¬ nmErr L a = 0) := e1
    rw [errV_ne e1, hA] at c1
    clear h hP hz e1 hA
    go_enter Tryz.func51, Tryz.ntmps51
    go_wp2_with (go_at_call 80; refine c1.mono ?_; rintro e W1 ⟨rfl, hB1⟩)
    go_ret2
    exact ⟨.slice none 0 0, ret_v (by rw [errV_ne HE.out]; rfl), fun h => absurd h HE.out, fun _ => rfl, hB1⟩

end Go.Proofs.YtpmblbhemcippaaGreatDoor

/-
  A change and what takes it back, in plain functions.
-/
namespace Go.Proofs.YtpmblbhemcippaaGreatDoor
set_option linter.unusedVariables false
set_option linter.unusedSimpArgs false

def kd0 : Kd := ⟨[], [], [], .slice none 0 0, .slice none 0 0⟩
def bd0 : Bd := ⟨[], [], [], 0, 0⟩
theorem allA_one (L : List Kd) (B : List Bd) (c : Ch) : allA L B [c] = if (sErr L B).2 = 0 then (if apE L B c = 0 then (0, 0, cK L c, cB B c) else (apE L B c, 0, [], [])) else ((sErr L B).2, 0, [], []) := by
  unfold allA
  rw [if_neg (by simp)]
  rfl
theorem one_yes {L : List Kd} {B : List Bd} {c : Ch} (h : (allA L B [c]).1 = 0) : (sErr L B).2 = 0 ∧ apE L B c = 0 ∧ allA L B [c] = (0, 0, cK L c, cB B c) := by
  rw [allA_one] at h ⊢
  by_cases h1 : (sErr L B).2 = 0
  · rw [if_pos h1] at h ⊢
    by_cases h2 : apE L B c = 0
    · rw [if_pos h2]; exact ⟨h1, h2, rfl⟩
    · rw [if_neg h2] at h; exact absurd h h2
  · rw [if_neg h1] at h; exact absurd h h1
/-! Kinds of which one has other fields: the names are the same. -/
/-! Fields with one more. -/
theorem lo_pre (n : Nm) : ∀ (l : List Fd), ∀ x ∈ l.take (lo n l), Op.bytesLess x.nm n = true
  | [], x, hx => by cases hx
  | g :: r, x, hx => by
    unfold lo at hx
    split at hx
    · rename_i h
      rw [List.take_succ_cons] at hx
      rcases List.mem_cons.1 hx with rfl | hx
      · exact h
      · exact lo_pre n r x hx
    · cases hx
theorem lo_app (n : Nm) : ∀ (a : List Fd) (f : Fd) (b : List Fd), (∀ x ∈ a, Op.bytesLess x.nm n = true) → Op.bytesLess f.nm n = false → lo n (a ++ f :: b) = a.length
  | [], f, b, _, hf => by
    show lo n (f :: b) = 0
    unfold lo
    rw [if_neg (by rw [hf]; decide)]
  | x :: r, f, b, h, hf => by
    show lo n (x :: (r ++ f :: b)) = _
    unfold lo
    rw [if_pos (h x (by simp)), lo_app n r f b (fun y hy => h y (by simp [hy])) hf]
    rfl
theorem lo_insA (l : List Fd) (f : Fd) : lo f.nm (insA l f) = lo f.nm l := by
  unfold insA
  rw [lo_app f.nm _ f _ (lo_pre f.nm l) (less_irr _), List.length_take_of_le (lo_le _ _)]
theorem insA_get (l : List Fd) (f : Fd) : (insA l f)[lo f.nm l]? = some f := by
  unfold insA
  rw [List.getElem?_append_right (by rw [List.length_take_of_le (lo_le _ _)]; exact Nat.le_refl _), List.length_take_of_le (lo_le _ _)]
  simp
theorem insA_fnd (l : List Fd) (f : Fd) : fnd f.nm (insA l f) = true := by
  unfold fnd
  rw [lo_insA, insA_get]
  simp
/-! Another name, and the old one again. -/
theorem fnd_iff {n : Nm} {l : List Fd} (hs : Srt l) : fnd n l = true ↔ ∃ x ∈ l, x.nm = n := by
  unfold fnd
  constructor
  · intro h
    split at h
    · rename_i g hg; exact ⟨g, List.mem_of_getElem? hg, by simpa using h⟩
    · cases h
  · rintro ⟨x, hx, rfl⟩
    obtain ⟨i, hi⟩ := List.getElem?_of_mem hx
    have h1 : ¬ i < lo x.nm l := fun h => by
      have := (lo_spec x.nm hs i x hi).1 h
      rw [less_irr] at this
      cases this
    have h2 : ¬ lo x.nm l < i := fun h => by
      have hil := (List.getElem?_eq_some_iff.1 hi).1
      obtain ⟨y, hy⟩ : ∃ y, l[lo x.nm l]? = some y := ⟨l[lo x.nm l], by simp [show lo x.nm l < l.length by omega]⟩
      obtain ⟨hyl, ey⟩ := List.getElem?_eq_some_iff.1 hy
      obtain ⟨_, ex⟩ := List.getElem?_eq_some_iff.1 hi
      have hl := List.pairwise_iff_getElem.1 hs _ _ hyl hil h
      rw [ey, ex] at hl
      have := (lo_spec x.nm hs _ y hy).2 hl
      omega
    have e : lo x.nm l = i := by omega
    rw [e, hi]
    simp
end Go.Proofs.YtpmblbhemcippaaGreatDoor
