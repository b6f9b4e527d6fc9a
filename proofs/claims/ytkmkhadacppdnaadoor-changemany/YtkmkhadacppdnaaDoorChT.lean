/-
  The walk of change.Do.
-/
import Derived.Test.YtkmkhadacppdnaaDoorChS
namespace Go.Proofs.YtkmkhadacppdnaaDoor
open Go.RowKit
set_option linter.unusedVariables false
set_option linter.unusedSimpArgs false

theorem all_any {w : World} {vk vb vl : Value} {L : List Kd} {B : List Bd} {l : List Ch} (hK : IsK w vk L) (hP : Parts w L) (hz : SzK L) (hb : IsB w vb B) (hzb : SzB B) (hl : IsC w vl l) (hlz : ∀ c ∈ l, ChSz c) :
    Calls Tryd.prog 7 #[.agg #[vk, vb], vl] w (AllP w (allA L B l)) := by
  unfold allA
  by_cases h40 : 40 < l.length
  · rw [if_pos h40]
    exact all_many hK hb hl h40
  · rw [if_neg h40]
    by_cases hs : (sErr L B).2 = 0
    · rw [if_pos hs]
      exact all_ok hK hP hz hb hzb hl hlz h40 hs
    · rw [if_neg hs]
      exact all_bad hK hP hz hb hzb hl h40 hs
/-- What Do leaves. -/
def DoP (w : World) (r : Int × Nat × List Kd × List Bd) (e : Ending) (w' : World) : Prop :=
  ∃ uk ub M, e = .returned (.tuple #[.agg #[uk, ub], errV r.1]) ∧ M.map kq3 = r.2.2.1.map kq3 ∧ OwnKs w' w.heap.size uk M ∧ OwnBs w' w.heap.size ub r.2.2.2 ∧ Below w.heap.size w w'
set_option maxHeartbeats 8000000 in
set_option maxRecDepth 100000 in
theorem do_any {w : World} {vk vb : Value} {L : List Kd} {B : List Bd} (c : Ch) (hK : IsK w vk L) (hP : Parts w L) (hz : SzK L) (hb : IsB w vb B) (hzb : SzB B) (hc : ChIs w c) (hcz : ChSz c) :
    Calls Tryd.prog 4 #[.agg #[vk, vb], c.one] w (DoP w (allA L B [c])) := by
  obtain ⟨a1, c1, rfl, _⟩ := hK.sln
  obtain ⟨a2, c2, rfl, _⟩ := hb.sln
  obtain ⟨wh, nm, ⟨kn, ko, kf, vo, vf⟩, ⟨bn, bf, bt, mn, mx⟩, ⟨fn, ft, fm, fk⟩, vt, vn, vs, tn⟩ := c
  obtain ⟨ao, lo1, co, q1⟩ := hc.1.sl
  obtain ⟨af, lf1, cf, q2⟩ := hc.2.sl
  simp only at q1 q2
  subst q1 q2
  obtain ⟨W0, hW0⟩ : ∃ W0, W0 = ((w.alloc (.cells #[.slice a1 L.length c1, .slice a2 B.length c2] 25)).alloc (.cells #[.int .i64 wh, .string (bs nm), .string (bs kn), .slice ao lo1 co, .slice af lf1 cf, .string (bs bn), .string (bs bf), .string (bs bt), .int .i64 mn, .int .i64 mx, .string (bs fn), .int .i64 ft, .bool fm, .bool fk, .int .i64 vt, .int .i64 vn, .string (bs vs), .string (bs tn)] 42)).alloc (.cells #[.slice none 0 0, .slice none 0 0] 25) := ⟨_, rfl⟩
  have hB0 : Below w.heap.size w W0 := by rw [hW0]; exact b_alloc (b_alloc (b_alloc (Below.refl _ _) _) _) _
  have hs0 : W0.heap.size = w.heap.size + 3 := by rw [hW0]; simp
  have n0 : W0.heap[w.heap.size]? = some (.cells #[.slice a1 L.length c1, .slice a2 B.length c2] 25 (0, 0)) := by rw [hW0]; exact (heap_alloc_old _ _ (by simp; omega)).trans ((heap_alloc_old _ _ (by simp)).trans (heap_alloc_new w _))
  have n1 : W0.heap[w.heap.size + 1]? = some (.cells #[.int .i64 wh, .string (bs nm), .string (bs kn), .slice ao lo1 co, .slice af lf1 cf, .string (bs bn), .string (bs bf), .string (bs bt), .int .i64 mn, .int .i64 mx, .string (bs fn), .int .i64 ft, .bool fm, .bool fk, .int .i64 vt, .int .i64 vn, .string (bs vs), .string (bs tn)] 42 (0, 0)) := by
    have := heap_alloc_new (w.alloc (.cells #[.slice a1 L.length c1, .slice a2 B.length c2] 25)) (.cells #[.int .i64 wh, .string (bs nm), .string (bs kn), .slice ao lo1 co, .slice af lf1 cf, .string (bs bn), .string (bs bf), .string (bs bt), .int .i64 mn, .int .i64 mx, .string (bs fn), .int .i64 ft, .bool fm, .bool fk, .int .i64 vt, .int .i64 vn, .string (bs vs), .string (bs tn)] 42)
    rw [World.size_alloc] at this; rw [hW0]; exact (heap_alloc_old _ _ (by simp)).trans this
  have n2 : W0.heap[w.heap.size + 2]? = some (.cells #[.slice none 0 0, .slice none 0 0] 25 (0, 0)) := by
    have := heap_alloc_new ((w.alloc (.cells #[.slice a1 L.length c1, .slice a2 B.length c2] 25)).alloc (.cells #[.int .i64 wh, .string (bs nm), .string (bs kn), .slice ao lo1 co, .slice af lf1 cf, .string (bs bn), .string (bs bf), .string (bs bt), .int .i64 mn, .int .i64 mx, .string (bs fn), .int .i64 ft, .bool fm, .bool fk, .int .i64 vt, .int .i64 vn, .string (bs vs), .string (bs tn)] 42)) (.cells #[.slice none 0 0, .slice none 0 0] 25)
    rw [World.size_alloc, World.size_alloc] at this; rw [hW0]; exact this
  obtain ⟨W1, hW1⟩ : ∃ W1, W1 = W0.alloc (.cells #[.int .i64 wh, .string (bs nm), .string (bs kn), .slice ao lo1 co, .slice af lf1 cf, .string (bs bn), .string (bs bf), .string (bs bt), .int .i64 mn, .int .i64 mx, .string (bs fn), .int .i64 ft, .bool fm, .bool fk, .int .i64 vt, .int .i64 vn, .string (bs vs), .string (bs tn)] 42) := ⟨_, rfl⟩
  have hB1 : Below W0.heap.size W0 W1 := by rw [hW1]; exact b_alloc (Below.refl _ _) _
  have m1 : W1.heap[W0.heap.size]? = some (.cells #[.int .i64 wh, .string (bs nm), .string (bs kn), .slice ao lo1 co, .slice af lf1 cf, .string (bs bn), .string (bs bf), .string (bs bt), .int .i64 mn, .int .i64 mx, .string (bs fn), .int .i64 ft, .bool fm, .bool fk, .int .i64 vt, .int .i64 vn, .string (bs vs), .string (bs tn)] 42 (0, 0)) := by rw [hW1]; exact heap_alloc_new W0 _
  have hB01 := on1K hB0 hB1 (Nat.le_refl _)
  have cA := all_any (hK.on hB01) (hP.on hB01) hz (hb.on hB01) hzb (vl := .slice (some ⟨W0.heap.size, 0, none⟩) 1 1) (l := [⟨wh, nm, ⟨kn, ko, kf, .slice ao lo1 co, .slice af lf1 cf⟩, ⟨bn, bf, bt, mn, mx⟩, ⟨fn, ft, fm, fk⟩, vt, vn, vs, tn⟩]) ⟨_, 1, rfl, by simp [maxLen], .inr ⟨W0.heap.size, 0, rfl, (Array.getElem?_eq_some_iff.1 m1).1, fun k c hk => by
    obtain ⟨hk0, e⟩ := List.getElem?_eq_some_iff.1 hk
    have hk1 : k = 0 := by simp only [List.length_singleton] at hk0; omega
    subst hk1
    simp only [List.getElem_cons_zero] at e
    subst e
    exact ⟨fun j v hv => cell_at m1 (by simpa [Ch.cells] using hv), hc.on hB01⟩⟩⟩ (fun c hm => by
    have e : c = ⟨wh, nm, ⟨kn, ko, kf, .slice ao lo1 co, .slice af lf1 cf⟩, ⟨bn, bf, bt, mn, mx⟩, ⟨fn, ft, fm, fk⟩, vt, vn, vs, tn⟩ := by simpa using hm
    subst e
    exact hcz)
  have HF : Hid (∀ e w2, AllP W1 (allA L B [⟨wh, nm, ⟨kn, ko, kf, .slice ao lo1 co, .slice af lf1 cf⟩, ⟨bn, bf, bt, mn, mx⟩, ⟨fn, ft, fm, fk⟩, vt, vn, vs, tn⟩]) e w2 → ∃ uk ub, (∃ a l c, uk = .slice a l c) ∧ (∃ a l c, ub = .slice a l c) ∧ e = .returned (.tuple #[.agg #[uk, ub], .int .i64 (allA L B [⟨wh, nm, ⟨kn, ko, kf, .slice ao lo1 co, .slice af lf1 cf⟩, ⟨bn, bf, bt, mn, mx⟩, ⟨fn, ft, fm, fk⟩, vt, vn, vs, tn⟩]).2.1, errV (allA L B [⟨wh, nm, ⟨kn, ko, kf, .slice ao lo1 co, .slice af lf1 cf⟩, ⟨bn, bf, bt, mn, mx⟩, ⟨fn, ft, fm, fk⟩, vt, vn, vs, tn⟩]).1]) ∧ ∀ (W3 : World), W3 = w2.alloc (.cells #[uk, ub] 25) → W3.heap[w.heap.size + 2]? = some (.cells #[.slice none 0 0, .slice none 0 0] 25 (0, 0)) ∧ W3.cell? ⟨w2.heap.size, 0, none⟩ = some uk ∧ W3.cell? ⟨w2.heap.size, 1, none⟩ = some ub ∧ ∀ W4, W4 = (W3.setCell ⟨w.heap.size + 2, 0, none⟩ uk).setCell ⟨w.heap.size + 2, 1, none⟩ ub → W4.cell? ⟨w.heap.size + 2, 0, none⟩ = some uk ∧ W4.cell? ⟨w.heap.size + 2, 1, none⟩ = some ub ∧ DoP w (allA L B [⟨wh, nm, ⟨kn, ko, kf, .slice ao lo1 co, .slice af lf1 cf⟩, ⟨bn, bf, bt, mn, mx⟩, ⟨fn, ft, fm, fk⟩, vt, vn, vs, tn⟩]) (.returned (.tuple #[.agg #[uk, ub], errV (allA L B [⟨wh, nm, ⟨kn, ko, kf, .slice ao lo1 co, .slice af lf1 cf⟩, ⟨bn, bf, bt, mn, mx⟩, ⟨fn, ft, fm, fk⟩, vt, vn, vs, tn⟩]).1])) W4) := fun e w2 ha => by
    obtain ⟨uk, ub, M, he, hM, hK2, hT2, hB2⟩ := ha
    refine ⟨uk, ub, ?_, ?_, he, fun W3 hW3 => ?_⟩
    · obtain ⟨a, c, e⟩ := own_slice hK2.1; exact ⟨a, _, c, e⟩
    · obtain ⟨a, c, e⟩ := own_slice hT2; exact ⟨a, _, c, e⟩
    · have hB3 : Below w2.heap.size w2 W3 := by rw [hW3]; exact b_alloc (Below.refl _ _) _
      have hB13 := on1K hB1 (on1K hB2 hB3 (Nat.le_refl _)) (Nat.le_refl _)
      have x2 := (hB13.block _ (by omega)).trans n2
      have x3 : W3.heap[w2.heap.size]? = some (.cells #[uk, ub] 25 (0, 0)) := by rw [hW3]; exact heap_alloc_new w2 _
      refine ⟨x2, cell_at x3 rfl, cell_at x3 rfl, fun W4 hW4 => ?_⟩
      have t1 : W4.heap[w.heap.size + 2]? = some (.cells #[uk, ub] 25 (0, 0)) := by rw [hW4]; exact heap_setCell_same _ _ 1 _ 25 _ (heap_setCell_same W3 _ 0 _ 25 _ x2)
      have kk : ∀ t : TypeId, (25 : TypeId) ≠ t → Kt t w2 W4 := fun t ht => by rw [hW4]; exact ((Kt.of_below hB3).ty ⟨_, x2⟩ ht _ _).ty (Ty.set ⟨_, x2⟩ _ _ _) ht _ _
      have zk := hK2.kt (kk 34 (by decide)) (kk 9 (by decide)) (kk 38 (by decide))
      have z6 : w.heap.size ≤ W1.heap.size := hB01.size
      refine ⟨cell_at t1 rfl, cell_at t1 rfl, uk, ub, M, rfl, hM, ⟨own_base zk.1 z6, fun q hq => ⟨own_base (zk.2 q hq).1 z6, own_base (zk.2 q hq).2 z6⟩⟩, own_base (own_kt hT2 (kk 36 (by decide))) z6, ?_⟩
      rw [hW4]
      exact ((on1K hB0 hB13 (Nat.le_refl _)).setCell (by show _ ≤ w.heap.size + 2; omega) _).setCell (by show _ ≤ w.heap.size + 2; omega) _
  have d0 : W0.cell? ⟨w.heap.size, 0, none⟩ = some (.slice a1 L.length c1) := cell_at n0 rfl
  have d1 : W0.cell? ⟨w.heap.size, 1, none⟩ = some (.slice a2 B.length c2) := cell_at n0 rfl
  have HN := Lib.hid n1
  rw [hW1] at cA HF
  generalize allA L B [⟨wh, nm, ⟨kn, ko, kf, .slice ao lo1 co, .slice af lf1 cf⟩, ⟨bn, bf, bt, mn, mx⟩, ⟨fn, ft, fm, fk⟩, vt, vn, vs, tn⟩] = r at *
  clear hK hP hb hz hzb n0 n1 n2 hB0 hB1 m1 hB01 hc hcz hs0 hW1
  go_enter Tryd.func4, Tryd.ntmps4
  go_upto_region 1 with fail
  rw [← hW0]
  clear hW0
  go_wp2_with (first | (refine wpList_load_row rfl 42 (.tmp 3) rfl (w.heap.size + 1) rfl 42 _ (0, 0) _ HN.out Tryd.underlying42 rfl info37 ?_) | (go_at_call 7; refine cA.mono ?_; intro e w2 ha; obtain ⟨uk, ub, ⟨b1, b2, b3, rfl⟩, ⟨b4, b5, b6, rfl⟩, rfl, hf⟩ := HF.out e w2 ha; obtain ⟨y2, y0, y1, hg⟩ := hf _ rfl; obtain ⟨t0, t1, hd⟩ := hg _ rfl; have HD := Lib.hid hd; have HT : Hid (_ ∧ _) := ⟨t0, t1⟩; have f0 := cell_at (i := 0) y2 rfl; have f1 := cell_at (i := 1) y2 rfl; have f2 := frz_at (i := 0) y2; have f3 := frz_at (i := 1) y2; clear hf hg ha hd y2 t0 t1))
  obtain ⟨t0, t1⟩ := HT.out
  refine bodyPost_ret (v := .tuple #[.agg #[.slice b1 b2 b3, .slice b4 b5 b6], errV r.1]) ?_ rfl ?_
  · simp [results, Tryd.results4, go_sem, t0, t1]
  · exact HD.out
end Go.Proofs.YtkmkhadacppdnaaDoor
