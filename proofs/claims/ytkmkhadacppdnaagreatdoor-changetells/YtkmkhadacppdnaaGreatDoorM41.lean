/-
  The walk of change.Do.
-/
import Derived.Test.YtkmkhadacppdnaaGreatDoorM40
namespace Go.Proofs.YtkmkhadacppdnaaGreatDoor
open Go.RowKit
set_option linter.unusedVariables false
set_option linter.unusedSimpArgs false

theorem all_any {w : World} {vk vb vl : Value} {L : List Kd} {B : List Bd} {l : List Ch} (hK : IsK w vk L) (hP : Parts w L) (hz : SzK L) (hb : IsB w vb B) (hzb : SzB B) (hl : IsC w vl l) (hlz : ∀ c ∈ l, ChSz c) :
    Calls Tryz.prog 12 #[.agg #[vk, vb], vl] w (AllP w (allA L B l)) := by
  unfold allA
  by_cases h40 : 40 < l.length
  · rw [if_pos h40]
    exact all_many hK hb hl h40
  · rw [if_neg h40]
    by_cases hs : (sErr L B).2 = 0
    · rw [if_pos hs]
      exact all_ok hK hP hz hb hzb hl hlz h40 hs
    · rw [if_neg hs]
      exact all_bad hK hP hz hb hzb hl h40 hs
/-- What Do leaves. -/
def DoP (w : World) (r : Int × Nat × List Kd × List Bd) (e : Ending) (w' : World) : Prop :=
  ∃ uk ub M, e = .returned (.tuple #[.agg #[uk, ub], errV r.1]) ∧ M.map kq3 = r.2.2.1.map kq3 ∧ OwnKs w' w.heap.size uk M ∧ OwnBs w' w.heap.size ub r.2.2.2 ∧ Below w.heap.size w w'
set_option maxHeartbeats 8000000 in
set_option maxRecDepth 100000 in
theorem do_any {w : World} {vk vb : Value} {L : List Kd} {B : List Bd} (c : Ch) (hK : IsK w vk L) (hP : Parts w L) (hz : SzK L) (hb : IsB w vb B) (hzb : SzB B) (hc : ChIs w c) (hcz : ChSz c) :
    Calls Tryz.prog 6 #[.agg #[vk, vb], c.one] w (DoP w (allA L B [c])) := by
  obtain ⟨a1, c1, rfl, _⟩ := hK.sln
  obtain ⟨a2, c2, rfl, _⟩ := hb.sln
  obtain ⟨wh, nm, ⟨kn, ko, kf, vo, vf⟩, ⟨bn, bf, bt, mn, mx⟩, ⟨fn, ft, fm, fk⟩, vt, vn, vs, tn⟩ := c
  obtain ⟨ao, lo1, co, q1⟩ := hc.1.sl
  obtain ⟨af, lf1, cf, q2⟩ := hc.2.sl
  simp only at q1 q2
  subst q1 q2
  obtain ⟨W0, hW0⟩ : ∃ W0, W0 = ((w.alloc (.cells #[.slice a1 L.length c1, .slice a2 B.length c2] 25)).alloc (.cells #[.int .i64 wh, .string (bs nm), .string (bs kn), .slice ao lo1 co, .slice af lf1 cf, .string (bs bn), .string (bs bf), .string (bs bt), .int .i64 mn, .int .i64 mx, .string (bs fn), .int .i64 ft, .bool fm, .bool fk, .int .i64 vt, .int .i64 vn, .string (bs vs), .string (bs tn)] 37)).alloc (.cells #[.slice none 0 0, .slice none 0 0] 25) := ⟨_, rfl⟩
  have hB0 : Below w.heap.size w W0 := by rw [hW0]; exact b_alloc (b_alloc (b_alloc (Below.refl _ _) _) _) _
  have hs0 : W0.heap.size = w.heap.size + 3 := by rw [hW0]; simp
  have n0 : W0.heap[w.heap.size]? = some (.cells #[.slice a1 L.length c1, .slice a2 B.length c2] 25 (0, 0)) := by rw [hW0]; exact (heap_alloc_old _ _ (by simp; omega)).trans ((heap_alloc_old _ _ (by simp)).trans (heap_alloc_new w _))
  have n1 : W0.heap[w.heap.size + 1]? = some (.cells #[.int .i64 wh, .string (bs nm), .string (bs kn), .slice ao lo1 co, .slice af lf1 cf, .string (bs bn), .string (bs bf), .string (bs bt), .int .i64 mn, .int .i64 mx, .string (bs fn), .int .i64 ft, .bool fm, .bool fk, .int .i64 vt, .int .i64 vn, .string (bs vs), .string (bs tn)] 37 (0, 0)) := by
    have := heap_alloc_new (w.alloc (.cells #[.slice a1 L.length c1, .slice a2 B.length c2] 25)) (.cells #[.int .i64 wh, .string (bs nm), .string (bs kn), .slice ao lo1 co, .slice af lf1 cf, .string (bs bn), .string (bs bf), .string (bs bt), .int .i64 mn, .int .i64 mx, .string (bs fn), .int .i64 ft, .bool fm, .bool fk, .int .i64 vt, .int .i64 vn, .string (bs vs), .string (bs tn)] 37)
    rw [World.size_alloc] at this; rw [hW0]; exact (heap_alloc_old _ _ (by simp)).trans this
  have n2 : W0.heap[w.heap.size + 2]? = some (.cells #[.slice none 0 0, .slice none 0 0] 25 (0, 0)) := by
    have := heap_alloc_new ((w.alloc (.cells #[.slice a1 L.length c1, .slice a2 B.length c2] 25)).alloc (.cells #[.int .i64 wh, .string (bs nm), .string (bs kn), .slice ao lo1 co, .slice af lf1 cf, .string (bs bn), .string (bs bf), .string (bs bt), .int .i64 mn, .int .i64 mx, .string (bs fn), .int .i64 ft, .bool fm, .bool fk, .int .i64 vt, .int .i64 vn, .string (bs vs), .string (bs tn)] 37)) (.cells #[.slice none 0 0, .slice none 0 0] 25)
    rw [World.size_alloc, World.size_alloc] at this; rw [hW0]; exact this
  obtain ⟨W1, hW1⟩ : ∃ W1, W1 = W0.alloc (.cells #[.int .i64 wh, .string (bs nm), .string (bs kn), .slice ao lo1 co, .slice af lf1 cf, .string (bs bn), .string (bs bf), .string (bs bt), .int .i64 mn, .int .i64 mx, .string (bs fn), .int .i64 ft, .bool fm, .bool fk, .int .i64 vt, .int .i64 vn, .string (bs vs), .string (bs tn)] 37) := ⟨_, rfl⟩
  have hB1 : Below W0.heap.size W0 W1 := by rw [hW1]; exact b_alloc (Below.refl _ _) _
  have m1 : W1.heap[W0.heap.size]? = some (.cells #[.int .i64 wh, .string (bs nm), .string (bs kn), .slice ao lo1 co, .slice af lf1 cf, .string (bs bn), .string (bs bf), .string (bs bt), .int .i64 mn, .int .i64 mx, .string (bs fn), .int .i64 ft, .bool fm, .bool fk, .int .i64 vt, .int .i64 vn, .string (bs vs), .string (bs tn)] 37 (0, 0)) := by rw [hW1]; exact heap_alloc_new W0 _
  have hB01 := on1K hB0 hB1 (Nat.le_refl _)
  have cA := all_any (hK.on hB01) (hP.on hB01) hz (hb.on hB01) hzb (vl := .slice (some ⟨W0.heap.size, 0, none⟩) 1 1) (l := [⟨wh, nm, ⟨kn, ko, kf, .slice ao lo1 co, .slice af lf1 cf⟩, ⟨bn, bf, bt, mn, mx⟩, ⟨fn, ft, fm, fk⟩, vt, vn, vs, tn⟩]) ⟨_, 1, rfl, by simp [maxLen], .inr ⟨W0.heap.size, 0, rfl, (Array.getElem?_eq_some_iff.1 m1).1, fun k c hk => by
    obtain ⟨hk0, e⟩ := List.getElem?_eq_some_iff.1 hk
    have hk1 : k = 0 := by simp only [List.length_singleton] at hk0; omega
    subst hk1
    simp only [List.getElem_cons_zero] at e
    subst e
    exact ⟨fun j v hv => cell_at m1 (by simpa [Ch.cells] using hv), hc.on hB01⟩⟩⟩ (fun c hm => by
    have e : c = ⟨wh, nm, ⟨kn, ko, kf, .slice ao lo1 co, .slice af lf1 cf⟩, ⟨bn, bf, bt, mn, mx⟩, ⟨fn, ft, fm, fk⟩, vt, vn, vs, tn⟩ := by simpa using hm
    subst e
    exact hcz)
  have HF : Hid (∀ e w2, AllP W1 (allA L B [⟨wh, nm, ⟨kn, ko, kf, .slice ao lo1 co, .slice af lf1 cf⟩, ⟨bn, bf, bt, mn, mx⟩, ⟨fn, ft, fm, fk⟩, vt, vn, vs, tn⟩]) e w2 → ∃ uk ub, (∃ a l c, uk = .slice a l c) ∧ (∃ a l c, ub = .slice a l c) ∧ e = .returned (.tuple #[.agg #[uk, ub], .int .i64 (allA L B [⟨wh, nm, ⟨kn, ko, kf, .slice ao lo1 co, .slice af lf1 cf⟩, ⟨bn, bf, bt, mn, mx⟩, ⟨fn, ft, fm, fk⟩, vt, vn, vs, tn⟩]).2.1, errV (allA L B [⟨wh, nm, ⟨kn, ko, kf, .slice ao lo1 co, .slice af lf1 cf⟩, ⟨bn, bf, bt, mn, mx⟩, ⟨fn, ft, fm, fk⟩, vt, vn, vs, tn⟩]).1]) ∧ ∀ (W3 : World), W3 = w2.alloc (.cells #[uk, ub] 25) → W3.heap[w.heap.size + 2]? = some (.cells #[.slice none 0 0, .slice none 0 0] 25 (0, 0)) ∧ W3.cell? ⟨w2.heap.size, 0, none⟩ = some uk ∧ W3.cell? ⟨w2.heap.size, 1, none⟩ = some ub ∧ ∀ W4, W4 = (W3.setCell ⟨w.heap.size + 2, 0, none⟩ uk).setCell ⟨w.heap.size + 2, 1, none⟩ ub → W4.cell? ⟨w.heap.size + 2, 0, none⟩ = some uk ∧ W4.cell? ⟨w.heap.size + 2, 1, none⟩ = some ub ∧ DoP w (allA L B [⟨wh, nm, ⟨kn, ko, kf, .slice ao lo1 co, .slice af lf1 cf⟩, ⟨bn, bf, bt, mn, mx⟩, ⟨fn, ft, fm, fk⟩, vt, vn, vs, tn⟩]) (.returned (.tuple #[.agg #[uk, ub], errV (allA L B [⟨wh, nm, ⟨kn, ko, kf, .slice ao lo1 co, .slice af lf1 cf⟩, ⟨bn, bf, bt, mn, mx⟩, ⟨fn, ft, fm, fk⟩, vt, vn, vs, tn⟩]).1])) W4) := fun e w2 ha => by
    obtain ⟨uk, ub, M, he, hM, hK2, hT2, hB2⟩ := ha
    refine ⟨uk, ub, ?_, ?_, he, fun W3 hW3 => ?_⟩
    · obtain ⟨a, c, e⟩ := own_slice hK2.1; exact ⟨a, _, c, e⟩
    · obtain ⟨a, c, e⟩ := own_slice hT2; exact ⟨a, _, c, e⟩
    · have hB3 : Below w2.heap.size w2 W3 := by rw [hW3]; exact b_alloc (Below.refl _ _) _
      have hB13 := on1K hB1 (on1K hB2 hB3 (Nat.le_refl _)) (Nat.le_refl _)
      have x2 := (hB13.block _ (by omega)).trans n2
      have x3 : W3.heap[w2.heap.size]? = some (.cells #[uk, ub] 25 (0, 0)) := by rw [hW3]; exact heap_alloc_new w2 _
      refine ⟨x2, cell_at x3 rfl, cell_at x3 rfl, fun W4 hW4 => ?_⟩
      have t1 : W4.heap[w.heap.size + 2]? = some (.cells #[uk, ub] 25 (0, 0)) := by rw [hW4]; exact heap_setCell_same _ _ 1 _ 25 _ (heap_setCell_same W3 _ 0 _ 25 _ x2)
      have kk : ∀ t : TypeId, (25 : TypeId) ≠ t → Kt t w2 W4 := fun t ht => by rw [hW4]; exact ((Kt.of_below hB3).ty ⟨_, x2⟩ ht _ _).ty (Ty.set ⟨_, x2⟩ _ _ _) ht _ _
      have zk := hK2.kt (kk 29 (by decide)) (kk 9 (by decide)) (kk 33 (by decide))
      have z6 : w.heap.size ≤ W1.heap.size := hB01.size
      refine ⟨cell_at t1 rfl, cell_at t1 rfl, uk, ub, M, rfl, hM, ⟨own_base zk.1 z6, fun q hq => ⟨own_base (zk.2 q hq).1 z6, own_base (zk.2 q hq).2 z6⟩⟩, own_base (own_kt hT2 (kk 31 (by decide))) z6, ?_⟩
      rw [hW4]
      exact ((on1K hB0 hB13 (Nat.le_refl _)).setCell (by show _ ≤ w.heap.size + 2; omega) _).setCell (by show _ ≤ w.heap.size + 2; omega) _
  have d0 : W0.cell? ⟨w.heap.size, 0, none⟩ = some (.slice a1 L.length c1) := cell_at n0 rfl
  have d1 : W0.cell? ⟨w.heap.size, 1, none⟩ = some (.slice a2 B.length c2) := cell_at n0 rfl
  have HN := Lib.hid n1
  rw [hW1] at cA HF
  generalize allA L B [⟨wh, nm, ⟨kn, ko, kf, .slice ao lo1 co, .slice af lf1 cf⟩, ⟨bn, bf, bt, mn, mx⟩, ⟨fn, ft, fm, fk⟩, vt, vn, vs, tn⟩] = r at *
  clear hK hP hb hz hzb n0 n1 n2 hB0 hB1 m1 hB01 hc hcz hs0 hW1
  go_enter Tryz.func6, Tryz.ntmps6
  go_upto_region 1 with fail
  rw [← hW0]
  clear hW0
  go_wp2_with (first | (refine wpList_load_row rfl 37 (.tmp 3) rfl (w.heap.size + 1) rfl 37 _ (0, 0) _ HN.out Tryz.underlying37 rfl info37 ?_) | (go_at_call 12; refine cA.mono ?_; intro e w2 ha; obtain ⟨uk, ub, ⟨b1, b2, b3, rfl⟩, ⟨b4, b5, b6, rfl⟩, rfl, hf⟩ := HF.out e w2 ha; obtain ⟨y2, y0, y1, hg⟩ := hf _ rfl; obtain ⟨t0, t1, hd⟩ := hg _ rfl; have HD := Lib.hid hd; have HT : Hid (_ ∧ _) := ⟨t0, t1⟩; have f0 := cell_at (i := 0) y2 rfl; have f1 := cell_at (i := 1) y2 rfl; have f2 := frz_at (i := 0) y2; have f3 := frz_at (i := 1) y2; clear hf hg ha hd y2 t0 t1))
  obtain ⟨t0, t1⟩ := HT.out
  refine bodyPost_ret (v := .tuple #[.agg #[.slice b1 b2 b3, .slice b4 b5 b6], errV r.1]) ?_ rfl ?_
  · simp [results, Tryz.results6, go_sem, t0, t1]
  · exact HD.out
end Go.Proofs.YtkmkhadacppdnaaGreatDoor

/-
  A change and what takes it back, in plain functions.
-/
namespace Go.Proofs.YtkmkhadacppdnaaGreatDoor
set_option linter.unusedVariables false
set_option linter.unusedSimpArgs false

/-- Nothing. -/
def kd0 : Kd := ⟨[], [], [], .slice none 0 0, .slice none 0 0⟩
def bd0 : Bd := ⟨[], [], [], 0, 0⟩
def fd0 : Fd := ⟨[], 0, false, false⟩
/-- What takes a change back. -/
def bkC (c : Ch) : Ch := if c.wh = 1 then ⟨2, c.kd.nm, kd0, bd0, fd0, 0, 0, [], []⟩ else if c.wh = 5 then ⟨6, c.bd.nm, kd0, bd0, fd0, 0, 0, [], []⟩ else if c.wh = 3 then ⟨4, c.nm, kd0, bd0, c.fd, 0, 0, [], []⟩ else ⟨7, c.nm, kd0, bd0, ⟨c.tn, 0, false, false⟩, 0, 0, [], c.fd.nm⟩

theorem allA_one (L : List Kd) (B : List Bd) (c : Ch) : allA L B [c] = if (sErr L B).2 = 0 then (if apE L B c = 0 then (0, 0, cK L c, cB B c) else (apE L B c, 0, [], [])) else ((sErr L B).2, 0, [], []) := by
  unfold allA
  rw [if_neg (by simp)]
  rfl
theorem one_yes {L : List Kd} {B : List Bd} {c : Ch} (h : (allA L B [c]).1 = 0) : (sErr L B).2 = 0 ∧ apE L B c = 0 ∧ allA L B [c] = (0, 0, cK L c, cB B c) := by
  rw [allA_one] at h ⊢
  by_cases h1 : (sErr L B).2 = 0
  · rw [if_pos h1] at h ⊢
    by_cases h2 : apE L B c = 0
    · rw [if_pos h2]; exact ⟨h1, h2, rfl⟩
    · rw [if_neg h2] at h; exact absurd h h2
  · rw [if_neg h1] at h; exact absurd h h1
theorem one_of {L : List Kd} {B : List Bd} {c : Ch} (h1 : (sErr L B).2 = 0) (h2 : cE L B c = 0) (h3 : (sErr (cK L c) (cB B c)).2 = 0) : allA L B [c] = (0, 0, cK L c, cB B c) := by
  have h : apE L B c = 0 := by unfold apE; rw [if_pos h2]; exact h3
  rw [allA_one, if_pos h1, if_pos h]

theorem idxK_snoc (n : Nm) : ∀ (L : List Kd) (k : Kd) (i : Nat), (∀ x ∈ L, x.nm ≠ n) → k.nm = n → idxK n (L ++ [k]) i = ((i + L.length : Nat) : Int)
  | [], k, i, _, hk => by
    show idxK n [k] i = _
    unfold idxK
    rw [if_pos (by simpa using hk)]
    simp
  | x :: r, k, i, h, hk => by
    show idxK n (x :: (r ++ [k])) i = _
    unfold idxK
    rw [if_neg (by simpa using h x (by simp)), idxK_snoc n r k (i + 1) (fun y hy => h y (by simp [hy])) hk]
    simp only [List.length_cons]
    congr 1
    omega
theorem idxB_snoc (n : Nm) : ∀ (L : List Bd) (k : Bd) (i : Nat), (∀ x ∈ L, x.nm ≠ n) → k.nm = n → idxB n (L ++ [k]) i = ((i + L.length : Nat) : Int)
  | [], k, i, _, hk => by
    show idxB n [k] i = _
    unfold idxB
    rw [if_pos (by simpa using hk)]
    simp
  | x :: r, k, i, h, hk => by
    show idxB n (x :: (r ++ [k])) i = _
    unfold idxB
    rw [if_neg (by simpa using h x (by simp)), idxB_snoc n r k (i + 1) (fun y hy => h y (by simp [hy])) hk]
    simp only [List.length_cons]
    congr 1
    omega
theorem idxB_none {nm : Nm} {L : List Bd} {k : Nat} (h : idxB nm L k = -1) : ∀ x ∈ L, x.nm ≠ nm := by
  induction L generalizing k with
  | nil => intro x hx; cases hx
  | cons p r ih =>
    unfold idxB at h
    by_cases hp : (p.nm == nm) = true
    · rw [if_pos hp] at h; omega
    · rw [if_neg hp] at h
      intro x hx
      rcases List.mem_cons.1 hx with rfl | hx
      · simpa using hp
      · exact ih h x hx
theorem erase_snoc {α : Type} (L : List α) (k : α) : (L ++ [k]).eraseIdx L.length = L := by
  rw [List.eraseIdx_append_of_length_le (Nat.le_refl _)]
  simp
theorem back_1 {L : List Kd} {B : List Bd} {c : Ch} (hw : c.wh = 1) (h1 : (sErr L B).2 = 0) (h2 : apE L B c = 0) : allA (cK L c) (cB B c) [bkC c] = (0, 0, L, B) := by
  have eK : cK L c = L ++ [c.kd] := by unfold cK; rw [if_pos hw]
  have eB : cB B c = B := by unfold cB; rw [hw]; rfl
  have h3 := apE_right h2
  rw [eK, eB] at h3 ⊢
  obtain ⟨g1, g2, _⟩ := sErr_good.1 h1
  have hR : Right (L ++ [c.kd]) := (ksErr_good.1 (sErr_good.1 h3).1).1.right
  obtain ⟨r1, r2, r3⟩ := right_snoc.1 hR
  have e : bkC c = ⟨2, c.kd.nm, kd0, bd0, fd0, 0, 0, [], []⟩ := by unfold bkC; rw [if_pos hw]
  rw [e]
  have hi := idxK_snoc c.kd.nm L c.kd 0 r1 rfl
  rw [Nat.zero_add] at hi
  have hat : nmAt (L ++ [c.kd]) c.kd.nm = L.length := by unfold nmAt; rw [hi]; rfl
  have hK2 : cK (L ++ [c.kd]) ⟨2, c.kd.nm, kd0, bd0, fd0, 0, 0, [], []⟩ = L := by
    show (L ++ [c.kd]).eraseIdx (nmAt (L ++ [c.kd]) c.kd.nm) = L
    rw [hat, erase_snoc]
  have hB2 : cB B ⟨2, c.kd.nm, kd0, bd0, fd0, 0, 0, [], []⟩ = B := rfl
  have hE2 : cE (L ++ [c.kd]) B ⟨2, c.kd.nm, kd0, bd0, fd0, 0, 0, [], []⟩ = 0 := by
    show e2 (L ++ [c.kd]) B c.kd.nm = 0
    have u1 : usK (L ++ [c.kd]) c.kd.nm = false := by
      unfold usK
      rw [List.any_eq_false]
      intro k hk hh
      have hh := (hasN_iff _ _).1 hh
      rcases List.mem_append.1 hk with hk | hk
      · obtain ⟨y, hy, e⟩ := right_of r3 k (by simpa using hk) _ hh
        exact r1 y (by simpa using hy) e
      · have e : k = c.kd := by simpa using hk
        rw [e] at hh
        obtain ⟨y, hy, e⟩ := r2 _ hh
        exact r1 y hy e
    have u2 : usB B c.kd.nm = false := by
      unfold usB
      rw [List.any_eq_false]
      intro x hx hh
      obtain ⟨i, hi⟩ := List.getElem?_of_mem hx
      obtain ⟨_, _, f1, f2, _⟩ := bErr_zero (g2 i x hi)
      obtain ⟨y1, hy1, e1⟩ := hasK_iff.1 f1
      obtain ⟨y2, hy2, e2⟩ := hasK_iff.1 f2
      rcases Bool.or_eq_true_iff.1 hh with hh | hh
      · exact r1 y1 hy1 (e1.trans (by simpa using hh))
      · exact r1 y2 hy2 (e2.trans (by simpa using hh))
    unfold e2
    rw [if_neg (by rw [hi]; omega), if_neg (by rw [u1]; decide), if_neg (by rw [u2]; decide)]
  have := one_of h3 hE2 (by rw [hK2, hB2]; exact h1)
  rw [this, hK2, hB2]
theorem back_5 {L : List Kd} {B : List Bd} {c : Ch} (hw : c.wh = 5) (h1 : (sErr L B).2 = 0) (h2 : apE L B c = 0) : allA (cK L c) (cB B c) [bkC c] = (0, 0, L, B) := by
  have eK : cK L c = L := by unfold cK; rw [hw]; rfl
  have eB : cB B c = B ++ [c.bd] := by unfold cB; rw [if_pos hw]
  have h3 := apE_right h2
  rw [eK, eB] at h3 ⊢
  obtain ⟨_, g2, _⟩ := sErr_good.1 h3
  have hb := g2 B.length c.bd (by simp)
  rw [List.take_left] at hb
  have r1 := idxB_none (bErr_zero hb).2.1
  have e : bkC c = ⟨6, c.bd.nm, kd0, bd0, fd0, 0, 0, [], []⟩ := by unfold bkC; rw [hw]; rfl
  rw [e]
  have hi := idxB_snoc c.bd.nm B c.bd 0 r1 rfl
  rw [Nat.zero_add] at hi
  have hat : bAt (B ++ [c.bd]) c.bd.nm = B.length := by unfold bAt; rw [hi]; rfl
  have hK2 : cK L ⟨6, c.bd.nm, kd0, bd0, fd0, 0, 0, [], []⟩ = L := rfl
  have hB2 : cB (B ++ [c.bd]) ⟨6, c.bd.nm, kd0, bd0, fd0, 0, 0, [], []⟩ = B := by
    show (B ++ [c.bd]).eraseIdx (bAt (B ++ [c.bd]) c.bd.nm) = B
    rw [hat, erase_snoc]
  have hE2 : cE L (B ++ [c.bd]) ⟨6, c.bd.nm, kd0, bd0, fd0, 0, 0, [], []⟩ = 0 := by
    show e6 (B ++ [c.bd]) c.bd.nm = 0
    unfold e6
    rw [if_neg (by rw [hi]; omega)]
  have := one_of h3 hE2 (by rw [hK2, hB2]; exact h1)
  rw [this, hK2, hB2]

/-! Kinds of which one has other fields: the names are the same. -/
theorem idxK_names (n : Nm) : ∀ (L M : List Kd) (i : Nat), L.map Kd.nm = M.map Kd.nm → idxK n L i = idxK n M i
  | [], [], _, _ => rfl
  | [], _ :: _, _, h => by cases h
  | _ :: _, [], _, h => by cases h
  | x :: r, y :: s, i, h => by
    rw [List.map_cons, List.map_cons] at h
    injection h with h1 h2
    unfold idxK
    rw [h1, idxK_names n r s (i + 1) h2]
theorem setFs_names (L : List Kd) (n : Nm) (g : List Fd) : (setFs L n g).map Kd.nm = L.map Kd.nm := by
  unfold setFs
  split
  · rename_i k hk
    rw [List.map_set]
    apply List.ext_getElem?
    intro i
    rw [List.getElem?_set]
    split
    · rename_i e
      subst e
      have hl := (List.getElem?_eq_some_iff.1 hk).1
      rw [if_pos (by rw [List.length_map]; exact hl), List.getElem?_map, hk]
      rfl
    · rfl
  · rfl
theorem setFs_idx (L : List Kd) (n m : Nm) (g : List Fd) : idxK m (setFs L n g) 0 = idxK m L 0 := idxK_names m _ _ 0 (setFs_names L n g)
theorem setFs_at (L : List Kd) (n m : Nm) (g : List Fd) : nmAt (setFs L n g) m = nmAt L m := by unfold nmAt; rw [setFs_idx]
theorem setFs_fds {L : List Kd} {n : Nm} {j : Nat} {q : Kd} (hat : nmAt L n = j) (hq : L[j]? = some q) (g : List Fd) : fdsAt (setFs L n g) n = g := by
  have hl := (List.getElem?_eq_some_iff.1 hq).1
  unfold fdsAt
  rw [setFs_at, hat]
  unfold setFs
  rw [hat, hq]
  simp [hl]
theorem setFs_eq {L : List Kd} {n : Nm} {j : Nat} {q : Kd} (hat : nmAt L n = j) (hq : L[j]? = some q) (g : List Fd) : setFs L n g = L.set j { q with fs := g } := by unfold setFs; rw [hat, hq]
/-- Other fields, and the old ones again. -/
theorem setFs_back {L : List Kd} {n : Nm} {j : Nat} {q : Kd} (hat : nmAt L n = j) (hq : L[j]? = some q) (g : List Fd) : (setFs (setFs L n g) n q.fs).map kq3 = L.map kq3 := by
  have hl := (List.getElem?_eq_some_iff.1 hq).1
  have e1 := setFs_eq hat hq g
  have hq' : (setFs L n g)[j]? = some { q with fs := g } := by rw [e1]; simp [hl]
  have e2 := setFs_eq ((setFs_at L n n g).trans hat) hq' q.fs
  rw [e2, e1, List.set_set]
  congr 1
  apply List.ext_getElem?
  intro i
  rw [List.getElem?_set]
  split
  · rename_i e
    subst e
    rw [hq]
  · rfl

/-! Fields with one more. -/
theorem lo_pre (n : Nm) : ∀ (l : List Fd), ∀ x ∈ l.take (lo n l), Op.bytesLess x.nm n = true
  | [], x, hx => by cases hx
  | g :: r, x, hx => by
    unfold lo at hx
    split at hx
    · rename_i h
      rw [List.take_succ_cons] at hx
      rcases List.mem_cons.1 hx with rfl | hx
      · exact h
      · exact lo_pre n r x hx
    · cases hx
theorem lo_app (n : Nm) : ∀ (a : List Fd) (f : Fd) (b : List Fd), (∀ x ∈ a, Op.bytesLess x.nm n = true) → Op.bytesLess f.nm n = false → lo n (a ++ f :: b) = a.length
  | [], f, b, _, hf => by
    show lo n (f :: b) = 0
    unfold lo
    rw [if_neg (by rw [hf]; decide)]
  | x :: r, f, b, h, hf => by
    show lo n (x :: (r ++ f :: b)) = _
    unfold lo
    rw [if_pos (h x (by simp)), lo_app n r f b (fun y hy => h y (by simp [hy])) hf]
    rfl
theorem lo_all (n : Nm) : ∀ (a : List Fd), (∀ x ∈ a, Op.bytesLess x.nm n = true) → lo n a = a.length
  | [], _ => rfl
  | x :: r, h => by
    unfold lo
    rw [if_pos (h x (by simp)), lo_all n r (fun y hy => h y (by simp [hy]))]
    rfl
theorem lo_insA (l : List Fd) (f : Fd) : lo f.nm (insA l f) = lo f.nm l := by
  unfold insA
  rw [lo_app f.nm _ f _ (lo_pre f.nm l) (less_irr _), List.length_take_of_le (lo_le _ _)]
theorem insA_get (l : List Fd) (f : Fd) : (insA l f)[lo f.nm l]? = some f := by
  unfold insA
  rw [List.getElem?_append_right (by rw [List.length_take_of_le (lo_le _ _)]; exact Nat.le_refl _), List.length_take_of_le (lo_le _ _)]
  simp
theorem insA_fnd (l : List Fd) (f : Fd) : fnd f.nm (insA l f) = true := by
  unfold fnd
  rw [lo_insA, insA_get]
  simp
theorem insA_erase (l : List Fd) (f : Fd) : (insA l f).eraseIdx (lo f.nm (insA l f)) = l := by
  rw [lo_insA]
  unfold insA
  have hl : (l.take (lo f.nm l)).length = lo f.nm l := List.length_take_of_le (lo_le _ _)
  rw [List.eraseIdx_append_of_length_le (by rw [hl]; exact Nat.le_refl _), hl, Nat.sub_self]
  show l.take (lo f.nm l) ++ l.drop (lo f.nm l) = l
  exact List.take_append_drop _ _
theorem back_3 {L : List Kd} {B : List Bd} {c : Ch} (hw : c.wh = 3) (h1 : (sErr L B).2 = 0) (h2 : apE L B c = 0) : ∃ K, allA (cK L c) (cB B c) [bkC c] = (0, 0, K, B) ∧ K.map kq3 = L.map kq3 := by
  have hE : cE L B c = 0 := by
    unfold apE at h2
    split at h2
    · assumption
    · exact h2
  have hE3 : e3 L c = 0 := by unfold cE at hE; rw [hw] at hE; exact hE
  have hi : ¬ idxK c.nm L 0 = -1 := fun e => by unfold e3 at hE3; rw [if_pos e] at hE3; exact absurd hE3 (by decide)
  obtain ⟨j, q, hj, hat, hq, _⟩ := nmAt_has hi
  have hfa := fdsAt_eq hat hq
  have eK : cK L c = setFs L c.nm (insA q.fs c.fd) := by unfold cK; rw [hw, hfa]; rfl
  have eB : cB B c = B := by unfold cB; rw [hw]; rfl
  have h3 := apE_right h2
  rw [eK, eB] at h3 ⊢
  have e : bkC c = ⟨4, c.nm, kd0, bd0, c.fd, 0, 0, [], []⟩ := by unfold bkC; rw [hw]; rfl
  rw [e]
  have hfb := setFs_fds hat hq (insA q.fs c.fd)
  have hK2 : cK (setFs L c.nm (insA q.fs c.fd)) ⟨4, c.nm, kd0, bd0, c.fd, 0, 0, [], []⟩ = setFs (setFs L c.nm (insA q.fs c.fd)) c.nm q.fs := by
    show setFs (setFs L c.nm (insA q.fs c.fd)) c.nm ((fdsAt (setFs L c.nm (insA q.fs c.fd)) c.nm).eraseIdx (lo c.fd.nm (fdsAt (setFs L c.nm (insA q.fs c.fd)) c.nm))) = _
    rw [hfb, insA_erase]
  have hB2 : cB B ⟨4, c.nm, kd0, bd0, c.fd, 0, 0, [], []⟩ = B := rfl
  have hE2 : cE (setFs L c.nm (insA q.fs c.fd)) B ⟨4, c.nm, kd0, bd0, c.fd, 0, 0, [], []⟩ = 0 := by
    show e4 (setFs L c.nm (insA q.fs c.fd)) c.nm c.fd.nm = 0
    unfold e4
    rw [setFs_idx, if_neg hi, hfb, if_pos (insA_fnd _ _)]
  have hkq := setFs_back hat hq (insA q.fs c.fd)
  refine ⟨_, ?_, hkq⟩
  have := one_of h3 hE2 (by rw [hK2, hB2, sErr_kq hkq]; exact h1)
  rw [this, hK2, hB2]

/-! Another name, and the old one again. -/
theorem fnd_iff {n : Nm} {l : List Fd} (hs : Srt l) : fnd n l = true ↔ ∃ x ∈ l, x.nm = n := by
  unfold fnd
  constructor
  · intro h
    split at h
    · rename_i g hg; exact ⟨g, List.mem_of_getElem? hg, by simpa using h⟩
    · cases h
  · rintro ⟨x, hx, rfl⟩
    obtain ⟨i, hi⟩ := List.getElem?_of_mem hx
    have h1 : ¬ i < lo x.nm l := fun h => by
      have := (lo_spec x.nm hs i x hi).1 h
      rw [less_irr] at this
      cases this
    have h2 : ¬ lo x.nm l < i := fun h => by
      have hil := (List.getElem?_eq_some_iff.1 hi).1
      obtain ⟨y, hy⟩ : ∃ y, l[lo x.nm l]? = some y := ⟨l[lo x.nm l], by simp [show lo x.nm l < l.length by omega]⟩
      obtain ⟨hyl, ey⟩ := List.getElem?_eq_some_iff.1 hy
      obtain ⟨_, ex⟩ := List.getElem?_eq_some_iff.1 hi
      have hl := List.pairwise_iff_getElem.1 hs _ _ hyl hil h
      rw [ey, ex] at hl
      have := (lo_spec x.nm hs _ y hy).2 hl
      omega
    have e : lo x.nm l = i := by omega
    rw [e, hi]
    simp
theorem insA_srt {l : List Fd} (hs : Srt l) {f : Fd} (h : fnd f.nm l = false) : Srt (insA l f) := by
  have e : insF l f = some (insA l f) := insF_new h
  exact (insF_spec hs f e).1
theorem insA_back {l : List Fd} (hs : Srt l) {m : Nat} {f : Fd} (hf : l[m]? = some f) : insA (l.eraseIdx m) f = l := by
  obtain ⟨hm, ef⟩ := List.getElem?_eq_some_iff.1 hf
  have hp := List.pairwise_iff_getElem.1 hs
  have hlen : (l.take m).length = m := List.length_take_of_le (by omega)
  have h1 : ∀ x ∈ l.take m, Op.bytesLess x.nm f.nm = true := fun x hx => by
    obtain ⟨i, hi⟩ := List.getElem?_of_mem hx
    rw [List.getElem?_take] at hi
    split at hi
    · rename_i him
      obtain ⟨hil, ei⟩ := List.getElem?_eq_some_iff.1 hi
      have := hp i m hil hm him
      rw [ei, ef] at this
      exact this
    · cases hi
  have hlo : lo f.nm (l.eraseIdx m) = m := by
    rw [List.eraseIdx_eq_take_drop_succ]
    cases hd : l.drop (m + 1) with
    | nil => rw [List.append_nil, lo_all _ _ h1, hlen]
    | cons g r =>
      have hg : l[m + 1]? = some g := by
        have : (l.drop (m + 1))[0]? = some g := by rw [hd]; rfl
        rw [List.getElem?_drop] at this
        simpa using this
      obtain ⟨hgl, eg⟩ := List.getElem?_eq_some_iff.1 hg
      have hl := hp m (m + 1) hm hgl (by omega)
      rw [eg, ef] at hl
      rw [lo_app _ _ g r h1 (less_asym hl), hlen]
  unfold insA
  rw [hlo, List.eraseIdx_eq_take_drop_succ]
  have t1 : (l.take m ++ l.drop (m + 1)).take m = l.take m := by rw [List.take_append_of_le_length (by omega), List.take_of_length_le (by omega)]
  have t2 : (l.take m ++ l.drop (m + 1)).drop m = l.drop (m + 1) := by
    have := List.drop_left (l₁ := l.take m) (l₂ := l.drop (m + 1))
    rwa [hlen] at this
  rw [t1, t2, ← dropK hf, List.take_append_drop]
theorem Good.names {L : List Kd} (h : Good L) : ∀ k ∈ L, ∀ f ∈ k.fs, nErr f.nm = 0 := fun k hk => by
  obtain ⟨i, hi⟩ := List.getElem?_of_mem hk
  obtain ⟨_, _, _, _, h5, _⟩ := kErr_zero (h i k hi)
  have key : ∀ (l : List Fd) (o : Option Fd), fChk o l = 0 → ∀ f ∈ l, nErr f.nm = 0 := by
    intro l
    induction l with
    | nil => intro o _ f hf; cases hf
    | cons g r ih =>
      intro o ho f hf
      unfold fChk at ho
      split at ho
      · rename_i hb
        rcases List.mem_cons.1 hf with rfl | hf
        · unfold fBad at hb
          split at hb
          · assumption
          · rename_i hn; exact absurd hb hn
        · exact ih _ ho f hf
      · rename_i hb; exact absurd ho hb
  exact key k.fs none h5
theorem back_7 {L : List Kd} {B : List Bd} {c : Ch} (hw : c.wh = 7) (h1 : (sErr L B).2 = 0) (h2 : apE L B c = 0) : ∃ K, allA (cK L c) (cB B c) [bkC c] = (0, 0, K, B) ∧ K.map kq3 = L.map kq3 := by
  have hE : cE L B c = 0 := by
    unfold apE at h2
    split at h2
    · assumption
    · exact h2
  have hE7 : e7 L c.nm c.fd.nm c.tn = 0 := by unfold cE at hE; rw [hw] at hE; exact hE
  have hE4 : e4 L c.nm c.fd.nm = 0 := by
    unfold e7 at hE7
    split at hE7
    · assumption
    · exact hE7
  have hn0 : nErr c.tn = 0 := by
    unfold e7 at hE7
    rw [if_pos hE4] at hE7
    split at hE7
    · assumption
    · exact hE7
  have hi : ¬ idxK c.nm L 0 = -1 := fun e => by unfold e4 at hE4; rw [if_pos e] at hE4; exact absurd hE4 (by decide)
  obtain ⟨j, q, hj, hat, hq, _⟩ := nmAt_has hi
  have hfa := fdsAt_eq hat hq
  have hG := (good_of h1).1
  have hqm := List.mem_of_getElem? hq
  have hs := (hG.srt q hqm).1
  have hf : fnd c.fd.nm q.fs = true := by
    unfold e4 at hE4
    rw [if_neg hi, hfa] at hE4
    cases hb : fnd c.fd.nm q.fs
    · rw [hb] at hE4; exact absurd hE4 (by decide)
    · rfl
  have ht : fnd c.tn q.fs = false := by
    unfold e7 at hE7
    rw [if_pos hE4, if_pos hn0, hfa] at hE7
    cases hb : fnd c.tn q.fs
    · rfl
    · rw [hb] at hE7; exact absurd hE7 (by decide)
  have hml := fnd_lt hf
  obtain ⟨f0, hf0⟩ : ∃ f0, q.fs[lo c.fd.nm q.fs]? = some f0 := ⟨q.fs[lo c.fd.nm q.fs], by simp [hml]⟩
  have hfn : f0.nm = c.fd.nm := by
    unfold fnd at hf
    rw [hf0] at hf
    simpa using hf
  have hrn : rnF q.fs c.fd.nm c.tn = insA (q.fs.eraseIdx (lo c.fd.nm q.fs)) { f0 with nm := c.tn } := by unfold rnF; rw [hf0]
  obtain ⟨G, hGe⟩ : ∃ G, G = insA (q.fs.eraseIdx (lo c.fd.nm q.fs)) { f0 with nm := c.tn } := ⟨_, rfl⟩
  have eK : cK L c = setFs L c.nm G := by unfold cK; rw [hw, hfa, hrn, hGe]; rfl
  have eB : cB B c = B := by unfold cB; rw [hw]; rfl
  have h3 := apE_right h2
  rw [eK, eB] at h3 ⊢
  have e : bkC c = ⟨7, c.nm, kd0, bd0, ⟨c.tn, 0, false, false⟩, 0, 0, [], c.fd.nm⟩ := by unfold bkC; rw [hw]; rfl
  rw [e]
  have hfb := setFs_fds hat hq G
  have hse : Srt (q.fs.eraseIdx (lo c.fd.nm q.fs)) := srt_erase hs _
  have hte : fnd c.tn (q.fs.eraseIdx (lo c.fd.nm q.fs)) = false := by
    cases hb : fnd c.tn (q.fs.eraseIdx (lo c.fd.nm q.fs))
    · rfl
    · obtain ⟨x, hx, ex⟩ := (fnd_iff hse).1 hb
      have := (fnd_iff hs).2 ⟨x, List.mem_of_mem_eraseIdx hx, ex⟩
      rw [ht] at this
      cases this
  have hsG : Srt G := by rw [hGe]; exact insA_srt (f := { f0 with nm := c.tn }) hse hte
  have hGt : fnd c.tn G = true := by rw [hGe]; exact insA_fnd (q.fs.eraseIdx (lo c.fd.nm q.fs)) { f0 with nm := c.tn }
  have hGl : lo c.tn G = lo c.tn (q.fs.eraseIdx (lo c.fd.nm q.fs)) := by rw [hGe]; exact lo_insA (q.fs.eraseIdx (lo c.fd.nm q.fs)) { f0 with nm := c.tn }
  have hGg : G[lo c.tn G]? = some { f0 with nm := c.tn } := by rw [hGl, hGe]; exact insA_get (q.fs.eraseIdx (lo c.fd.nm q.fs)) { f0 with nm := c.tn }
  have hGe2 : G.eraseIdx (lo c.tn G) = q.fs.eraseIdx (lo c.fd.nm q.fs) := by rw [hGe]; exact insA_erase (q.fs.eraseIdx (lo c.fd.nm q.fs)) { f0 with nm := c.tn }
  have hGf : fnd c.fd.nm G = false := by
    cases hb : fnd c.fd.nm G
    · rfl
    · obtain ⟨x, hx, ex⟩ := (fnd_iff hsG).1 hb
      rw [hGe] at hx
      rcases mem_insA hx with hx | rfl
      · obtain ⟨i, hi⟩ := List.getElem?_of_mem hx
        obtain ⟨hm0, e0⟩ := List.getElem?_eq_some_iff.1 hf0
        have hp := List.pairwise_iff_getElem.1 hs
        rw [List.getElem?_eraseIdx] at hi
        split at hi
        · rename_i hlt
          obtain ⟨hil, ei⟩ := List.getElem?_eq_some_iff.1 hi
          have := hp i _ hil hm0 hlt
          rw [ei, e0, ex, hfn, less_irr] at this
          cases this
        · rename_i hlt
          obtain ⟨hil, ei⟩ := List.getElem?_eq_some_iff.1 hi
          have := hp _ (i + 1) hm0 hil (by omega)
          rw [ei, e0, ex, hfn, less_irr] at this
          cases this
      · simp only at ex
        have := (fnd_iff hs).2 ⟨f0, List.mem_of_getElem? hf0, hfn.trans ex.symm⟩
        rw [ht] at this
        cases this
  have hback : rnF G c.tn c.fd.nm = q.fs := by
    unfold rnF
    rw [hGg]
    show insA (G.eraseIdx (lo c.tn G)) { f0 with nm := c.fd.nm } = q.fs
    have e0 : ({ f0 with nm := c.fd.nm } : Fd) = f0 := by rw [← hfn]
    rw [hGe2, e0, insA_back hs hf0]
  have hK2 : cK (setFs L c.nm G) ⟨7, c.nm, kd0, bd0, ⟨c.tn, 0, false, false⟩, 0, 0, [], c.fd.nm⟩ = setFs (setFs L c.nm G) c.nm q.fs := by
    show setFs (setFs L c.nm G) c.nm (rnF (fdsAt (setFs L c.nm G) c.nm) c.tn c.fd.nm) = _
    rw [hfb, hback]
  have hB2 : cB B ⟨7, c.nm, kd0, bd0, ⟨c.tn, 0, false, false⟩, 0, 0, [], c.fd.nm⟩ = B := rfl
  have hE2 : cE (setFs L c.nm G) B ⟨7, c.nm, kd0, bd0, ⟨c.tn, 0, false, false⟩, 0, 0, [], c.fd.nm⟩ = 0 := by
    show e7 (setFs L c.nm G) c.nm c.tn c.fd.nm = 0
    have h4 : e4 (setFs L c.nm G) c.nm c.tn = 0 := by unfold e4; rw [setFs_idx, if_neg hi, hfb, if_pos hGt]
    have hnf : nErr c.fd.nm = 0 := by rw [← hfn]; exact hG.names q hqm f0 (List.mem_of_getElem? hf0)
    unfold e7
    rw [if_pos h4, if_pos hnf, hfb, if_neg (by rw [hGf]; decide)]
  have hkq := setFs_back hat hq G
  refine ⟨_, ?_, hkq⟩
  have := one_of h3 hE2 (by rw [hK2, hB2, sErr_kq hkq]; exact h1)
  rw [this, hK2, hB2]
/-- What takes back a kind, a bond, a field or a name: it is as it was. -/
theorem back_any {L : List Kd} {B : List Bd} {c : Ch} (hw : c.wh = 1 ∨ c.wh = 5 ∨ c.wh = 3 ∨ c.wh = 7) (h : (allA L B [c]).1 = 0) : ∃ K, allA (cK L c) (cB B c) [bkC c] = (0, 0, K, B) ∧ K.map kq3 = L.map kq3 := by
  obtain ⟨h1, h2, _⟩ := one_yes h
  rcases hw with hw | hw | hw | hw
  · exact ⟨L, back_1 hw h1 h2, rfl⟩
  · exact ⟨L, back_5 hw h1 h2, rfl⟩
  · exact back_3 hw h1 h2
  · exact back_7 hw h1 h2
end Go.Proofs.YtkmkhadacppdnaaGreatDoor
