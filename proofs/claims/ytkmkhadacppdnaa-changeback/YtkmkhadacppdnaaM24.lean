/-
  The walk of the law ChangeBack where a change of the kind 5 is taken back.
-/
import Derived.Test.YtkmkhadacppdnaaM22
namespace Go.Proofs.Ytkmkhadacppdnaa
open Go.RowKit
set_option linter.unusedVariables false
set_option linter.unusedSimpArgs false

set_option maxHeartbeats 8000000 in
set_option maxRecDepth 100000 in
theorem back_yes5 {w : World} {vk vb : Value} {L : List Kd} {B : List Bd} (c : Ch) (hK : IsK w vk L) (hP : Parts w L) (hz : SzK L) (hb : IsB w vb B) (hzb : SzB B) (hc : ChIs w c) (hcz : ChSz c) (hr : (allA L B [c]).1 = 0) (hw : c.wh = 5) :
    Calls Try.prog 3 #[.agg #[vk, vb], c.one] w fun e w' => e = .returned (.bool true) ∧ Below w.heap.size w w' := by
  obtain ⟨a1, c1, rfl, _⟩ := hK.sln
  obtain ⟨a2, c2, rfl, _⟩ := hb.sln
  obtain ⟨wh, nm, ⟨kn, ko, kf, vo, vf⟩, ⟨bn, bf, bt, mn, mx⟩, ⟨fn, ft, fm, fk⟩, vt, vn, vs, tn⟩ := c
  obtain ⟨ao, lo1, co, q1⟩ := hc.1.sl
  obtain ⟨af, lf1, cf, q2⟩ := hc.2.sl
  simp only at q1 q2 hr hw
  subst q1 q2
  obtain ⟨W0, hW0⟩ : ∃ W0, W0 = (w.alloc (.cells #[.slice a1 L.length c1, .slice a2 B.length c2] 25)).alloc (.cells #[.int .i64 wh, .string (bs nm), .string (bs kn), .slice ao lo1 co, .slice af lf1 cf, .string (bs bn), .string (bs bf), .string (bs bt), .int .i64 mn, .int .i64 mx, .string (bs fn), .int .i64 ft, .bool fm, .bool fk, .int .i64 vt, .int .i64 vn, .string (bs vs), .string (bs tn)] 37) := ⟨_, rfl⟩
  have hB0 : Below w.heap.size w W0 := by rw [hW0]; exact b_alloc (b_alloc (Below.refl _ _) _) _
  have hs0 : W0.heap.size = w.heap.size + 2 := by rw [hW0]; simp
  have n0 : W0.heap[w.heap.size]? = some (.cells #[.slice a1 L.length c1, .slice a2 B.length c2] 25 (0, 0)) := by rw [hW0]; exact (heap_alloc_old _ _ (by simp)).trans (heap_alloc_new w _)
  have n1 : W0.heap[w.heap.size + 1]? = some (.cells #[.int .i64 wh, .string (bs nm), .string (bs kn), .slice ao lo1 co, .slice af lf1 cf, .string (bs bn), .string (bs bf), .string (bs bt), .int .i64 mn, .int .i64 mx, .string (bs fn), .int .i64 ft, .bool fm, .bool fk, .int .i64 vt, .int .i64 vn, .string (bs vs), .string (bs tn)] 37 (0, 0)) := by
    have := heap_alloc_new (w.alloc (.cells #[.slice a1 L.length c1, .slice a2 B.length c2] 25)) (.cells #[.int .i64 wh, .string (bs nm), .string (bs kn), .slice ao lo1 co, .slice af lf1 cf, .string (bs bn), .string (bs bf), .string (bs bt), .int .i64 mn, .int .i64 mx, .string (bs fn), .int .i64 ft, .bool fm, .bool fk, .int .i64 vt, .int .i64 vn, .string (bs vs), .string (bs tn)] 37)
    rw [World.size_alloc] at this; rw [hW0]; exact this
  have HX : Hid (∀ W, Below W0.heap.size W0 W → W.cell? ⟨w.heap.size, 0, none⟩ = some (.slice a1 L.length c1) ∧ W.cell? ⟨w.heap.size, 1, none⟩ = some (.slice a2 B.length c2) ∧ W.heap[w.heap.size + 1]? = some (.cells #[.int .i64 wh, .string (bs nm), .string (bs kn), .slice ao lo1 co, .slice af lf1 cf, .string (bs bn), .string (bs bf), .string (bs bt), .int .i64 mn, .int .i64 mx, .string (bs fn), .int .i64 ft, .bool fm, .bool fk, .int .i64 vt, .int .i64 vn, .string (bs vs), .string (bs tn)] 37 (0, 0)) ∧ w.heap.size + 1 < W.heap.size) := fun W hbb => by
    have hsz := hbb.size
    exact ⟨cell_at ((hbb.block _ (by omega)).trans n0) rfl, cell_at ((hbb.block _ (by omega)).trans n0) rfl, (hbb.block _ (by omega)).trans n1, by omega⟩
  have HD1 : Hid (∀ W, Below W0.heap.size W0 W → Calls Try.prog 4 #[.agg #[.slice a1 L.length c1, .slice a2 B.length c2], .agg #[.int .i64 wh, .string (bs nm), .string (bs kn), .slice ao lo1 co, .slice af lf1 cf, .string (bs bn), .string (bs bf), .string (bs bt), .int .i64 mn, .int .i64 mx, .string (bs fn), .int .i64 ft, .bool fm, .bool fk, .int .i64 vt, .int .i64 vn, .string (bs vs), .string (bs tn)]] W (DoP W (allA L B [⟨wh, nm, ⟨kn, ko, kf, .slice ao lo1 co, .slice af lf1 cf⟩, ⟨bn, bf, bt, mn, mx⟩, ⟨fn, ft, fm, fk⟩, vt, vn, vs, tn⟩]))) := fun W hbb => by
    have hbw := on1K hB0 hbb (Nat.le_refl _)
    exact do_any ⟨wh, nm, ⟨kn, ko, kf, .slice ao lo1 co, .slice af lf1 cf⟩, ⟨bn, bf, bt, mn, mx⟩, ⟨fn, ft, fm, fk⟩, vt, vn, vs, tn⟩ (hK.on hbw) (hP.on hbw) hz (hb.on hbw) hzb (hc.on hbw) hcz
  have HBB := Lib.hid hB0
  subst hw
  have HE : Hid (allA L B [⟨5, nm, ⟨kn, ko, kf, .slice ao lo1 co, .slice af lf1 cf⟩, ⟨bn, bf, bt, mn, mx⟩, ⟨fn, ft, fm, fk⟩, vt, vn, vs, tn⟩] = (0, 0, cK L ⟨5, nm, ⟨kn, ko, kf, .slice ao lo1 co, .slice af lf1 cf⟩, ⟨bn, bf, bt, mn, mx⟩, ⟨fn, ft, fm, fk⟩, vt, vn, vs, tn⟩, cB B ⟨5, nm, ⟨kn, ko, kf, .slice ao lo1 co, .slice af lf1 cf⟩, ⟨bn, bf, bt, mn, mx⟩, ⟨fn, ft, fm, fk⟩, vt, vn, vs, tn⟩) ∧ SzK (cK L ⟨5, nm, ⟨kn, ko, kf, .slice ao lo1 co, .slice af lf1 cf⟩, ⟨bn, bf, bt, mn, mx⟩, ⟨fn, ft, fm, fk⟩, vt, vn, vs, tn⟩) ∧ SzB (cB B ⟨5, nm, ⟨kn, ko, kf, .slice ao lo1 co, .slice af lf1 cf⟩, ⟨bn, bf, bt, mn, mx⟩, ⟨fn, ft, fm, fk⟩, vt, vn, vs, tn⟩) ∧ (sErr (cK L ⟨5, nm, ⟨kn, ko, kf, .slice ao lo1 co, .slice af lf1 cf⟩, ⟨bn, bf, bt, mn, mx⟩, ⟨fn, ft, fm, fk⟩, vt, vn, vs, tn⟩) (cB B ⟨5, nm, ⟨kn, ko, kf, .slice ao lo1 co, .slice af lf1 cf⟩, ⟨bn, bf, bt, mn, mx⟩, ⟨fn, ft, fm, fk⟩, vt, vn, vs, tn⟩)).2 = 0) := by
    obtain ⟨h1, h2, h3⟩ := one_yes hr
    obtain ⟨g1, g2, _⟩ := sErr_good.1 h1
    exact ⟨h3, sz_cK (ksErr_good.1 g1).1.sz _ hcz, sz_cB g2.sz _ hcz, apE_right h2⟩
  obtain ⟨K2, hK2, hK2q⟩ := back_any (c := ⟨5, nm, ⟨kn, ko, kf, .slice ao lo1 co, .slice af lf1 cf⟩, ⟨bn, bf, bt, mn, mx⟩, ⟨fn, ft, fm, fk⟩, vt, vn, vs, tn⟩) (by simp) hr
  have hbk : bkC ⟨5, nm, ⟨kn, ko, kf, .slice ao lo1 co, .slice af lf1 cf⟩, ⟨bn, bf, bt, mn, mx⟩, ⟨fn, ft, fm, fk⟩, vt, vn, vs, tn⟩ = ⟨6, bn, kd0, bd0, fd0, 0, 0, [], []⟩ := rfl
  rw [hbk] at hK2
  have HS : Hid (IsK w (.slice a1 L.length c1) L ∧ Parts w L ∧ IsB w (.slice a2 B.length c2) B ∧ L.length ≤ 1000 ∧ B.length ≤ 1000 ∧ (∀ k ∈ L, k.of.length ≤ 1000 ∧ k.fs.length ≤ 1000) ∧ ChSz ⟨6, bn, kd0, bd0, fd0, 0, 0, [], []⟩) := by
    obtain ⟨h1, _, _⟩ := one_yes hr
    obtain ⟨g1, g2, g3⟩ := good_of h1
    refine ⟨hK, hP, hb, by omega, by omega, fun k hk => by have := g1.small k hk; omega, ⟨⟨Nat.zero_le _, fun f hf => by cases hf⟩, ⟨Nat.zero_le _, Nat.zero_le _⟩, Nat.zero_le _, Nat.zero_le _, Nat.zero_le _, Nat.zero_le _⟩⟩
  have HK2 : Hid (allA (cK L ⟨5, nm, ⟨kn, ko, kf, .slice ao lo1 co, .slice af lf1 cf⟩, ⟨bn, bf, bt, mn, mx⟩, ⟨fn, ft, fm, fk⟩, vt, vn, vs, tn⟩) (cB B ⟨5, nm, ⟨kn, ko, kf, .slice ao lo1 co, .slice af lf1 cf⟩, ⟨bn, bf, bt, mn, mx⟩, ⟨fn, ft, fm, fk⟩, vt, vn, vs, tn⟩) [⟨6, bn, kd0, bd0, fd0, 0, 0, [], []⟩] = (0, 0, K2, B) ∧ K2.map kq3 = L.map kq3) := ⟨hK2, hK2q⟩
  clear hK hP hb hz hzb n0 n1 hB0 hc hcz hs0 hr hK2 hK2q hbk
  go_enter Try.func3, Try.ntmps3
  go_upto_region 1 with fail
  rw [← hW0]
  clear hW0
  go_wp2_with (first | (go_at_call 4; refine (fact_any W0).mono ?_; rintro e w1 ⟨g, cg, ag, lg, cg', rfl, hfc, hB1⟩; refine Hid.out ?_))
  refine Lib.hid ?_
  go_upto_region 4 with fail
  obtain ⟨W2, hW2⟩ : ∃ W2, W2 = w1.alloc (.cells #[.slice (some ⟨g, 0, none⟩) 1 cg, .slice ag lg cg'] 25) := ⟨_, rfl⟩
  rw [← hW2]
  have hB2 : Below W0.heap.size W0 W2 := by rw [hW2]; exact on1K hB1 (b_alloc (Below.refl _ _) _) (Nat.le_refl _)
  clear hW2 hfc
  obtain ⟨x0, x1, x2, x3⟩ := HX.out W2 hB2
  have HN := Lib.hid x2
  clear x2
  have cd1 := HD1.out W2 hB2
  have hd : Calls Try.prog 4 _ W2 fun e w' => ∃ u1 u3 u4 u6 M, e = .returned (.tuple #[.agg #[.slice u1 M.length u3, .slice u4 (cB B ⟨5, nm, ⟨kn, ko, kf, .slice ao lo1 co, .slice af lf1 cf⟩, ⟨bn, bf, bt, mn, mx⟩, ⟨fn, ft, fm, fk⟩, vt, vn, vs, tn⟩).length u6], .nilIface]) ∧ M.map kq3 = (cK L ⟨5, nm, ⟨kn, ko, kf, .slice ao lo1 co, .slice af lf1 cf⟩, ⟨bn, bf, bt, mn, mx⟩, ⟨fn, ft, fm, fk⟩, vt, vn, vs, tn⟩).map kq3 ∧ OwnKs w' W2.heap.size (.slice u1 M.length u3) M ∧ OwnBs w' W2.heap.size (.slice u4 (cB B ⟨5, nm, ⟨kn, ko, kf, .slice ao lo1 co, .slice af lf1 cf⟩, ⟨bn, bf, bt, mn, mx⟩, ⟨fn, ft, fm, fk⟩, vt, vn, vs, tn⟩).length u6) (cB B ⟨5, nm, ⟨kn, ko, kf, .slice ao lo1 co, .slice af lf1 cf⟩, ⟨bn, bf, bt, mn, mx⟩, ⟨fn, ft, fm, fk⟩, vt, vn, vs, tn⟩) ∧ Below W2.heap.size W2 w' := cd1.mono fun e w' ⟨uk, ub, M, he, hM, hk, ht, hB⟩ => by
    rw [HE.out.1] at he hM ht
    obtain ⟨u1, u3, rfl⟩ := own_slice hk.1
    obtain ⟨u4, u6, rfl⟩ := own_slice ht
    exact ⟨u1, u3, u4, u6, M, he, hM, hk, ht, hB⟩
  clear cd1
  go_wp2_with (first | (refine wpList_load_row rfl 37 (.tmp 3) rfl (w.heap.size + 1) rfl 37 _ (0, 0) _ HN.out Try.underlying37 rfl info37 ?_) | (go_at_call 4; refine hd.mono ?_; rintro e w3 ⟨u1, u3, u4, u6, M, rfl, hM, hk, ht, hB3⟩; refine Hid.out ?_))
  refine Lib.hid ?_
  go_upto_region 7 with fail
  obtain ⟨W4, hW4⟩ : ∃ W4, W4 = w3.alloc (.cells #[.slice u1 M.length u3, .slice u4 (cB B ⟨5, nm, ⟨kn, ko, kf, .slice ao lo1 co, .slice af lf1 cf⟩, ⟨bn, bf, bt, mn, mx⟩, ⟨fn, ft, fm, fk⟩, vt, vn, vs, tn⟩).length u6] 25) := ⟨_, rfl⟩
  rw [← hW4]
  have hB34 : Below w3.heap.size w3 W4 := by rw [hW4]; exact b_alloc (Below.refl _ _) _
  have n4 : W4.heap[w3.heap.size]? = some (.cells #[.slice u1 M.length u3, .slice u4 (cB B ⟨5, nm, ⟨kn, ko, kf, .slice ao lo1 co, .slice af lf1 cf⟩, ⟨bn, bf, bt, mn, mx⟩, ⟨fn, ft, fm, fk⟩, vt, vn, vs, tn⟩).length u6] 25 (0, 0)) := by rw [hW4]; exact heap_alloc_new w3 _
  have hB4 := on1K hB2 (on1K hB3 hB34 (Nat.le_refl _)) (Nat.le_refl _)
  have hk4 := hk.kt (.of_below hB34) (.of_below hB34) (.of_below hB34)
  have ht4 : OwnBs W4 W2.heap.size (.slice u4 (cB B ⟨5, nm, ⟨kn, ko, kf, .slice ao lo1 co, .slice af lf1 cf⟩, ⟨bn, bf, bt, mn, mx⟩, ⟨fn, ft, fm, fk⟩, vt, vn, vs, tn⟩).length u6) (cB B ⟨5, nm, ⟨kn, ko, kf, .slice ao lo1 co, .slice af lf1 cf⟩, ⟨bn, bf, bt, mn, mx⟩, ⟨fn, ft, fm, fk⟩, vt, vn, vs, tn⟩) := own_kt ht (.of_below hB34)
  have z0 : W4.cell? ⟨w3.heap.size, 0, none⟩ = some (.slice u1 M.length u3) := cell_at n4 rfl
  have z1 : W4.cell? ⟨w3.heap.size, 1, none⟩ = some (.slice u4 (cB B ⟨5, nm, ⟨kn, ko, kf, .slice ao lo1 co, .slice af lf1 cf⟩, ⟨bn, bf, bt, mn, mx⟩, ⟨fn, ft, fm, fk⟩, vt, vn, vs, tn⟩).length u6) := cell_at n4 rfl
  have cs := scheck_any hk4.isK hk4.parts (SzK_kq hM.symm HE.out.2.1) ht4.isB HE.out.2.2.1
  rw [sErr_kq hM, HE.out.2.2.2, errV_0] at cs
  have HF : Hid (M.map kq3 = (cK L ⟨5, nm, ⟨kn, ko, kf, .slice ao lo1 co, .slice af lf1 cf⟩, ⟨bn, bf, bt, mn, mx⟩, ⟨fn, ft, fm, fk⟩, vt, vn, vs, tn⟩).map kq3 ∧ OwnKs W4 W2.heap.size (.slice u1 M.length u3) M ∧ OwnBs W4 W2.heap.size (.slice u4 (cB B ⟨5, nm, ⟨kn, ko, kf, .slice ao lo1 co, .slice af lf1 cf⟩, ⟨bn, bf, bt, mn, mx⟩, ⟨fn, ft, fm, fk⟩, vt, vn, vs, tn⟩).length u6) (cB B ⟨5, nm, ⟨kn, ko, kf, .slice ao lo1 co, .slice af lf1 cf⟩, ⟨bn, bf, bt, mn, mx⟩, ⟨fn, ft, fm, fk⟩, vt, vn, vs, tn⟩) ∧ W4.heap[w3.heap.size]? = some (.cells #[.slice u1 M.length u3, .slice u4 (cB B ⟨5, nm, ⟨kn, ko, kf, .slice ao lo1 co, .slice af lf1 cf⟩, ⟨bn, bf, bt, mn, mx⟩, ⟨fn, ft, fm, fk⟩, vt, vn, vs, tn⟩).length u6] 25 (0, 0))) := ⟨hM, hk4, ht4, n4⟩
  generalize (sErr (cK L ⟨5, nm, ⟨kn, ko, kf, .slice ao lo1 co, .slice af lf1 cf⟩, ⟨bn, bf, bt, mn, mx⟩, ⟨fn, ft, fm, fk⟩, vt, vn, vs, tn⟩) (cB B ⟨5, nm, ⟨kn, ko, kf, .slice ao lo1 co, .slice af lf1 cf⟩, ⟨bn, bf, bt, mn, mx⟩, ⟨fn, ft, fm, fk⟩, vt, vn, vs, tn⟩)).1 = zz at *
  clear hW4 hM hk ht hk4 ht4 n4 hd x0 x1 HN hB34 hB3
  have HB4 := Lib.hid hB4
  have HDw : Hid (∀ W, Below W0.heap.size W0 W → ∀ o, (W.alloc o).cell? ⟨w.heap.size + 1, 0, none⟩ = some (.int .i64 5) ∧ (W.alloc o).cell? ⟨w.heap.size + 1, 1, none⟩ = some (.string (bs nm)) ∧ (W.alloc o).cell? ⟨w.heap.size + 1, 2, none⟩ = some (.string (bs kn)) ∧ (W.alloc o).cell? ⟨w.heap.size + 1, 5, none⟩ = some (.string (bs bn)) ∧ (W.alloc o).cell? ⟨w.heap.size + 1, 10, none⟩ = some (.string (bs fn)) ∧ (W.alloc o).cell? ⟨w.heap.size + 1, 11, none⟩ = some (.int .i64 ft) ∧ (W.alloc o).cell? ⟨w.heap.size + 1, 12, none⟩ = some (.bool fm) ∧ (W.alloc o).cell? ⟨w.heap.size + 1, 13, none⟩ = some (.bool fk) ∧ (W.alloc o).cell? ⟨w.heap.size + 1, 17, none⟩ = some (.string (bs tn))) := fun W hbb o => by
    obtain ⟨_, _, y2, _⟩ := HX.out _ (on1K hbb (b_alloc (Below.refl _ W) o) (Nat.le_refl _))
    exact ⟨cell_at y2 rfl, cell_at y2 rfl, cell_at y2 rfl, cell_at y2 rfl, cell_at y2 rfl, cell_at y2 rfl, cell_at y2 rfl, cell_at y2 rfl, cell_at y2 rfl⟩
  have hone : (#[.int .i64 6, .string (bs bn), .string ⟨#[]⟩, .slice none 0 0, .slice none 0 0, .string ⟨#[]⟩, .string ⟨#[]⟩, .string ⟨#[]⟩, .int .i64 0, .int .i64 0, .string ⟨#[]⟩, .int .i64 0, .bool false, .bool false, .int .i64 0, .int .i64 0, .string ⟨#[]⟩, .string ⟨#[]⟩] : Array Value).all (·.oneCell') = true := by simp [Value.oneCell']
  go_wp2_with (first | (go_at_call 5; refine cs.mono ?_; rintro e w5 ⟨rfl, hB5⟩; refine Hid.out ?_))
  refine Lib.hid ?_
  obtain ⟨W6, hW6⟩ : ∃ W6, W6 = w5.alloc (.cells #[.int .i64 6, .string (bs bn), .string ⟨#[]⟩, .slice none 0 0, .slice none 0 0, .string ⟨#[]⟩, .string ⟨#[]⟩, .string ⟨#[]⟩, .int .i64 0, .int .i64 0, .string ⟨#[]⟩, .int .i64 0, .bool false, .bool false, .int .i64 0, .int .i64 0, .string ⟨#[]⟩, .string ⟨#[]⟩] 37) := ⟨_, rfl⟩
  have HW6 := Lib.hid hW6
  have hB56 : Below w5.heap.size w5 W6 := by rw [hW6]; exact b_alloc (Below.refl _ _) _
  have n6 : W6.heap[w5.heap.size]? = some (.cells #[.int .i64 6, .string (bs bn), .string ⟨#[]⟩, .slice none 0 0, .slice none 0 0, .string ⟨#[]⟩, .string ⟨#[]⟩, .string ⟨#[]⟩, .int .i64 0, .int .i64 0, .string ⟨#[]⟩, .int .i64 0, .bool false, .bool false, .int .i64 0, .int .i64 0, .string ⟨#[]⟩, .string ⟨#[]⟩] 37 (0, 0)) := by rw [hW6]; exact heap_alloc_new w5 _
  have hB46 := on1K hB5 hB56 (Nat.le_refl _)
  have hB6 := on1K HB4.out hB46 (Nat.le_refl _)
  obtain ⟨e0, e1, e2, e5, e10, e11, e12, e13, e17⟩ := HDw.out w5 (on1K HB4.out hB5 (Nat.le_refl _)) (.cells #[.int .i64 0, .string ⟨#[]⟩, .string ⟨#[]⟩, .slice none 0 0, .slice none 0 0, .string ⟨#[]⟩, .string ⟨#[]⟩, .string ⟨#[]⟩, .int .i64 0, .int .i64 0, .string ⟨#[]⟩, .int .i64 0, .bool false, .bool false, .int .i64 0, .int .i64 0, .string ⟨#[]⟩, .string ⟨#[]⟩] 37)
  obtain ⟨hM, hk4, ht4, n4⟩ := HF.out
  have m4 := (hB46.block _ (Array.getElem?_eq_some_iff.1 n4).1).trans n4
  have z2 : W6.cell? ⟨w3.heap.size, 0, none⟩ = some (.slice u1 M.length u3) := cell_at m4 rfl
  have z3 : W6.cell? ⟨w3.heap.size, 1, none⟩ = some (.slice u4 (cB B ⟨5, nm, ⟨kn, ko, kf, .slice ao lo1 co, .slice af lf1 cf⟩, ⟨bn, bf, bt, mn, mx⟩, ⟨fn, ft, fm, fk⟩, vt, vn, vs, tn⟩).length u6) := cell_at m4 rfl
  have hk6 := hk4.kt (.of_below hB46) (.of_below hB46) (.of_below hB46)
  have ht6 : OwnBs W6 W2.heap.size (.slice u4 (cB B ⟨5, nm, ⟨kn, ko, kf, .slice ao lo1 co, .slice af lf1 cf⟩, ⟨bn, bf, bt, mn, mx⟩, ⟨fn, ft, fm, fk⟩, vt, vn, vs, tn⟩).length u6) (cB B ⟨5, nm, ⟨kn, ko, kf, .slice ao lo1 co, .slice af lf1 cf⟩, ⟨bn, bf, bt, mn, mx⟩, ⟨fn, ft, fm, fk⟩, vt, vn, vs, tn⟩) := own_kt ht4 (.of_below hB46)
  have cd2 := do_any (w := W6) ⟨6, bn, kd0, bd0, fd0, 0, 0, [], []⟩ hk6.isK hk6.parts (SzK_kq hM.symm HE.out.2.1) ht6.isB HE.out.2.2.1 ⟨.inl ⟨none, 0, rfl, rfl, by decide, fun _ => rfl⟩, .inl ⟨none, 0, rfl, rfl, by decide, fun _ => rfl⟩⟩ HS.out.2.2.2.2.2.2
  have hd2 : Calls Try.prog 4 #[.agg #[.slice u1 M.length u3, .slice u4 (cB B ⟨5, nm, ⟨kn, ko, kf, .slice ao lo1 co, .slice af lf1 cf⟩, ⟨bn, bf, bt, mn, mx⟩, ⟨fn, ft, fm, fk⟩, vt, vn, vs, tn⟩).length u6], .agg #[.int .i64 6, .string (bs bn), .string ⟨#[]⟩, .slice none 0 0, .slice none 0 0, .string ⟨#[]⟩, .string ⟨#[]⟩, .string ⟨#[]⟩, .int .i64 0, .int .i64 0, .string ⟨#[]⟩, .int .i64 0, .bool false, .bool false, .int .i64 0, .int .i64 0, .string ⟨#[]⟩, .string ⟨#[]⟩]] W6 fun e w' => ∃ a7 c7 a8 c8, ∃ M7 : List Kd, e = .returned (.tuple #[.agg #[.slice a7 M7.length c7, .slice a8 B.length c8], .nilIface]) ∧ ∀ W8, W8 = w'.alloc (.cells #[.slice a7 M7.length c7, .slice a8 B.length c8] 25) → W8.cell? ⟨w.heap.size, 0, none⟩ = some (.slice a1 L.length c1) ∧ W8.cell? ⟨w.heap.size, 1, none⟩ = some (.slice a2 B.length c2) ∧ Below w.heap.size w W8 ∧ Calls Try.prog 6 #[.agg #[.slice a7 M7.length c7, .slice a8 B.length c8], .agg #[.slice a1 L.length c1, .slice a2 B.length c2]] W8 fun e w' => e = .returned (.bool true) ∧ Below W8.heap.size W8 w' := by
    refine cd2.mono ?_
    rintro e w' ⟨uk, ub, M7, he, hM7, hk7, ht7, hB7⟩
    obtain ⟨j1, j2, j3⟩ := allA_kq hM (cB B ⟨5, nm, ⟨kn, ko, kf, .slice ao lo1 co, .slice af lf1 cf⟩, ⟨bn, bf, bt, mn, mx⟩, ⟨fn, ft, fm, fk⟩, vt, vn, vs, tn⟩) ⟨6, bn, kd0, bd0, fd0, 0, 0, [], []⟩
    rw [j1, HK2.out.1] at he
    rw [j2, HK2.out.1] at hM7
    rw [j3, HK2.out.1] at ht7
    obtain ⟨a7, c7, rfl⟩ := own_slice hk7.1
    obtain ⟨a8, c8, rfl⟩ := own_slice ht7
    refine ⟨a7, c7, a8, c8, M7, he, fun W8 hW8 => ?_⟩
    have hB78 : Below w'.heap.size w' W8 := by rw [hW8]; exact b_alloc (Below.refl _ _) _
    have hB8 := on1K hB6 (on1K hB7 hB78 (Nat.le_refl _)) (Nat.le_refl _)
    have hBw := on1K HBB.out hB8 (Nat.le_refl _)
    obtain ⟨s1, s2, s3, s4, s5, s6, _⟩ := HS.out
    obtain ⟨y0, y1, _, _⟩ := HX.out W8 hB8
    have hk8 := hk7.kt (.of_below hB78) (.of_below hB78) (.of_below hB78)
    have hq : M7.map kq3 = L.map kq3 := hM7.trans HK2.out.2
    have hlen : M7.length = L.length := by have := congrArg List.length hq; simpa using this
    refine ⟨y0, y1, hBw, ?_⟩
    exact schema_same hk8.isK hk8.parts (OwnBs.isB (own_kt ht7 (.of_below hB78))) (s1.on hBw) (s2.on hBw) (s3.on hBw) hq s5 (by omega) (fun k hk => by
      have hm : kq3 k ∈ M7.map kq3 := List.mem_map.2 ⟨k, hk, rfl⟩
      rw [hq] at hm
      obtain ⟨x, hx, e⟩ := List.mem_map.1 hm
      have e1 : x.of = k.of := congrArg (fun q => q.2.1) e
      have e2 : x.fs = k.fs := congrArg (fun q => q.2.2) e
      rw [← e1, ← e2]
      exact s6 x hx)
  have HN6 := Lib.hid n6
  clear hM hk4 ht4 n4 m4 hk6 ht6 cd2 n6 hW6 hB56 hB46 cs HF hB4 hB5
  go_wp2_with (first | (refine wpList_store_new rfl 37 (.tmp 11) (.tmp 64) rfl _ _ rfl rfl info37 rfl hone ?_; rw [← HW6.out]) | (refine wpList_load_row rfl 37 (.tmp 11) rfl w5.heap.size rfl 37 _ (0, 0) _ HN6.out Try.underlying37 rfl info37 ?_) | (go_at_call 4; refine hd2.mono ?_; rintro e w7 ⟨a7, c7, a8, c8, M7, rfl, hf⟩; obtain ⟨y0, y1, hB8, cS⟩ := hf _ rfl; have HB8 := Lib.hid hB8; clear hf hB8) | (go_at_call 6; refine cS.mono ?_; rintro e w9 ⟨rfl, hB9⟩))
  go_ret
  exact ⟨rfl, on1K HB8.out hB9 (Nat.le_refl _)⟩
end Go.Proofs.Ytkmkhadacppdnaa
