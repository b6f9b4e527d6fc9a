/-
  The walk of the law ChangeBack.
-/
import Derived.Test.YtkmkhadacppdnaaM21
import Derived.Test.YtkmkhadacppdnaaM09
namespace Go.Proofs.Ytkmkhadacppdnaa
open Go.RowKit
set_option linter.unusedVariables false
set_option linter.unusedSimpArgs false

theorem allA_kq {L M : List Kd} (h : M.map kq3 = L.map kq3) (B : List Bd) (c : Ch) : (allA M B [c]).1 = (allA L B [c]).1 ∧ (allA M B [c]).2.2.1.map kq3 = (allA L B [c]).2.2.1.map kq3 ∧ (allA M B [c]).2.2.2 = (allA L B [c]).2.2.2 := by
  rw [allA_one, allA_one, sErr_kq h, apE_kq h]
  split
  · split
    · exact ⟨rfl, cK_kq h c, rfl⟩
    · exact ⟨rfl, rfl, rfl⟩
  · exact ⟨rfl, rfl, rfl⟩
theorem bs_nil : bs [] = ⟨#[]⟩ := rfl
/-- The law's own fact: a kind that is added to nothing is there. -/
theorem fact_any (W : World) :
    Calls Try.prog 4 #[.agg #[.slice none 0 0, .slice none 0 0], .agg #[.int .i64 1, .string ⟨#[]⟩, .string ⟨#[97]⟩, .slice none 0 0, .slice none 0 0, .string ⟨#[]⟩, .string ⟨#[]⟩, .string ⟨#[]⟩, .int .i64 0, .int .i64 0, .string ⟨#[]⟩, .int .i64 0, .bool false, .bool false, .int .i64 0, .int .i64 0, .string ⟨#[]⟩, .string ⟨#[]⟩]] W fun e w' => ∃ g c a l' c', e = .returned (.tuple #[.agg #[.slice (some ⟨g, 0, none⟩) 1 c, .slice a l' c'], .nilIface]) ∧ (∀ o, (w'.alloc o).cell? ⟨g, 0, none⟩ = some (.string ⟨#[97]⟩)) ∧ Below W.heap.size W w' := by
  have hr : allA [] [] [(⟨1, [], ⟨[97], [], [], .slice none 0 0, .slice none 0 0⟩, bd0, fd0, 0, 0, [], []⟩ : Ch)] = (0, 0, [⟨[97], [], [], .slice none 0 0, .slice none 0 0⟩], []) := by rfl
  have h := do_any (w := W) (L := []) (B := []) (vk := .slice none 0 0) (vb := .slice none 0 0) ⟨1, [], ⟨[97], [], [], .slice none 0 0, .slice none 0 0⟩, bd0, fd0, 0, 0, [], []⟩ (.inl ⟨rfl, rfl⟩) (fun k hk => by cases hk) (fun k hk => by cases hk) (.inl ⟨rfl, rfl⟩) (fun k hk => by cases hk) ⟨.inl ⟨none, 0, rfl, rfl, by decide, fun _ => rfl⟩, .inl ⟨none, 0, rfl, rfl, by decide, fun _ => rfl⟩⟩ ⟨⟨by decide, fun f hf => by cases hf⟩, ⟨by decide, by decide⟩, by decide, by decide, by decide, by decide⟩
  rw [hr] at h
  refine Calls.mono h ?_
  rintro e w' ⟨uk, ub, M, rfl, hM, hK, hT, hB⟩
  obtain ⟨k', rfl⟩ : ∃ k', M = [k'] := by
    have hl := congrArg List.length hM
    simp only [List.length_map, List.length_singleton] at hl
    match M, hl with
    | [k'], _ => exact ⟨k', rfl⟩
  have hn : k'.nm = [97] := by
    have : (kq3 k').1 = [97] := by
      have h0 := congrArg (fun l => (l.head?).map (fun q => q.1)) hM
      simpa [kq3] using h0
    exact this
  obtain ⟨g, c, rfl⟩ := hK.at (by simp)
  obtain ⟨a, c', rfl⟩ := own_slice hT
  refine ⟨g, c, a, _, c', rfl, fun o => ?_, hB⟩
  have h1 := World.ownsRow.cells (own_kt hK.1 (Kt.of_below (t := 29) (b_alloc (Below.refl _ w') o))) (g := g) rfl 0 (.string (bs k'.nm)) rfl
  rw [Addr.add_lit, hn] at h1
  exact h1
set_option maxHeartbeats 8000000 in
set_option maxRecDepth 100000 in
theorem back_no {w : World} {vk vb : Value} {L : List Kd} {B : List Bd} (c : Ch) (hK : IsK w vk L) (hP : Parts w L) (hz : SzK L) (hb : IsB w vb B) (hzb : SzB B) (hc : ChIs w c) (hcz : ChSz c) (hr : ¬ (allA L B [c]).1 = 0) (hw : True) :
    Calls Try.prog 3 #[.agg #[vk, vb], c.one] w fun e w' => e = .returned (.bool true) ∧ Below w.heap.size w w' := by
  obtain ⟨a1, c1, rfl, _⟩ := hK.sln
  obtain ⟨a2, c2, rfl, _⟩ := hb.sln
  obtain ⟨wh, nm, ⟨kn, ko, kf, vo, vf⟩, ⟨bn, bf, bt, mn, mx⟩, ⟨fn, ft, fm, fk⟩, vt, vn, vs, tn⟩ := c
  obtain ⟨ao, lo1, co, q1⟩ := hc.1.sl
  obtain ⟨af, lf1, cf, q2⟩ := hc.2.sl
  simp only at q1 q2 hr hw
  subst q1 q2
  obtain ⟨W0, hW0⟩ : ∃ W0, W0 = (w.alloc (.cells #[.slice a1 L.length c1, .slice a2 B.length c2] 25)).alloc (.cells #[.int .i64 wh, .string (bs nm), .string (bs kn), .slice ao lo1 co, .slice af lf1 cf, .string (bs bn), .string (bs bf), .string (bs bt), .int .i64 mn, .int .i64 mx, .string (bs fn), .int .i64 ft, .bool fm, .bool fk, .int .i64 vt, .int .i64 vn, .string (bs vs), .string (bs tn)] 37) := ⟨_, rfl⟩
  have hB0 : Below w.heap.size w W0 := by rw [hW0]; exact b_alloc (b_alloc (Below.refl _ _) _) _
  have hs0 : W0.heap.size = w.heap.size + 2 := by rw [hW0]; simp
  have n0 : W0.heap[w.heap.size]? = some (.cells #[.slice a1 L.length c1, .slice a2 B.length c2] 25 (0, 0)) := by rw [hW0]; exact (heap_alloc_old _ _ (by simp)).trans (heap_alloc_new w _)
  have n1 : W0.heap[w.heap.size + 1]? = some (.cells #[.int .i64 wh, .string (bs nm), .string (bs kn), .slice ao lo1 co, .slice af lf1 cf, .string (bs bn), .string (bs bf), .string (bs bt), .int .i64 mn, .int .i64 mx, .string (bs fn), .int .i64 ft, .bool fm, .bool fk, .int .i64 vt, .int .i64 vn, .string (bs vs), .string (bs tn)] 37 (0, 0)) := by
    have := heap_alloc_new (w.alloc (.cells #[.slice a1 L.length c1, .slice a2 B.length c2] 25)) (.cells #[.int .i64 wh, .string (bs nm), .string (bs kn), .slice ao lo1 co, .slice af lf1 cf, .string (bs bn), .string (bs bf), .string (bs bt), .int .i64 mn, .int .i64 mx, .string (bs fn), .int .i64 ft, .bool fm, .bool fk, .int .i64 vt, .int .i64 vn, .string (bs vs), .string (bs tn)] 37)
    rw [World.size_alloc] at this; rw [hW0]; exact this
  have HX : Hid (∀ W, Below W0.heap.size W0 W → W.cell? ⟨w.heap.size, 0, none⟩ = some (.slice a1 L.length c1) ∧ W.cell? ⟨w.heap.size, 1, none⟩ = some (.slice a2 B.length c2) ∧ W.heap[w.heap.size + 1]? = some (.cells #[.int .i64 wh, .string (bs nm), .string (bs kn), .slice ao lo1 co, .slice af lf1 cf, .string (bs bn), .string (bs bf), .string (bs bt), .int .i64 mn, .int .i64 mx, .string (bs fn), .int .i64 ft, .bool fm, .bool fk, .int .i64 vt, .int .i64 vn, .string (bs vs), .string (bs tn)] 37 (0, 0)) ∧ w.heap.size + 1 < W.heap.size) := fun W hbb => by
    have hsz := hbb.size
    exact ⟨cell_at ((hbb.block _ (by omega)).trans n0) rfl, cell_at ((hbb.block _ (by omega)).trans n0) rfl, (hbb.block _ (by omega)).trans n1, by omega⟩
  have HD1 : Hid (∀ W, Below W0.heap.size W0 W → Calls Try.prog 4 #[.agg #[.slice a1 L.length c1, .slice a2 B.length c2], .agg #[.int .i64 wh, .string (bs nm), .string (bs kn), .slice ao lo1 co, .slice af lf1 cf, .string (bs bn), .string (bs bf), .string (bs bt), .int .i64 mn, .int .i64 mx, .string (bs fn), .int .i64 ft, .bool fm, .bool fk, .int .i64 vt, .int .i64 vn, .string (bs vs), .string (bs tn)]] W (DoP W (allA L B [⟨wh, nm, ⟨kn, ko, kf, .slice ao lo1 co, .slice af lf1 cf⟩, ⟨bn, bf, bt, mn, mx⟩, ⟨fn, ft, fm, fk⟩, vt, vn, vs, tn⟩]))) := fun W hbb => by
    have hbw := on1K hB0 hbb (Nat.le_refl _)
    exact do_any ⟨wh, nm, ⟨kn, ko, kf, .slice ao lo1 co, .slice af lf1 cf⟩, ⟨bn, bf, bt, mn, mx⟩, ⟨fn, ft, fm, fk⟩, vt, vn, vs, tn⟩ (hK.on hbw) (hP.on hbw) hz (hb.on hbw) hzb (hc.on hbw) hcz
  have HBB := Lib.hid hB0
  have HR := Lib.hid hr
  generalize allA L B [⟨wh, nm, ⟨kn, ko, kf, .slice ao lo1 co, .slice af lf1 cf⟩, ⟨bn, bf, bt, mn, mx⟩, ⟨fn, ft, fm, fk⟩, vt, vn, vs, tn⟩] = r at *
  clear hK hP hb hz hzb n0 n1 hB0 hc hcz hs0 hr
  go_enter Try.func3, Try.ntmps3
  go_upto_region 1 with fail
  rw [← hW0]
  clear hW0
  go_wp2_with (first | (go_at_call 4; refine (fact_any W0).mono ?_; rintro e w1 ⟨g, cg, ag, lg, cg', rfl, hfc, hB1⟩; refine Hid.out ?_))
  refine Lib.hid ?_
  go_upto_region 4 with fail
  obtain ⟨W2, hW2⟩ : ∃ W2, W2 = w1.alloc (.cells #[.slice (some ⟨g, 0, none⟩) 1 cg, .slice ag lg cg'] 25) := ⟨_, rfl⟩
  rw [← hW2]
  have hB2 : Below W0.heap.size W0 W2 := by rw [hW2]; exact on1K hB1 (b_alloc (Below.refl _ _) _) (Nat.le_refl _)
  clear hW2 hfc
  obtain ⟨x0, x1, x2, x3⟩ := HX.out W2 hB2
  have HN := Lib.hid x2
  clear x2
  have cd1 := HD1.out W2 hB2
  have hd : Calls Try.prog 4 _ W2 fun e w' => ∃ u1 u2 u3 u4 u5 u6, e = .returned (.tuple #[.agg #[.slice u1 u2 u3, .slice u4 u5 u6], .iface 50 (.int .i64 r.1)]) ∧ Below W2.heap.size W2 w' := cd1.mono fun e w' ⟨uk, ub, M, he, hM, hk, ht, hB⟩ => by
    obtain ⟨u1, u3, e1⟩ := own_slice hk.1
    obtain ⟨u4, u6, e2⟩ := own_slice ht
    exact ⟨u1, _, u3, u4, _, u6, by rw [he, e1, e2, errV_ne HR.out], hB⟩
  clear cd1
  go_wp2_with (first | (refine wpList_load_row rfl 37 (.tmp 3) rfl (w.heap.size + 1) rfl 37 _ (0, 0) _ HN.out Try.underlying37 rfl info37 ?_) | (go_at_call 4; refine hd.mono ?_; rintro e w3 ⟨u1, u2, u3, u4, u5, u6, rfl, hB3⟩))
  go_ret
  exact ⟨rfl, on1K HBB.out (on1K hB2 (on1K hB3 (b_alloc (Below.refl _ _) _) (Nat.le_refl _)) (Nat.le_refl _)) (Nat.le_refl _)⟩
set_option maxHeartbeats 8000000 in
set_option maxRecDepth 100000 in
theorem back_other {w : World} {vk vb : Value} {L : List Kd} {B : List Bd} (c : Ch) (hK : IsK w vk L) (hP : Parts w L) (hz : SzK L) (hb : IsB w vb B) (hzb : SzB B) (hc : ChIs w c) (hcz : ChSz c) (hr : (allA L B [c]).1 = 0) (hw : ¬ c.wh = 1 ∧ ¬ c.wh = 5 ∧ ¬ c.wh = 3 ∧ ¬ c.wh = 7) :
    Calls Try.prog 3 #[.agg #[vk, vb], c.one] w fun e w' => e = .returned (.bool true) ∧ Below w.heap.size w w' := by
  obtain ⟨a1, c1, rfl, _⟩ := hK.sln
  obtain ⟨a2, c2, rfl, _⟩ := hb.sln
  obtain ⟨wh, nm, ⟨kn, ko, kf, vo, vf⟩, ⟨bn, bf, bt, mn, mx⟩, ⟨fn, ft, fm, fk⟩, vt, vn, vs, tn⟩ := c
  obtain ⟨ao, lo1, co, q1⟩ := hc.1.sl
  obtain ⟨af, lf1, cf, q2⟩ := hc.2.sl
  simp only at q1 q2 hr hw
  subst q1 q2
  obtain ⟨W0, hW0⟩ : ∃ W0, W0 = (w.alloc (.cells #[.slice a1 L.length c1, .slice a2 B.length c2] 25)).alloc (.cells #[.int .i64 wh, .string (bs nm), .string (bs kn), .slice ao lo1 co, .slice af lf1 cf, .string (bs bn), .string (bs bf), .string (bs bt), .int .i64 mn, .int .i64 mx, .string (bs fn), .int .i64 ft, .bool fm, .bool fk, .int .i64 vt, .int .i64 vn, .string (bs vs), .string (bs tn)] 37) := ⟨_, rfl⟩
  have hB0 : Below w.heap.size w W0 := by rw [hW0]; exact b_alloc (b_alloc (Below.refl _ _) _) _
  have hs0 : W0.heap.size = w.heap.size + 2 := by rw [hW0]; simp
  have n0 : W0.heap[w.heap.size]? = some (.cells #[.slice a1 L.length c1, .slice a2 B.length c2] 25 (0, 0)) := by rw [hW0]; exact (heap_alloc_old _ _ (by simp)).trans (heap_alloc_new w _)
  have n1 : W0.heap[w.heap.size + 1]? = some (.cells #[.int .i64 wh, .string (bs nm), .string (bs kn), .slice ao lo1 co, .slice af lf1 cf, .string (bs bn), .string (bs bf), .string (bs bt), .int .i64 mn, .int .i64 mx, .string (bs fn), .int .i64 ft, .bool fm, .bool fk, .int .i64 vt, .int .i64 vn, .string (bs vs), .string (bs tn)] 37 (0, 0)) := by
    have := heap_alloc_new (w.alloc (.cells #[.slice a1 L.length c1, .slice a2 B.length c2] 25)) (.cells #[.int .i64 wh, .string (bs nm), .string (bs kn), .slice ao lo1 co, .slice af lf1 cf, .string (bs bn), .string (bs bf), .string (bs bt), .int .i64 mn, .int .i64 mx, .string (bs fn), .int .i64 ft, .bool fm, .bool fk, .int .i64 vt, .int .i64 vn, .string (bs vs), .string (bs tn)] 37)
    rw [World.size_alloc] at this; rw [hW0]; exact this
  have HX : Hid (∀ W, Below W0.heap.size W0 W → W.cell? ⟨w.heap.size, 0, none⟩ = some (.slice a1 L.length c1) ∧ W.cell? ⟨w.heap.size, 1, none⟩ = some (.slice a2 B.length c2) ∧ W.heap[w.heap.size + 1]? = some (.cells #[.int .i64 wh, .string (bs nm), .string (bs kn), .slice ao lo1 co, .slice af lf1 cf, .string (bs bn), .string (bs bf), .string (bs bt), .int .i64 mn, .int .i64 mx, .string (bs fn), .int .i64 ft, .bool fm, .bool fk, .int .i64 vt, .int .i64 vn, .string (bs vs), .string (bs tn)] 37 (0, 0)) ∧ w.heap.size + 1 < W.heap.size) := fun W hbb => by
    have hsz := hbb.size
    exact ⟨cell_at ((hbb.block _ (by omega)).trans n0) rfl, cell_at ((hbb.block _ (by omega)).trans n0) rfl, (hbb.block _ (by omega)).trans n1, by omega⟩
  have HD1 : Hid (∀ W, Below W0.heap.size W0 W → Calls Try.prog 4 #[.agg #[.slice a1 L.length c1, .slice a2 B.length c2], .agg #[.int .i64 wh, .string (bs nm), .string (bs kn), .slice ao lo1 co, .slice af lf1 cf, .string (bs bn), .string (bs bf), .string (bs bt), .int .i64 mn, .int .i64 mx, .string (bs fn), .int .i64 ft, .bool fm, .bool fk, .int .i64 vt, .int .i64 vn, .string (bs vs), .string (bs tn)]] W (DoP W (allA L B [⟨wh, nm, ⟨kn, ko, kf, .slice ao lo1 co, .slice af lf1 cf⟩, ⟨bn, bf, bt, mn, mx⟩, ⟨fn, ft, fm, fk⟩, vt, vn, vs, tn⟩]))) := fun W hbb => by
    have hbw := on1K hB0 hbb (Nat.le_refl _)
    exact do_any ⟨wh, nm, ⟨kn, ko, kf, .slice ao lo1 co, .slice af lf1 cf⟩, ⟨bn, bf, bt, mn, mx⟩, ⟨fn, ft, fm, fk⟩, vt, vn, vs, tn⟩ (hK.on hbw) (hP.on hbw) hz (hb.on hbw) hzb (hc.on hbw) hcz
  have HBB := Lib.hid hB0
  have HE : Hid (allA L B [⟨wh, nm, ⟨kn, ko, kf, .slice ao lo1 co, .slice af lf1 cf⟩, ⟨bn, bf, bt, mn, mx⟩, ⟨fn, ft, fm, fk⟩, vt, vn, vs, tn⟩] = (0, 0, cK L ⟨wh, nm, ⟨kn, ko, kf, .slice ao lo1 co, .slice af lf1 cf⟩, ⟨bn, bf, bt, mn, mx⟩, ⟨fn, ft, fm, fk⟩, vt, vn, vs, tn⟩, cB B ⟨wh, nm, ⟨kn, ko, kf, .slice ao lo1 co, .slice af lf1 cf⟩, ⟨bn, bf, bt, mn, mx⟩, ⟨fn, ft, fm, fk⟩, vt, vn, vs, tn⟩) ∧ SzK (cK L ⟨wh, nm, ⟨kn, ko, kf, .slice ao lo1 co, .slice af lf1 cf⟩, ⟨bn, bf, bt, mn, mx⟩, ⟨fn, ft, fm, fk⟩, vt, vn, vs, tn⟩) ∧ SzB (cB B ⟨wh, nm, ⟨kn, ko, kf, .slice ao lo1 co, .slice af lf1 cf⟩, ⟨bn, bf, bt, mn, mx⟩, ⟨fn, ft, fm, fk⟩, vt, vn, vs, tn⟩) ∧ (sErr (cK L ⟨wh, nm, ⟨kn, ko, kf, .slice ao lo1 co, .slice af lf1 cf⟩, ⟨bn, bf, bt, mn, mx⟩, ⟨fn, ft, fm, fk⟩, vt, vn, vs, tn⟩) (cB B ⟨wh, nm, ⟨kn, ko, kf, .slice ao lo1 co, .slice af lf1 cf⟩, ⟨bn, bf, bt, mn, mx⟩, ⟨fn, ft, fm, fk⟩, vt, vn, vs, tn⟩)).2 = 0) := by
    obtain ⟨h1, h2, h3⟩ := one_yes hr
    obtain ⟨g1, g2, _⟩ := sErr_good.1 h1
    exact ⟨h3, sz_cK (ksErr_good.1 g1).1.sz _ hcz, sz_cB g2.sz _ hcz, apE_right h2⟩
  obtain ⟨w1', w5', w3', w7'⟩ := hw
  have v1 : (wh == 1) = false := by simpa using w1'
  have v5 : (wh == 5) = false := by simpa using w5'
  have v3 : (wh == 3) = false := by simpa using w3'
  have v7 : (wh == 7) = false := by simpa using w7'
  clear hK hP hb hz hzb n0 n1 hB0 hc hcz hs0 hr w1' w5' w3' w7'
  go_enter Try.func3, Try.ntmps3
  go_upto_region 1 with fail
  rw [← hW0]
  clear hW0
  go_wp2_with (first | (go_at_call 4; refine (fact_any W0).mono ?_; rintro e w1 ⟨g, cg, ag, lg, cg', rfl, hfc, hB1⟩; refine Hid.out ?_))
  refine Lib.hid ?_
  go_upto_region 4 with fail
  obtain ⟨W2, hW2⟩ : ∃ W2, W2 = w1.alloc (.cells #[.slice (some ⟨g, 0, none⟩) 1 cg, .slice ag lg cg'] 25) := ⟨_, rfl⟩
  rw [← hW2]
  have hB2 : Below W0.heap.size W0 W2 := by rw [hW2]; exact on1K hB1 (b_alloc (Below.refl _ _) _) (Nat.le_refl _)
  clear hW2 hfc
  obtain ⟨x0, x1, x2, x3⟩ := HX.out W2 hB2
  have HN := Lib.hid x2
  clear x2
  have cd1 := HD1.out W2 hB2
  have hd : Calls Try.prog 4 _ W2 fun e w' => ∃ u1 u3 u4 u6 M, e = .returned (.tuple #[.agg #[.slice u1 M.length u3, .slice u4 (cB B ⟨wh, nm, ⟨kn, ko, kf, .slice ao lo1 co, .slice af lf1 cf⟩, ⟨bn, bf, bt, mn, mx⟩, ⟨fn, ft, fm, fk⟩, vt, vn, vs, tn⟩).length u6], .nilIface]) ∧ M.map kq3 = (cK L ⟨wh, nm, ⟨kn, ko, kf, .slice ao lo1 co, .slice af lf1 cf⟩, ⟨bn, bf, bt, mn, mx⟩, ⟨fn, ft, fm, fk⟩, vt, vn, vs, tn⟩).map kq3 ∧ OwnKs w' W2.heap.size (.slice u1 M.length u3) M ∧ OwnBs w' W2.heap.size (.slice u4 (cB B ⟨wh, nm, ⟨kn, ko, kf, .slice ao lo1 co, .slice af lf1 cf⟩, ⟨bn, bf, bt, mn, mx⟩, ⟨fn, ft, fm, fk⟩, vt, vn, vs, tn⟩).length u6) (cB B ⟨wh, nm, ⟨kn, ko, kf, .slice ao lo1 co, .slice af lf1 cf⟩, ⟨bn, bf, bt, mn, mx⟩, ⟨fn, ft, fm, fk⟩, vt, vn, vs, tn⟩) ∧ Below W2.heap.size W2 w' := cd1.mono fun e w' ⟨uk, ub, M, he, hM, hk, ht, hB⟩ => by
    rw [HE.out.1] at he hM ht
    obtain ⟨u1, u3, rfl⟩ := own_slice hk.1
    obtain ⟨u4, u6, rfl⟩ := own_slice ht
    exact ⟨u1, u3, u4, u6, M, he, hM, hk, ht, hB⟩
  clear cd1
  go_wp2_with (first | (refine wpList_load_row rfl 37 (.tmp 3) rfl (w.heap.size + 1) rfl 37 _ (0, 0) _ HN.out Try.underlying37 rfl info37 ?_) | (go_at_call 4; refine hd.mono ?_; rintro e w3 ⟨u1, u3, u4, u6, M, rfl, hM, hk, ht, hB3⟩; refine Hid.out ?_))
  refine Lib.hid ?_
  go_upto_region 7 with fail
  obtain ⟨W4, hW4⟩ : ∃ W4, W4 = w3.alloc (.cells #[.slice u1 M.length u3, .slice u4 (cB B ⟨wh, nm, ⟨kn, ko, kf, .slice ao lo1 co, .slice af lf1 cf⟩, ⟨bn, bf, bt, mn, mx⟩, ⟨fn, ft, fm, fk⟩, vt, vn, vs, tn⟩).length u6] 25) := ⟨_, rfl⟩
  rw [← hW4]
  have hB34 : Below w3.heap.size w3 W4 := by rw [hW4]; exact b_alloc (Below.refl _ _) _
  have n4 : W4.heap[w3.heap.size]? = some (.cells #[.slice u1 M.length u3, .slice u4 (cB B ⟨wh, nm, ⟨kn, ko, kf, .slice ao lo1 co, .slice af lf1 cf⟩, ⟨bn, bf, bt, mn, mx⟩, ⟨fn, ft, fm, fk⟩, vt, vn, vs, tn⟩).length u6] 25 (0, 0)) := by rw [hW4]; exact heap_alloc_new w3 _
  have hB4 := on1K hB2 (on1K hB3 hB34 (Nat.le_refl _)) (Nat.le_refl _)
  have hk4 := hk.kt (.of_below hB34) (.of_below hB34) (.of_below hB34)
  have ht4 : OwnBs W4 W2.heap.size (.slice u4 (cB B ⟨wh, nm, ⟨kn, ko, kf, .slice ao lo1 co, .slice af lf1 cf⟩, ⟨bn, bf, bt, mn, mx⟩, ⟨fn, ft, fm, fk⟩, vt, vn, vs, tn⟩).length u6) (cB B ⟨wh, nm, ⟨kn, ko, kf, .slice ao lo1 co, .slice af lf1 cf⟩, ⟨bn, bf, bt, mn, mx⟩, ⟨fn, ft, fm, fk⟩, vt, vn, vs, tn⟩) := own_kt ht (.of_below hB34)
  have z0 : W4.cell? ⟨w3.heap.size, 0, none⟩ = some (.slice u1 M.length u3) := cell_at n4 rfl
  have z1 : W4.cell? ⟨w3.heap.size, 1, none⟩ = some (.slice u4 (cB B ⟨wh, nm, ⟨kn, ko, kf, .slice ao lo1 co, .slice af lf1 cf⟩, ⟨bn, bf, bt, mn, mx⟩, ⟨fn, ft, fm, fk⟩, vt, vn, vs, tn⟩).length u6) := cell_at n4 rfl
  have cs := scheck_any hk4.isK hk4.parts (SzK_kq hM.symm HE.out.2.1) ht4.isB HE.out.2.2.1
  rw [sErr_kq hM, HE.out.2.2.2, errV_0] at cs
  have HF : Hid (M.map kq3 = (cK L ⟨wh, nm, ⟨kn, ko, kf, .slice ao lo1 co, .slice af lf1 cf⟩, ⟨bn, bf, bt, mn, mx⟩, ⟨fn, ft, fm, fk⟩, vt, vn, vs, tn⟩).map kq3 ∧ OwnKs W4 W2.heap.size (.slice u1 M.length u3) M ∧ OwnBs W4 W2.heap.size (.slice u4 (cB B ⟨wh, nm, ⟨kn, ko, kf, .slice ao lo1 co, .slice af lf1 cf⟩, ⟨bn, bf, bt, mn, mx⟩, ⟨fn, ft, fm, fk⟩, vt, vn, vs, tn⟩).length u6) (cB B ⟨wh, nm, ⟨kn, ko, kf, .slice ao lo1 co, .slice af lf1 cf⟩, ⟨bn, bf, bt, mn, mx⟩, ⟨fn, ft, fm, fk⟩, vt, vn, vs, tn⟩) ∧ W4.heap[w3.heap.size]? = some (.cells #[.slice u1 M.length u3, .slice u4 (cB B ⟨wh, nm, ⟨kn, ko, kf, .slice ao lo1 co, .slice af lf1 cf⟩, ⟨bn, bf, bt, mn, mx⟩, ⟨fn, ft, fm, fk⟩, vt, vn, vs, tn⟩).length u6] 25 (0, 0))) := ⟨hM, hk4, ht4, n4⟩
  generalize (sErr (cK L ⟨wh, nm, ⟨kn, ko, kf, .slice ao lo1 co, .slice af lf1 cf⟩, ⟨bn, bf, bt, mn, mx⟩, ⟨fn, ft, fm, fk⟩, vt, vn, vs, tn⟩) (cB B ⟨wh, nm, ⟨kn, ko, kf, .slice ao lo1 co, .slice af lf1 cf⟩, ⟨bn, bf, bt, mn, mx⟩, ⟨fn, ft, fm, fk⟩, vt, vn, vs, tn⟩)).1 = zz at *
  clear hW4 hM hk ht hk4 ht4 n4 hd x0 x1 HN hB34 hB3
  have HB4 := Lib.hid hB4
  have HDw : Hid (∀ W, Below W4.heap.size W4 W → ∀ o, (W.alloc o).cell? ⟨w.heap.size + 1, 0, none⟩ = some (.int .i64 wh)) := fun W hbb o => by
    obtain ⟨_, _, y2, _⟩ := HX.out _ (on1K HB4.out (on1K hbb (b_alloc (Below.refl _ W) o) (Nat.le_refl _)) (Nat.le_refl _))
    exact cell_at y2 rfl
  go_wp2_with (first | (go_at_call 5; refine cs.mono ?_; rintro e w5 ⟨rfl, hB5⟩; have y0 := HDw.out w5 hB5))
  go_ret
  exact ⟨rfl, on1K HBB.out (on1K HB4.out (on1K hB5 (b_alloc (Below.refl _ _) _) (Nat.le_refl _)) (Nat.le_refl _)) (Nat.le_refl _)⟩
end Go.Proofs.Ytkmkhadacppdnaa
