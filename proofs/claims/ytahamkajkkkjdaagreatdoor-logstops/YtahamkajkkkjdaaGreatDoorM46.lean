import Derived.Test.YtahamkajkkkjdaaGreatDoorM45
import Derived.Test.YtahamkajkkkjdaaGreatDoorM24
import Derived.Test.YtahamkajkkkjdaaGreatDoorM44
import Derived.Test.YtahamkajkkkjdaaGreatDoorM22
import Derived.Test.YtahamkajkkkjdaaGreatDoorM42
namespace Go.Proofs.YtahamkajkkkjdaaGreatDoor
open Go.RowKit
set_option linter.unusedVariables false
set_option linter.unusedSimpArgs false
set_option maxHeartbeats 8000000 in
set_option maxRecDepth 100000 in
theorem wayOf_nil {w : World} {vk vb : Value} {L : List Kd} {B : List Bd} (c : Ch) (hK : IsK w vk L) (hP : Parts w L) (hz : SzK L) (hb : IsB w vb B) (hzb : SzB B) (hc : ChIs w c) (hcz : ChSz c) (h0 : doE L B c = 0) (ht : ∀ W, Calls Tryz.prog 135 #[c.one] W fun e w' => e = .returned .nilFunc ∧ Turns w' c .nilFunc ∧ Below W.heap.size W w') :
    Calls Tryz.prog 101 #[.agg #[vk, vb], c.one] w (WyP w L B c) := by
  have hd := fun W (h : Below w.heap.size w W) => do_yes c (hK.on h) (hP.on h) hz (hb.on h) hzb (hc.on h) hcz h0
  have hk := fun W (h : Below w.heap.size w W) => kinds_yes c (hK.on h) (hP.on h) hz (hb.on h) hzb (hc.on h) hcz h0
  obtain ⟨wh, nm, ⟨kn, ko, kf, vo, vf⟩, ⟨bn, bf, bt, mn, mx⟩, ⟨fnm, ft, fm, fk⟩, vt, vn, vs, tn⟩ := c
  obtain ⟨a1, c1, rfl, _⟩ := hK.sln
  obtain ⟨a2, c2, rfl, _⟩ := hb.sln
  obtain ⟨ao, lo1, co, q1⟩ := hc.1.sl
  obtain ⟨af, lf1, cf, q2⟩ := hc.2.sl
  simp only at q1 q2 hc hcz ht hd hk ⊢
  subst q1 q2
  obtain ⟨c0, hc0⟩ : ∃ c0 : Ch, c0 = ⟨wh, nm, ⟨kn, ko, kf, .slice ao lo1 co, .slice af lf1 cf⟩, ⟨bn, bf, bt, mn, mx⟩, ⟨fnm, ft, fm, fk⟩, vt, vn, vs, tn⟩ := ⟨_, rfl⟩
  have hwh : c0.wh = wh ∧ c0.nm = nm := by rw [hc0]; exact ⟨rfl, rfl⟩
  rw [← hc0] at hd hk ht ⊢
  rw [show c0.one = .agg #[.int .i64 wh, .string (bs nm), .string (bs kn), .slice ao lo1 co, .slice af lf1 cf, .string (bs bn), .string (bs bf), .string (bs bt), .int .i64 mn, .int .i64 mx, .string (bs fnm), .int .i64 ft, .bool fm, .bool fk, .int .i64 vt, .int .i64 vn, .string (bs vs), .string (bs tn)] from by rw [hc0]] at hd hk ht ⊢
  obtain ⟨W0, hW0⟩ : ∃ W0, W0 = ((w.alloc (.cells #[.slice a1 L.length c1, .slice a2 B.length c2] 34)).alloc (.cells #[.int .i64 wh, .string (bs nm), .string (bs kn), .slice ao lo1 co, .slice af lf1 cf, .string (bs bn), .string (bs bf), .string (bs bt), .int .i64 mn, .int .i64 mx, .string (bs fnm), .int .i64 ft, .bool fm, .bool fk, .int .i64 vt, .int .i64 vn, .string (bs vs), .string (bs tn)] 58)).alloc (.cells #[.slice none 0 0, .slice none 0 0, .slice none 0 0, .nilFunc, .string ⟨#[]⟩] 222) := ⟨_, rfl⟩
  have hB0 : Below w.heap.size w W0 := by rw [hW0]; exact b_alloc (b_alloc (b_alloc (Below.refl _ _) _) _) _
  have hz0 : W0.heap.size = w.heap.size + 3 := by rw [hW0]; simp
  have n0 : W0.heap[w.heap.size]? = some (.cells #[.slice a1 L.length c1, .slice a2 B.length c2] 34 (0, 0)) := by rw [hW0]; exact (heap_alloc_old _ _ (by simp; omega)).trans ((heap_alloc_old _ _ (by simp)).trans (heap_alloc_new w _))
  have n1 : W0.heap[w.heap.size + 1]? = some (.cells #[.int .i64 wh, .string (bs nm), .string (bs kn), .slice ao lo1 co, .slice af lf1 cf, .string (bs bn), .string (bs bf), .string (bs bt), .int .i64 mn, .int .i64 mx, .string (bs fnm), .int .i64 ft, .bool fm, .bool fk, .int .i64 vt, .int .i64 vn, .string (bs vs), .string (bs tn)] 58 (0, 0)) := by
    have := heap_alloc_new (w.alloc (.cells #[.slice a1 L.length c1, .slice a2 B.length c2] 34)) (.cells #[.int .i64 wh, .string (bs nm), .string (bs kn), .slice ao lo1 co, .slice af lf1 cf, .string (bs bn), .string (bs bf), .string (bs bt), .int .i64 mn, .int .i64 mx, .string (bs fnm), .int .i64 ft, .bool fm, .bool fk, .int .i64 vt, .int .i64 vn, .string (bs vs), .string (bs tn)] 58)
    rw [World.size_alloc] at this; rw [hW0]; exact (heap_alloc_old _ _ (by simp)).trans this
  have n2 : W0.heap[w.heap.size + 2]? = some (.cells #[.slice none 0 0, .slice none 0 0, .slice none 0 0, .nilFunc, .string ⟨#[]⟩] 222 (0, 0)) := by
    have := heap_alloc_new ((w.alloc (.cells #[.slice a1 L.length c1, .slice a2 B.length c2] 34)).alloc (.cells #[.int .i64 wh, .string (bs nm), .string (bs kn), .slice ao lo1 co, .slice af lf1 cf, .string (bs bn), .string (bs bf), .string (bs bt), .int .i64 mn, .int .i64 mx, .string (bs fnm), .int .i64 ft, .bool fm, .bool fk, .int .i64 vt, .int .i64 vn, .string (bs vs), .string (bs tn)] 58)) (.cells #[.slice none 0 0, .slice none 0 0, .slice none 0 0, .nilFunc, .string ⟨#[]⟩] 222)
    rw [World.size_alloc, World.size_alloc] at this; rw [hW0]; exact this
  have HX : Hid (∀ W, Below W0.heap.size W0 W → W.heap[w.heap.size]? = some (.cells #[.slice a1 L.length c1, .slice a2 B.length c2] 34 (0, 0)) ∧ W.heap[w.heap.size + 1]? = some (.cells #[.int .i64 wh, .string (bs nm), .string (bs kn), .slice ao lo1 co, .slice af lf1 cf, .string (bs bn), .string (bs bf), .string (bs bt), .int .i64 mn, .int .i64 mx, .string (bs fnm), .int .i64 ft, .bool fm, .bool fk, .int .i64 vt, .int .i64 vn, .string (bs vs), .string (bs tn)] 58 (0, 0)) ∧ W.heap[w.heap.size + 2]? = some (.cells #[.slice none 0 0, .slice none 0 0, .slice none 0 0, .nilFunc, .string ⟨#[]⟩] 222 (0, 0)) ∧ Below w.heap.size w W) := fun W h => ⟨(h.block _ (by omega)).trans n0, (h.block _ (by omega)).trans n1, (h.block _ (by omega)).trans n2, on1K hB0 h (Nat.le_refl _)⟩
  have s0 : W0.cell? ⟨w.heap.size, 0, none⟩ = some (.slice a1 L.length c1) := cell_at n0 rfl
  have s1 : W0.cell? ⟨w.heap.size, 1, none⟩ = some (.slice a2 B.length c2) := cell_at n0 rfl
  have HN := Lib.hid n1
  have cD := hd W0 hB0
  have HK := Lib.hid hk
  have HT := Lib.hid ht
  have HZ := Lib.hid hz0
  have HW := Lib.hid hwh
  clear hd hk ht hK hP hz hb hzb hc hcz n0 n1 n2 hB0 h0 hz0 hwh hc0
  have hst := fun (a : Addr) (W : World) => run_store Tryz.prog W a .nilFunc .plain rfl
  go_enter Tryz.func101, Tryz.ntmps101
  go_upto_region 1 with fail
  rw [← hW0]
  clear hW0
  go_upto_region 2 with (first | (refine wpList_load_row rfl 58 (.tmp 3) rfl (w.heap.size + 1) rfl 58 _ (0, 0) _ HN.out Tryz.underlying58 rfl info37 ?_) | (go_at_call 51; refine cD.mono ?_; rintro e W1 ⟨g1, g2, g3, g4, g5, g6, M, rfl, hM, hO, hOb, hB1⟩) | (refine wpList_store_new rfl 34 (.tmp 6) (.tmp 15) rfl _ _ rfl rfl info25u rfl rfl ?_))
  have hBa : Below W1.heap.size W1 (W1.alloc (.cells #[.slice g1 g2 g3, .slice g4 g5 g6] 34)) := b_alloc (Below.refl _ _) _
  have y3 : (W1.alloc (.cells #[.slice g1 g2 g3, .slice g4 g5 g6] 34)).heap[W1.heap.size]? = some (.cells #[.slice g1 g2 g3, .slice g4 g5 g6] 34 (0, 0)) := heap_alloc_new W1 _
  have hB2 := on1K hB1 hBa (Nat.le_refl _)
  have hlt : w.heap.size + 3 ≤ W1.heap.size := by have := hB1.size; rw [HZ.out] at this; exact this
  have HO : Hid (M.map kq3 = (cK L c0).map kq3 ∧ OwnKs (W1.alloc (.cells #[.slice g1 g2 g3, .slice g4 g5 g6] 34)) W0.heap.size (.slice g1 g2 g3) M ∧ OwnBs (W1.alloc (.cells #[.slice g1 g2 g3, .slice g4 g5 g6] 34)) W0.heap.size (.slice g4 g5 g6) (cB B c0)) := ⟨hM, hO.kt (.of_below hBa) (.of_below hBa) (.of_below hBa), own_kt hOb (.of_below hBa)⟩
  clear s0 s1 HN cD hM hO hOb hB1 hBa
  generalize hW2 : W1.alloc (.cells #[.slice g1 g2 g3, .slice g4 g5 g6] 34) = W2 at *
  clear hW2
  obtain ⟨m0, m1, m2, hBw⟩ := HX.out W2 hB2
  have s0 : W2.cell? ⟨w.heap.size, 0, none⟩ = some (.slice a1 L.length c1) := cell_at m0 rfl
  have s1 : W2.cell? ⟨w.heap.size, 1, none⟩ = some (.slice a2 B.length c2) := cell_at m0 rfl
  have HN := Lib.hid m1
  have cKk := HK.out W2 hBw
  generalize hpq : W1.heap.size = pq at *
  clear hpq
  have HM := Lib.hid (And.intro hB2 y3)
  clear m0 m1 m2 hBw hB2 y3 HK
  go_upto_region 5 with (first | (refine wpList_load_row rfl 58 (.tmp 3) rfl (w.heap.size + 1) rfl 58 _ (0, 0) _ HN.out Tryz.underlying58 rfl info37 ?_) | (go_at_call 134; refine cKk.mono ?_; rintro e W3 ⟨h1, h2, h3, rfl, hS, hB3⟩))
  have hB13 := on1K HM.out.1 hB3 (Nat.le_refl _)
  obtain ⟨m0, m1, m2, hBw⟩ := HX.out W3 hB13
  have y3 : W3.heap[pq]? = some (.cells #[.slice g1 g2 g3, .slice g4 g5 g6] 34 (0, 0)) := (hB3.block _ (Array.getElem?_eq_some_iff.1 HM.out.2).1).trans HM.out.2
  have hpl : pq < W3.heap.size := (Array.getElem?_eq_some_iff.1 y3).1
  clear s0 s1 HN cKk
  have t0 : W3.cell? ⟨pq, 0, none⟩ = some (.slice g1 g2 g3) := cell_at y3 rfl
  have t1 : W3.cell? ⟨pq, 1, none⟩ = some (.slice g4 g5 g6) := cell_at y3 rfl
  have d0 : W3.cell? ⟨w.heap.size + 1, 0, none⟩ = some (.int .i64 wh) := cell_at m1 rfl
  have d1 : W3.cell? ⟨w.heap.size + 1, 1, none⟩ = some (.string (bs nm)) := cell_at m1 rfl
  have d2 : W3.cell? ⟨w.heap.size + 1, 2, none⟩ = some (.string (bs kn)) := cell_at m1 rfl
  have d3 : W3.cell? ⟨w.heap.size + 1, 3, none⟩ = some (.slice ao lo1 co) := cell_at m1 rfl
  have d4 : W3.cell? ⟨w.heap.size + 1, 4, none⟩ = some (.slice af lf1 cf) := cell_at m1 rfl
  have d5 : W3.cell? ⟨w.heap.size + 1, 5, none⟩ = some (.string (bs bn)) := cell_at m1 rfl
  have d6 : W3.cell? ⟨w.heap.size + 1, 6, none⟩ = some (.string (bs bf)) := cell_at m1 rfl
  have d7 : W3.cell? ⟨w.heap.size + 1, 7, none⟩ = some (.string (bs bt)) := cell_at m1 rfl
  have d8 : W3.cell? ⟨w.heap.size + 1, 8, none⟩ = some (.int .i64 mn) := cell_at m1 rfl
  have d9 : W3.cell? ⟨w.heap.size + 1, 9, none⟩ = some (.int .i64 mx) := cell_at m1 rfl
  have d10 : W3.cell? ⟨w.heap.size + 1, 10, none⟩ = some (.string (bs fnm)) := cell_at m1 rfl
  have d11 : W3.cell? ⟨w.heap.size + 1, 11, none⟩ = some (.int .i64 ft) := cell_at m1 rfl
  have d12 : W3.cell? ⟨w.heap.size + 1, 12, none⟩ = some (.bool fm) := cell_at m1 rfl
  have d13 : W3.cell? ⟨w.heap.size + 1, 13, none⟩ = some (.bool fk) := cell_at m1 rfl
  have d14 : W3.cell? ⟨w.heap.size + 1, 14, none⟩ = some (.int .i64 vt) := cell_at m1 rfl
  have d15 : W3.cell? ⟨w.heap.size + 1, 15, none⟩ = some (.int .i64 vn) := cell_at m1 rfl
  have d16 : W3.cell? ⟨w.heap.size + 1, 16, none⟩ = some (.string (bs vs)) := cell_at m1 rfl
  have d17 : W3.cell? ⟨w.heap.size + 1, 17, none⟩ = some (.string (bs tn)) := cell_at m1 rfl
  have hsz : w.heap.size + 3 ≤ W3.heap.size := by omega
  have hn1 : ¬ w.heap.size + 1 = W3.heap.size := by omega
  have hn2 : ¬ pq = W3.heap.size := by omega
  have hn1' : ¬ W3.heap.size = w.heap.size + 1 := by omega
  have hn2' : ¬ W3.heap.size = pq := by omega
  have HP := Lib.hid (And.intro hB13 (And.intro hB3 hS))
  have HC : Hid (∀ W4, Below W3.heap.size W3 W4 → (W4.cell? ⟨pq, 0, none⟩ = some (.slice g1 g2 g3) ∧ W4.cell? ⟨pq, 1, none⟩ = some (.slice g4 g5 g6)) ∧ (W4.cell? ⟨w.heap.size + 1, 0, none⟩ = some (.int .i64 wh) ∧ W4.cell? ⟨w.heap.size + 1, 1, none⟩ = some (.string (bs nm)) ∧ W4.cell? ⟨w.heap.size + 1, 2, none⟩ = some (.string (bs kn)) ∧ W4.cell? ⟨w.heap.size + 1, 3, none⟩ = some (.slice ao lo1 co) ∧ W4.cell? ⟨w.heap.size + 1, 4, none⟩ = some (.slice af lf1 cf) ∧ W4.cell? ⟨w.heap.size + 1, 5, none⟩ = some (.string (bs bn)) ∧ W4.cell? ⟨w.heap.size + 1, 6, none⟩ = some (.string (bs bf)) ∧ W4.cell? ⟨w.heap.size + 1, 7, none⟩ = some (.string (bs bt)) ∧ W4.cell? ⟨w.heap.size + 1, 8, none⟩ = some (.int .i64 mn) ∧ W4.cell? ⟨w.heap.size + 1, 9, none⟩ = some (.int .i64 mx) ∧ W4.cell? ⟨w.heap.size + 1, 10, none⟩ = some (.string (bs fnm)) ∧ W4.cell? ⟨w.heap.size + 1, 11, none⟩ = some (.int .i64 ft) ∧ W4.cell? ⟨w.heap.size + 1, 12, none⟩ = some (.bool fm) ∧ W4.cell? ⟨w.heap.size + 1, 13, none⟩ = some (.bool fk) ∧ W4.cell? ⟨w.heap.size + 1, 14, none⟩ = some (.int .i64 vt) ∧ W4.cell? ⟨w.heap.size + 1, 15, none⟩ = some (.int .i64 vn) ∧ W4.cell? ⟨w.heap.size + 1, 16, none⟩ = some (.string (bs vs)) ∧ W4.cell? ⟨w.heap.size + 1, 17, none⟩ = some (.string (bs tn))) ∧ ¬ w.heap.size + 1 = W4.heap.size ∧ ¬ pq = W4.heap.size) := fun W4 h => by
    have k1 := (h.block _ (Array.getElem?_eq_some_iff.1 m1).1).trans m1
    have k3 := (h.block _ (Array.getElem?_eq_some_iff.1 y3).1).trans y3
    have := h.size
    exact ⟨⟨cell_at k3 rfl, cell_at k3 rfl⟩, ⟨cell_at k1 rfl, cell_at k1 rfl, cell_at k1 rfl, cell_at k1 rfl, cell_at k1 rfl, cell_at k1 rfl, cell_at k1 rfl, cell_at k1 rfl, cell_at k1 rfl, cell_at k1 rfl, cell_at k1 rfl, cell_at k1 rfl, cell_at k1 rfl, cell_at k1 rfl, cell_at k1 rfl, cell_at k1 rfl, cell_at k1 rfl, cell_at k1 rfl⟩, by omega, by omega⟩
  clear m0 m1 m2 hBw y3 hB13 hB3 hS
  go_cut [10] (fun s10 wx => ∃ q, s10 = .pointer (some ⟨q, 0, none⟩) ∧ wx.heap[q]? = some (.cells #[.slice g1 g2 g3, .slice g4 g5 g6, .slice h1 h2 h3, .nilFunc, .string ⟨#[]⟩] 222 (0, 0)) ∧ W3.heap.size ≤ q ∧ Below W3.heap.size W3 wx ∧ Turns wx c0 (.nilFunc))
  case first =>
    first | (go_region_held (fun w' => (w'.cell? ⟨pq, 0, none⟩ = some (.slice g1 g2 g3) ∧ w'.cell? ⟨pq, 1, none⟩ = some (.slice g4 g5 g6)) ∧ (w'.cell? ⟨w.heap.size + 1, 0, none⟩ = some (.int .i64 wh) ∧ w'.cell? ⟨w.heap.size + 1, 1, none⟩ = some (.string (bs nm)) ∧ w'.cell? ⟨w.heap.size + 1, 2, none⟩ = some (.string (bs kn)) ∧ w'.cell? ⟨w.heap.size + 1, 3, none⟩ = some (.slice ao lo1 co) ∧ w'.cell? ⟨w.heap.size + 1, 4, none⟩ = some (.slice af lf1 cf) ∧ w'.cell? ⟨w.heap.size + 1, 5, none⟩ = some (.string (bs bn)) ∧ w'.cell? ⟨w.heap.size + 1, 6, none⟩ = some (.string (bs bf)) ∧ w'.cell? ⟨w.heap.size + 1, 7, none⟩ = some (.string (bs bt)) ∧ w'.cell? ⟨w.heap.size + 1, 8, none⟩ = some (.int .i64 mn) ∧ w'.cell? ⟨w.heap.size + 1, 9, none⟩ = some (.int .i64 mx) ∧ w'.cell? ⟨w.heap.size + 1, 10, none⟩ = some (.string (bs fnm)) ∧ w'.cell? ⟨w.heap.size + 1, 11, none⟩ = some (.int .i64 ft) ∧ w'.cell? ⟨w.heap.size + 1, 12, none⟩ = some (.bool fm) ∧ w'.cell? ⟨w.heap.size + 1, 13, none⟩ = some (.bool fk) ∧ w'.cell? ⟨w.heap.size + 1, 14, none⟩ = some (.int .i64 vt) ∧ w'.cell? ⟨w.heap.size + 1, 15, none⟩ = some (.int .i64 vn) ∧ w'.cell? ⟨w.heap.size + 1, 16, none⟩ = some (.string (bs vs)) ∧ w'.cell? ⟨w.heap.size + 1, 17, none⟩ = some (.string (bs tn)))) (go_keep) (first | (go_at_call 135; refine (HT.out _).mono ?_; rintro e W4 ⟨rfl, hTn, hB4'⟩; have hb4 : Hid (Below W3.heap.size W3 W4) := on1K (by first | exact (Below.refl _ W3).drew | exact b_alloc (Below.refl _ W3).drew _) hB4' (Nat.le_refl _); obtain ⟨⟨z0, z1⟩, ⟨z_0, z_1, z_2, z_3, z_4, z_5, z_6, z_7, z_8, z_9, z_10, z_11, z_12, z_13, z_14, z_15, z_16, z_17⟩, hn3, hn4⟩ := HC.out W4 hb4.out; (try (have kb : W4.heap[W3.heap.size]? = some (.cells #[.slice none 0 0, .slice none 0 0, .slice none 0 0, .nilFunc, .string ⟨#[]⟩] 222 (0, 0)) := (hB4'.block _ (by simp)).trans (heap_alloc_new W3.drew _); have yk0 : W4.cell? ⟨W3.heap.size, 0, none⟩ = some (.slice none 0 0) := cell_at kb rfl; have yk1 : W4.cell? ⟨W3.heap.size, 1, none⟩ = some (.slice none 0 0) := cell_at kb rfl; have yk2 : W4.cell? ⟨W3.heap.size, 2, none⟩ = some (.slice none 0 0) := cell_at kb rfl; have yk3 : W4.cell? ⟨W3.heap.size, 3, none⟩ = some .nilFunc := cell_at kb rfl; have yk4 : W4.cell? ⟨W3.heap.size, 4, none⟩ = some (.string ⟨#[]⟩) := cell_at kb rfl; have fk0 : W4.frozen? ⟨W3.heap.size, 0, none⟩ = false := frz_at kb; have fk1 : W4.frozen? ⟨W3.heap.size, 1, none⟩ = false := frz_at kb; have fk2 : W4.frozen? ⟨W3.heap.size, 2, none⟩ = false := frz_at kb; have fk3 : W4.frozen? ⟨W3.heap.size, 3, none⟩ = false := frz_at kb; have fk4 : W4.frozen? ⟨W3.heap.size, 4, none⟩ = false := frz_at kb; replace kb := Lib.hid kb)); have HTn := Lib.hid hTn; clear hTn hB4'))) | fail
    all_goals
      go_wp2
      go_meet
      first
      | exact ⟨_, rfl, set5_heap kb.out _ _ _ _ _, Nat.le_refl _, set5_below hb4.out (Nat.le_refl _) _ _ _ _ _, HTn.out.kt (set5_kt ⟨_, kb.out⟩ (by decide) _ _ _ _ _) (set5_kt ⟨_, kb.out⟩ (by decide) _ _ _ _ _)⟩
      | exact ⟨_, rfl, heap_alloc_new W4 _, hb4.out.size, b_alloc hb4.out _, HTn.out.on (b_alloc (Below.refl _ _) _)⟩
  case rest =>
    obtain ⟨q, rfl, hq, hqw, hBX, hTX⟩ := hcut
    clear HC
    generalize wc = WX at *
    clear d0 d1 d2 d3 d4 d5 d6 d7 d8 d9 d10 d11 d12 d13 d14 d15 d16 d17 t0 t1 hn1 hn2 hn1' hn2'
    obtain ⟨m0, m1, m2, hBw⟩ := HX.out WX (on1K HP.out.1 hBX (Nat.le_refl _))
    have hq2 : ¬ w.heap.size + 2 = q := by omega
    have HE : Hid (∀ WY dr, WY.heap[q]? = some (.cells #[.slice g1 g2 g3, .slice g4 g5 g6, .slice h1 h2 h3, .nilFunc, .string dr] 222 (0, 0)) → WY.heap[w.heap.size + 2]? = some (.cells #[.slice none 0 0, .slice none 0 0, .slice none 0 0, .nilFunc, .string ⟨#[]⟩] 222 (0, 0)) → (∀ t : TypeId, (222 : TypeId) ≠ t → Kt t WX WY) → Below w.heap.size w WY → dr = drp c0 → ((WY.cell? ⟨q, 0, none⟩ = some (.slice g1 g2 g3) ∧ WY.cell? ⟨q, 1, none⟩ = some (.slice g4 g5 g6) ∧ WY.cell? ⟨q, 2, none⟩ = some (.slice h1 h2 h3) ∧ WY.cell? ⟨q, 3, none⟩ = some (.nilFunc) ∧ WY.cell? ⟨q, 4, none⟩ = some (.string dr)) ∧ (WY.cell? ⟨w.heap.size + 2, 0, none⟩ = some (.slice none 0 0) ∧ WY.cell? ⟨w.heap.size + 2, 1, none⟩ = some (.slice none 0 0) ∧ WY.cell? ⟨w.heap.size + 2, 2, none⟩ = some (.slice none 0 0) ∧ WY.cell? ⟨w.heap.size + 2, 3, none⟩ = some .nilFunc ∧ WY.cell? ⟨w.heap.size + 2, 4, none⟩ = some (.string ⟨#[]⟩)) ∧ (WY.frozen? ⟨w.heap.size + 2, 0, none⟩ = false ∧ WY.frozen? ⟨w.heap.size + 2, 1, none⟩ = false ∧ WY.frozen? ⟨w.heap.size + 2, 2, none⟩ = false ∧ WY.frozen? ⟨w.heap.size + 2, 3, none⟩ = false ∧ WY.frozen? ⟨w.heap.size + 2, 4, none⟩ = false)) ∧ ∀ WZ, WZ = set5 WY (w.heap.size + 2) (.slice g1 g2 g3) (.slice g4 g5 g6) (.slice h1 h2 h3) (.nilFunc) (.string dr) → (WZ.cell? ⟨w.heap.size + 2, 0, none⟩ = some (.slice g1 g2 g3) ∧ WZ.cell? ⟨w.heap.size + 2, 1, none⟩ = some (.slice g4 g5 g6) ∧ WZ.cell? ⟨w.heap.size + 2, 2, none⟩ = some (.slice h1 h2 h3) ∧ WZ.cell? ⟨w.heap.size + 2, 3, none⟩ = some (.nilFunc) ∧ WZ.cell? ⟨w.heap.size + 2, 4, none⟩ = some (.string dr)) ∧ WyP w L B c0 (.returned (.tuple #[.agg #[.slice g1 g2 g3, .slice g4 g5 g6, .slice h1 h2 h3, .nilFunc, .string dr], .nilIface])) WZ) := fun WY dr hY hY2 kY bY hdr => by
      refine ⟨⟨⟨cell_at hY rfl, cell_at hY rfl, cell_at hY rfl, cell_at hY rfl, cell_at hY rfl⟩, ⟨cell_at hY2 rfl, cell_at hY2 rfl, cell_at hY2 rfl, cell_at hY2 rfl, cell_at hY2 rfl⟩, frz_at hY2, frz_at hY2, frz_at hY2, frz_at hY2, frz_at hY2⟩, fun WZ hWZ => ?_⟩
      have hZ := set5_heap hY2 (.slice g1 g2 g3) (.slice g4 g5 g6) (.slice h1 h2 h3) (.nilFunc) (.string dr)
      rw [← hWZ] at hZ
      have kk : ∀ t : TypeId, (222 : TypeId) ≠ t → Kt t WX WZ := fun t hne => (kY t hne).trans (by rw [hWZ]; exact set5_kt ⟨_, hY2⟩ hne _ _ _ _ _)
      have k3 : ∀ t : TypeId, (222 : TypeId) ≠ t → Kt t W3 WZ := fun t hne => (Kt.of_below hBX).trans (kk t hne)
      have k2 : ∀ t : TypeId, (222 : TypeId) ≠ t → Kt t W2 WZ := fun t hne => (Kt.of_below HP.out.2.1).trans (k3 t hne)
      have hw0 : w.heap.size ≤ W0.heap.size := by rw [HZ.out]; omega
      have hw2 : w.heap.size ≤ W2.heap.size := Nat.le_trans hw0 HM.out.1.size
      have zk := HO.out.2.1.kt (k2 30 (by decide)) (k2 9 (by decide)) (k2 56 (by decide))
      refine ⟨⟨cell_at hZ rfl, cell_at hZ rfl, cell_at hZ rfl, cell_at hZ rfl, cell_at hZ rfl⟩, _, _, _, _, M, by rw [hdr], HO.out.1, ⟨own_base zk.1 hw0, fun x hx => ⟨own_base (zk.2 x hx).1 hw0, own_base (zk.2 x hx).2 hw0⟩⟩, own_base (own_kt HO.out.2.2 (k2 54 (by decide))) hw0, own_base (own_kt HP.out.2.2 (k3 9 (by decide))) hw2, hTX.kt (kk 9 (by decide)) (kk 42 (by decide)), ?_⟩
      rw [hWZ]
      exact set5_below bY (by omega) _ _ _ _ _
    have x0 : WX.cell? ⟨w.heap.size + 1, 0, none⟩ = some (.int .i64 wh) := cell_at m1 rfl
    have x1 : WX.cell? ⟨w.heap.size + 1, 1, none⟩ = some (.string (bs nm)) := cell_at m1 rfl
    by_cases h6 : wh = 6
    · have hdr : bs nm = drp c0 := by unfold drp; rw [HW.out.1, HW.out.2, if_pos h6]
      have hX4 : WX.cell? ⟨q, 4, none⟩ = some (.string ⟨#[]⟩) := cell_at hq rfl
      have fX4 : WX.frozen? ⟨q, 4, none⟩ = false := frz_at hq
      have hY := heap_setCell_same WX q 4 _ 222 (.string (bs nm)) hq
      have hY2 := (heap_setCell_other WX ⟨q, 4, none⟩ (w.heap.size + 2) (.string (bs nm)) hq2).trans m2
      obtain ⟨⟨⟨a0, a1', a2', a3, a4⟩, ⟨r0, r1, r2, r3, r4⟩, f0, f1, f2, f3, f4⟩, hend⟩ := HE.out _ (bs nm) hY hY2 (fun t hne => (Kt.refl _ _).ty ⟨_, hq⟩ hne _ _) (hBw.setCell (by show _ ≤ q; omega) _) hdr
      obtain ⟨WY, hWY⟩ : ∃ WY, WY = WX.setCell ⟨q, 4, none⟩ (.string (bs nm)) := ⟨_, rfl⟩
      rw [← hWY] at a0 a1' a2' a3 a4 r0 r1 r2 r3 r4 f0 f1 f2 f3 f4 hend
      have HEND := Lib.hid hend
      subst h6
      clear hend HE m0 m1 m2 hBw hY hY2 hq hBX hTX HP HO HM HX HZ HW hdr
      go_upto_region 8 with fail
      rw [← hWY]
      clear hWY
      go_wp2
      obtain ⟨⟨z0', z1', z2', z3', z4'⟩, hw'⟩ := HEND.out _ rfl
      refine bodyPost_ret (v := .tuple #[.agg #[.slice g1 g2 g3, .slice g4 g5 g6, .slice h1 h2 h3, .nilFunc, .string (bs nm)], .nilIface]) ?_ rfl hw'
      simp [results, Tryz.results101, go_sem, z0', z1', z2', z3', z4']
    · have hdr : (⟨#[]⟩ : ByteArray) = drp c0 := by unfold drp; rw [HW.out.1, if_neg h6]
      obtain ⟨⟨⟨a0, a1', a2', a3, a4⟩, ⟨r0, r1, r2, r3, r4⟩, f0, f1, f2, f3, f4⟩, hend⟩ := HE.out WX _ hq m2 (fun t _ => Kt.refl _ _) hBw hdr
      have HEND := Lib.hid hend
      have b6 : (wh == 6) = false := by simpa using h6
      clear hend HE m0 m1 m2 hBw hq hBX hTX HP HO HM HX HZ HW hdr h6
      go_wp2
      obtain ⟨⟨z0', z1', z2', z3', z4'⟩, hw'⟩ := HEND.out _ rfl
      refine bodyPost_ret (v := .tuple #[.agg #[.slice g1 g2 g3, .slice g4 g5 g6, .slice h1 h2 h3, .nilFunc, .string ⟨#[]⟩], .nilIface]) ?_ rfl hw'
      simp [results, Tryz.results101, go_sem, z0', z1', z2', z3', z4']
theorem wayOf_ok {w : World} {vk vb : Value} {L : List Kd} {B : List Bd} (c : Ch) (hK : IsK w vk L) (hP : Parts w L) (hz : SzK L) (hb : IsB w vb B) (hzb : SzB B) (hc : ChIs w c) (hcz : ChSz c) (h0 : doE L B c = 0) :
    Calls Tryz.prog 101 #[.agg #[vk, vb], c.one] w (WyP w L B c) := by
  have hw : ¬ (c.wh = 3 ∨ c.wh = 4 ∨ c.wh = 7) := by have := hcz.wh1; omega
  refine wayOf_nil c hK hP hz hb hzb hc hcz h0 fun W => (turnOf_any c hcz.wh1 W hc.1.sl hc.2.sl).mono ?_
  rintro e w' ⟨fn, he, hT, hB⟩
  have hT' := hT
  rcases hT with ⟨x, _⟩ | ⟨x, _⟩ | ⟨x, _⟩ | ⟨_, _, _, e1⟩
  · omega
  · omega
  · omega
  · subst e1; exact ⟨he, hT', hB⟩
theorem conf_parts {L : List Kd} {B : List Bd} {N : List Nd} {T : List Te} (h : confB L B N T = true) : inE L B N T = 0 ∧ (sErr L B).2 = 0 ∧ gErr N T = 0 := by
  unfold confB at h
  rw [Bool.and_eq_true] at h
  have h1 : inE L B N T = 0 := of_decide_eq_true h.1
  by_cases hs : (sErr L B).2 = 0
  · exact ⟨h1, hs, by rw [← inE_g hs]; exact h1⟩
  · rw [inE_s hs] at h1; exact absurd h1 hs
theorem gErr_recs {N : List Nd} {T : List Te} (h : gErr N T = 0) : ∀ n ∈ N, rErr n.rc = 0 := fun n hn => by
  obtain ⟨o, ho⟩ := chkN_all N none (gErr_parts h).2.2.1 n hn
  exact (ndE_zero ho).2.2.2
theorem ndX_c (c : Ch) (K : List Nm) (n : Nd) : ndX c K n.c = ndX c K n := rfl
theorem map_ndT_c (c : Ch) (K : List Nm) (N : List Nd) : (cN N).map (ndT c K) = N.map (ndT c K) := by
  unfold cN
  rw [List.map_map]
  rfl
theorem allX_c (c : Ch) (K : List Nm) : ∀ N : List Nd, allX c K (cN N) = allX c K N
  | [] => rfl
  | n :: r => by
    show (if ndX c K n.c = 0 then allX c K (cN r) else ndX c K n.c) = _
    rw [ndX_c, allX_c c K r]
    rfl
theorem map_ndT_cc {N M : List Nd} (h : cN N = cN M) (c : Ch) (K : List Nm) : N.map (ndT c K) = M.map (ndT c K) := by rw [← map_ndT_c, h, map_ndT_c]
theorem allX_cc {N M : List Nd} (h : cN N = cN M) (c : Ch) (K : List Nm) : allX c K N = allX c K M := by rw [← allX_c, h, allX_c]
theorem cN_ndT (c : Ch) (K : List Nm) (N : List Nd) : cN (N.map (ndT c K)) = N.map (ndT c K) := by
  unfold cN
  rw [List.map_map]
  rfl
theorem rnR_len (L : List Pr) (o t : ByteArray) : (rnR L o t).length ≤ L.length + 1 := by
  unfold rnR
  split
  · omega
  · split
    · split
      · have := (ins_len ⟨t, (by assumption : Pr).t, (by assumption : Pr).n, (by assumption : Pr).s⟩ (L.eraseIdx (idxP o.toList L 0).toNat)).2
        have h2 := List.length_eraseIdx_le L (idxP o.toList L 0).toNat
        omega
      · omega
    · omega
theorem tnR_len (c : Ch) (L : List Pr) : (tnR c L).length ≤ L.length + 1 := by
  unfold tnR gvR
  split
  · split
    · omega
    · split
      · exact (ins_len _ _).2
      · omega
  · split
    · exact Nat.le_succ_of_le (List.length_filter_le _ _)
    · split
      · exact rnR_len _ _ _
      · omega
theorem ndY_len (c : Ch) (K : List Nm) (n : Nd) : (ndY c K n).length ≤ n.rc.length + 1 := by
  unfold ndY
  split
  · exact tnR_len _ _
  · omega
theorem Sz.filter {L : List Pr} (h : Sz L) (f : Pr → Bool) : Sz (L.filter f) := fun p hp => h p (List.mem_filter.1 hp).1
theorem rnR_sz {L : List Pr} (h : Sz L) (o t : ByteArray) (ht : t.size ≤ maxLen) : Sz (rnR L o t) := by
  unfold rnR
  split
  · exact h
  · split
    · split
      · rename_i p hp
        exact ins_sz (fun q hq => h q (List.mem_of_mem_eraseIdx hq)) (fun q hq => by
          rcases List.mem_cons.1 hq with rfl | hq
          · exact ⟨ht, (h p (List.mem_of_getElem? hp)).2⟩
          · cases hq)
      · exact h
    · exact h
theorem tnR_sz {c : Ch} {L : List Pr} (h : Sz L) (hp : Sz [c.pr]) (ht : (bs c.tn).size ≤ maxLen) : Sz (tnR c L) := by
  unfold tnR gvR
  split
  · split
    · exact h
    · split
      · exact ins_sz h hp
      · exact h
  · split
    · exact h.filter _
    · split
      · exact rnR_sz h _ _ ht
      · exact h
theorem szN_ndT {c : Ch} {K : List Nm} {N : List Nd} (h : SzN N) (hp : Sz [c.pr]) (ht : (bs c.tn).size ≤ maxLen) (hr : ∀ n ∈ N, rErr n.rc = 0) : SzN (N.map (ndT c K)) := fun x hx => by
  obtain ⟨n, hn, rfl⟩ := List.mem_map.1 hx
  obtain ⟨h1, h2, h3⟩ := h n hn
  refine ⟨h1, ?_, ?_⟩
  · show Sz (ndY c K n)
    unfold ndY
    split
    · exact tnR_sz h2 hp ht
    · exact h2
  · show (ndY c K n).length ≤ maxLen
    have := ndY_len c K n
    have := rErr_len (hr n hn)
    unfold maxLen
    omega
theorem ch_sz {c : Ch} (h : ChSz c) : Sz [c.pr] ∧ (bs c.tn).size ≤ maxLen := by
  obtain ⟨_, _, _, h1, h2, h3, _⟩ := h
  have sz : ∀ l : Nm, l.length ≤ maxLen → (bs l).size ≤ maxLen := fun l hl => by rw [bs_size]; exact hl
  refine ⟨fun q hq => ?_, sz _ h3⟩
  rcases List.mem_cons.1 hq with rfl | hq
  · exact ⟨sz _ h1, sz _ h2⟩
  · cases hq
theorem fit_kds (L : List Kd) (c : Ch) (hz : ChSz c) : Fit c (kdsA L c) := by
  unfold Fit kdsA
  exact ⟨if_neg (by have := hz.wh1; omega), hz.wh1⟩
theorem doE_yes {L : List Kd} {B : List Bd} {c : Ch} (h : doE L B c = 0) : (sErr L B).2 = 0 ∧ (sErr (cK L c) (cB B c)).2 = 0 := by
  unfold doE at h
  split at h
  · rename_i h0
    exact ⟨h0, apE_right h⟩
  · rename_i h0; exact absurd h h0
end Go.Proofs.YtahamkajkkkjdaaGreatDoor
