import Derived.Test.YtahamkajkkkjdaaGreatDoorM38
import Derived.Test.YtahamkajkkkjdaaGreatDoorM09
import Derived.Test.YtahamkajkkkjdaaGreatDoorM10
import Derived.Test.YtahamkajkkkjdaaGreatDoorM23
namespace Go.Proofs.YtahamkajkkkjdaaGreatDoor
open Go.RowKit
set_option linter.unusedVariables false
set_option linter.unusedSimpArgs false
set_option maxHeartbeats 4000000 in
set_option maxRecDepth 100000 in
theorem all_bad {w : World} {vk vb vl : Value} {L : List Kd} {B : List Bd} {l : List Ch} (hK : IsK w vk L) (hP : Parts w L) (hz : SzK L) (hb : IsB w vb B) (hzb : SzB B) (hl : IsC w vl l) (h40 : ¬ 40 < l.length) (hs : ¬ (sErr L B).2 = 0) :
    Calls Tryz.prog 74 #[.agg #[vk, vb], vl] w (AllP w ((sErr L B).2, 0, [], [])) := by
  obtain ⟨aol, cpl, rfl, hm, hLl⟩ := hl
  obtain ⟨a1, c1, rfl, _⟩ := hK.sln
  obtain ⟨a2, c2, rfl, _⟩ := hb.sln
  have h41 : ¬ (40 : Int) < (l.length : Int) := by omega
  obtain ⟨W1, hW1⟩ : ∃ W1, W1 = (w.alloc (.cells #[.slice a1 L.length c1, .slice a2 B.length c2] 34)).alloc (.cells #[.slice none 0 0, .slice none 0 0] 34) := ⟨_, rfl⟩
  have hB0 : Below w.heap.size w W1 := by rw [hW1]; exact b_alloc (b_alloc (Below.refl _ _) _) _
  have hs0 : W1.heap.size = w.heap.size + 2 := by rw [hW1]; simp
  have n0 : W1.heap[w.heap.size]? = some (.cells #[.slice a1 L.length c1, .slice a2 B.length c2] 34 (0, 0)) := by rw [hW1]; exact (heap_alloc_old _ _ (by simp)).trans (heap_alloc_new w _)
  have n1 : W1.heap[w.heap.size + 1]? = some (.cells #[.slice none 0 0, .slice none 0 0] 34 (0, 0)) := by
    have := heap_alloc_new (w.alloc (.cells #[.slice a1 L.length c1, .slice a2 B.length c2] 34)) (.cells #[.slice none 0 0, .slice none 0 0] 34)
    rw [World.size_alloc] at this; rw [hW1]; exact this
  have d0 : W1.cell? ⟨w.heap.size, 0, none⟩ = some (.slice a1 L.length c1) := cell_at n0 rfl
  have d1 : W1.cell? ⟨w.heap.size, 1, none⟩ = some (.slice a2 B.length c2) := cell_at n0 rfl
  have hsc := scheck_any (hK.on hB0) (hP.on hB0) hz (hb.on hB0) hzb
  unfold maxLen at hm
  rw [errV_ne hs] at hsc
  have HE := Lib.hid (errV_ne hs)
  have HN : Hid (∀ W, Below W1.heap.size W1 W → W.heap[w.heap.size + 1]? = some (.cells #[.slice none 0 0, .slice none 0 0] 34 (0, 0))) := fun W hb => (hb.block _ (by omega)).trans n1
  have HB0 := Lib.hid hB0
  generalize (sErr L B).2 = r at *
  generalize (sErr L B).1 = z at *
  clear hK hP hb hz hzb hLl n0 n1 hB0 hs
  go_enter Tryz.func74, Tryz.ntmps74
  go_upto_region 1 with fail
  rw [← hW1]
  clear hW1
  go_wp2_with (go_at_call 12; refine hsc.mono ?_; rintro e w2 ⟨rfl, hB2⟩; have nn := HN.out w2 hB2; have f0 : w2.cell? ⟨w.heap.size + 1, 0, none⟩ = some (.slice none 0 0) := cell_at nn rfl; have f1 : w2.cell? ⟨w.heap.size + 1, 1, none⟩ = some (.slice none 0 0) := cell_at nn rfl; have f2 : w2.frozen? ⟨w.heap.size + 1, 0, none⟩ = false := frz_at nn; have f3 : w2.frozen? ⟨w.heap.size + 1, 1, none⟩ = false := frz_at nn; have HNn := Lib.hid nn; clear nn)
  have t1 : ((w2.setCell ⟨w.heap.size + 1, 0, none⟩ (.slice none 0 0)).setCell ⟨w.heap.size + 1, 1, none⟩ (.slice none 0 0)).heap[w.heap.size + 1]? = some (.cells #[.slice none 0 0, .slice none 0 0] 34 (0, 0)) := heap_setCell_same _ _ 1 _ 34 _ (heap_setCell_same w2 _ 0 _ 34 _ HNn.out)
  have t2 := cell_at (i := 0) t1 rfl
  have t3 := cell_at (i := 1) t1 rfl
  refine bodyPost_ret (v := .tuple #[.agg #[.slice none 0 0, .slice none 0 0], .int .i64 0, .iface 76 (.int .i64 r)]) ?_ rfl (allP_nil (by rw [HE.out]; rfl) ?_)
  · simp [results, Tryz.results74, go_sem, t2, t3]
  · exact ((on1K HB0.out hB2 (Nat.le_refl _)).setCell (by show _ ≤ w.heap.size + 1; omega) _).setCell (by show _ ≤ w.heap.size + 1; omega) _
theorem alI_step {W1 wr wa w' : World} {base p : Nat} {L Lk M : List Kd} {B Bk : List Bd} {l : List Ch} {k : Nat} {c : Ch} (hc : l[k]? = some c) (h1 : goC l 0 L B = goC (l.drop k) k Lk Bk) (h3 : M.map kq3 = Lk.map kq3) (h5 : Below base W1 wr) (ha : apE M Bk c = 0) (hw : Below base wr wa)
    (o : ∃ M', OSc w' base p M' (cB Bk c) ∧ M'.map kq3 = (cK M c).map kq3) (hB : Below base wa w') : AlI W1 base p L B l (k + 1) w' := by
  obtain ⟨M', o1, o2⟩ := o
  have e := apE_kq h3 Bk c
  rw [ha] at e
  exact ⟨cK Lk c, cB Bk c, M', h1.trans (goC_step hc e.symm), apE_right e.symm, o2.trans (cK_kq h3 c), o1, h5.trans (hw.trans hB)⟩
set_option maxHeartbeats 16000000 in
set_option maxRecDepth 100000 in
theorem all_ok {w : World} {vk vb vl : Value} {L : List Kd} {B : List Bd} {l : List Ch} (hK : IsK w vk L) (hP : Parts w L) (hz : SzK L) (hb : IsB w vb B) (hzb : SzB B) (hl : IsC w vl l) (hlz : ∀ c ∈ l, ChSz c) (h40 : ¬ 40 < l.length) (hs : (sErr L B).2 = 0) :
    Calls Tryz.prog 74 #[.agg #[vk, vb], vl] w (AllP w (goC l 0 L B)) := by
  obtain ⟨aol, cpl, rfl, hm, hLl⟩ := hl
  obtain ⟨a1, c1, rfl, _⟩ := hK.sln
  obtain ⟨a2, c2, rfl, _⟩ := hb.sln
  have h41 : ¬ (40 : Int) < (l.length : Int) := by omega
  obtain ⟨W1, hW1⟩ : ∃ W1, W1 = (w.alloc (.cells #[.slice a1 L.length c1, .slice a2 B.length c2] 34)).alloc (.cells #[.slice none 0 0, .slice none 0 0] 34) := ⟨_, rfl⟩
  have hB0 : Below w.heap.size w W1 := by rw [hW1]; exact b_alloc (b_alloc (Below.refl _ _) _) _
  have hs0 : W1.heap.size = w.heap.size + 2 := by rw [hW1]; simp
  have n0 : W1.heap[w.heap.size]? = some (.cells #[.slice a1 L.length c1, .slice a2 B.length c2] 34 (0, 0)) := by rw [hW1]; exact (heap_alloc_old _ _ (by simp)).trans (heap_alloc_new w _)
  have n1 : W1.heap[w.heap.size + 1]? = some (.cells #[.slice none 0 0, .slice none 0 0] 34 (0, 0)) := by
    have := heap_alloc_new (w.alloc (.cells #[.slice a1 L.length c1, .slice a2 B.length c2] 34)) (.cells #[.slice none 0 0, .slice none 0 0] 34)
    rw [World.size_alloc] at this; rw [hW1]; exact this
  have d0 : W1.cell? ⟨w.heap.size, 0, none⟩ = some (.slice a1 L.length c1) := cell_at n0 rfl
  have d1 : W1.cell? ⟨w.heap.size, 1, none⟩ = some (.slice a2 B.length c2) := cell_at n0 rfl
  have hsc := scheck_any (hK.on hB0) (hP.on hB0) hz (hb.on hB0) hzb
  unfold maxLen at hm
  rw [hs, errV_0] at hsc
  obtain ⟨hG, hl12, hb12⟩ := good_of hs
  have HC : Hid (∀ W, Below W1.heap.size W1 W → W.cell? ⟨w.heap.size, 0, none⟩ = some (.slice a1 L.length c1) ∧ W.cell? ⟨w.heap.size, 1, none⟩ = some (.slice a2 B.length c2) ∧ Calls Tryz.prog 13 #[.agg #[.slice a1 L.length c1, .slice a2 B.length c2]] W fun e w' => ∃ uk ub M, e = .returned (.agg #[uk, ub]) ∧ M.map kq3 = L.map kq3 ∧ OwnKs w' W.heap.size uk M ∧ OwnBs w' W.heap.size ub B ∧ Below W.heap.size W w' ∧ Apt M) := fun W hbb => by
    have hbw := on1K hB0 hbb (Nat.le_refl _)
    refine ⟨cell_at ((hbb.block _ (by omega)).trans n0) rfl, cell_at ((hbb.block _ (by omega)).trans n0) rfl, ?_⟩
    exact scopyA_any (hK.on hbw) (hP.on hbw) (hb.on hbw) (by omega) (by omega) (fun k hk => by have := hG.small k hk; omega)
  have HI : Hid (∀ wA w2 uk ub M, Below W1.heap.size W1 wA → M.map kq3 = L.map kq3 → OwnKs w2 wA.heap.size uk M → OwnBs w2 wA.heap.size ub B → Below wA.heap.size wA w2 → Apt M → AlI W1 W1.heap.size w2.heap.size L B l 0 (w2.alloc (.cells #[uk, ub] 34))) := fun wA w2 uk ub M hbA hM hK2 hT2 hb2 hA2 => by
    have hba : Below w2.heap.size w2 (w2.alloc (.cells #[uk, ub] 34)) := b_alloc (Below.refl _ _) _
    have hK3 := hK2.kt (.of_below hba) (.of_below hba) (.of_below hba)
    exact ⟨L, B, M, rfl, hs, hM, ⟨uk, ub, Nat.le_trans hbA.size hb2.size, heap_alloc_new w2 _, ⟨own_base hK3.1 hbA.size, fun k hk => ⟨own_base (hK3.2 k hk).1 hbA.size, own_base (hK3.2 k hk).2 hbA.size⟩⟩, hA2, own_base (own_kt hT2 (.of_below hba)) hbA.size⟩, on1K hbA (on1K hb2 hba (Nat.le_refl _)) (Nat.le_refl _)⟩
  have HH : Hid (Below w.heap.size w W1 ∧ W1.heap.size = w.heap.size + 2 ∧ W1.heap[w.heap.size + 1]? = some (.cells #[.slice none 0 0, .slice none 0 0] 34 (0, 0)) ∧ (l = [] ∨ ∃ b off, aol = some ⟨b, off, none⟩ ∧ b < w.heap.size ∧ LiesC w b off l) ∧ (∀ c ∈ l, ChSz c)) := ⟨hB0, hs0, n1, hLl, hlz⟩
  generalize (sErr L B).1 = z at *
  clear hK hP hb hz hzb hLl n0 n1 hB0 hs hG hlz hs0
  go_enter Tryz.func74, Tryz.ntmps74
  go_upto_region 1 with fail
  rw [← hW1]
  clear hW1
  go_wp2_with (first | (go_at_call 12; refine hsc.mono ?_; rintro e wA ⟨rfl, hBA⟩; obtain ⟨f0, f1, cS⟩ := HC.out wA hBA) | (go_at_call 13; refine cS.mono ?_; rintro e w2 ⟨uk, ub, M, rfl, hM, hK2, hT2, hB2, hA2⟩; have HI2 := Lib.hid (HI.out wA w2 uk ub M hBA hM hK2 hT2 hB2 hA2); obtain ⟨x1, y1, rfl⟩ := own_slice hK2.1; obtain ⟨x2, y2, rfl⟩ := own_slice hT2; clear hM hK2 hT2 hB2 hA2))
  clear HI HC hsc cS f0 f1 d0 d1
  obtain ⟨p, hp⟩ : ∃ p, p = w2.heap.size := ⟨_, rfl⟩
  rw [← hp] at HI2 ⊢
  clear hp
  go_loopw [31] (fun i wr => ∃ k : Nat, k ≤ l.length ∧ i = .int .i64 k ∧ AlI W1 W1.heap.size p L B l k wr) (fun i _ => l.length - (intOf i).toNat)
  case atStart => exact ⟨0, Nat.zero_le _, rfl, HI2.out⟩
  case round =>
    obtain ⟨k, hk, rfl, hI⟩ := hrel
    obtain ⟨Lk, Bk, M', g1, g2, g3, g4, g5⟩ := hI
    by_cases hlt : k < l.length
    · obtain ⟨c, hck⟩ : ∃ c, l[k]? = some c := ⟨l[k], by simp [hlt]⟩
      obtain ⟨b, off, rfl, hbl, hLC⟩ : ∃ b off, aol = some ⟨b, off, none⟩ ∧ b < w.heap.size ∧ LiesC w b off l := by
        rcases HH.out.2.2.2.1 with h0 | h0
        · rw [h0] at hlt; simp at hlt
        · exact h0
      have hbw := on1K HH.out.1 g5 (Nat.le_refl _)
      obtain ⟨hR, hcI⟩ := hLC.on hbl hbw k c hck
      have hcz := HH.out.2.2.2.2 c (List.mem_of_getElem? hck)
      have hki : (k : Int) < (l.length : Int) := by omega
      have hwb : W1.heap.size ≤ wr.heap.size := g5.size
      have hnE : W1.heap[w.heap.size + 1]? = some (.cells #[.slice none 0 0, .slice none 0 0] 34 (0, 0)) := HH.out.2.2.1
      have hs0 := HH.out.2.1
      have HCK := Lib.hid hck
      obtain ⟨wh, nm, ⟨kn, ko, kf, vo, vf⟩, ⟨bn, bf, bt, mn, mx⟩, ⟨fn, ft, fm, fk⟩, vt, vn, vs, tn⟩ := c
      obtain ⟨ao, lo1, co, q1⟩ := hcI.1.sl
      obtain ⟨af, lf1, cf, q2⟩ := hcI.2.sl
      simp only at q1 q2
      subst q1 q2
      have hR : wr.rangeAt b (off + k * 18) [.int .i64 wh, .string (bs nm), .string (bs kn), .slice ao lo1 co, .slice af lf1 cf, .string (bs bn), .string (bs bf), .string (bs bt), .int .i64 mn, .int .i64 mx, .string (bs fn), .int .i64 ft, .bool fm, .bool fk, .int .i64 vt, .int .i64 vn, .string (bs vs), .string (bs tn)] := hR
      obtain ⟨wa, hwa⟩ : ∃ wa, wa = wr.alloc (.cells #[.int .i64 wh, .string (bs nm), .string (bs kn), .slice ao lo1 co, .slice af lf1 cf, .string (bs bn), .string (bs bf), .string (bs bt), .int .i64 mn, .int .i64 mx, .string (bs fn), .int .i64 ft, .bool fm, .bool fk, .int .i64 vt, .int .i64 vn, .string (bs vs), .string (bs tn)] 58) := ⟨_, rfl⟩
      have hBa : Below wr.heap.size wr wa := by rw [hwa]; exact b_alloc (Below.refl _ _) _
      have na : wa.heap[wr.heap.size]? = some (.cells #[.int .i64 wh, .string (bs nm), .string (bs kn), .slice ao lo1 co, .slice af lf1 cf, .string (bs bn), .string (bs bf), .string (bs bt), .int .i64 mn, .int .i64 mx, .string (bs fn), .int .i64 ft, .bool fm, .bool fk, .int .i64 vt, .int .i64 vn, .string (bs vs), .string (bs tn)] 58 (0, 0)) := by rw [hwa]; exact heap_alloc_new wr _
      have cap := apply_any (g4.on hBa) (Nat.le_trans hwb hBa.size) (by rw [sErr_kq g3]; exact g2) ⟨wh, nm, ⟨kn, ko, kf, .slice ao lo1 co, .slice af lf1 cf⟩, ⟨bn, bf, bt, mn, mx⟩, ⟨fn, ft, fm, fk⟩, vt, vn, vs, tn⟩ (hcI.on hBa) hcz
      dsimp only [Ch.one] at cap
      have hone : (#[.int .i64 wh, .string (bs nm), .string (bs kn), .slice ao lo1 co, .slice af lf1 cf, .string (bs bn), .string (bs bf), .string (bs bt), .int .i64 mn, .int .i64 mx, .string (bs fn), .int .i64 ft, .bool fm, .bool fk, .int .i64 vt, .int .i64 vn, .string (bs vs), .string (bs tn)] : Array Value).all (·.oneCell') = true := by simp [Value.oneCell']
      have HR := Lib.hid hR
      have HNa := Lib.hid na
      have HWa := Lib.hid hwa
      by_cases hx : apE M' Bk ⟨wh, nm, ⟨kn, ko, kf, .slice ao lo1 co, .slice af lf1 cf⟩, ⟨bn, bf, bt, mn, mx⟩, ⟨fn, ft, fm, fk⟩, vt, vn, vs, tn⟩ = 0
      · have HSt : Hid (∀ e w', ApP wa W1.heap.size p M' Bk ⟨wh, nm, ⟨kn, ko, kf, .slice ao lo1 co, .slice af lf1 cf⟩, ⟨bn, bf, bt, mn, mx⟩, ⟨fn, ft, fm, fk⟩, vt, vn, vs, tn⟩ e w' → e = .returned .nilIface ∧ AlI W1 W1.heap.size p L B l (k + 1) w') := fun e w' ha => by
          obtain ⟨r1, r2, r3⟩ := ha
          exact ⟨by rw [r1, hx, errV_0], alI_step HCK.out g1 g3 g5 hx (hBa.mono hwb) (r2 hx) r3⟩
        generalize apE M' Bk ⟨wh, nm, ⟨kn, ko, kf, .slice ao lo1 co, .slice af lf1 cf⟩, ⟨bn, bf, bt, mn, mx⟩, ⟨fn, ft, fm, fk⟩, vt, vn, vs, tn⟩ = ex at *
        clear g1 g2 g3 g4 g5 hR na hwa hcI hcz hck hbw hLC hx hBa hnE hs0
        go_wp2_with (first | (refine wpList_load_mid rfl 58 (.tmp 34) rfl b (off + k * 18) rfl _ _ HR.out Tryz.underlying58 rfl info37 ?_) | (refine wpList_store_new rfl 58 (.tmp 11) (.tmp 35) rfl _ _ rfl rfl info37 rfl hone ?_; rw [← HWa.out]) | (refine wpList_load_row rfl 58 (.tmp 11) rfl wr.heap.size rfl 58 _ (0, 0) _ HNa.out Tryz.underlying58 rfl info37 ?_) | (go_at_call 106; refine cap.mono ?_; intro e w' ha; obtain ⟨rfl, hI'⟩ := HSt.out e w' ha; have HI' := Lib.hid hI'; clear hI' ha))
        go_roundw
        case rel => exact ⟨k + 1, by omega, by go_num, HI'.out⟩
        case measure => simp [intOf]; omega
      · have HSt : Hid (∀ e w', ApP wa W1.heap.size p M' Bk ⟨wh, nm, ⟨kn, ko, kf, .slice ao lo1 co, .slice af lf1 cf⟩, ⟨bn, bf, bt, mn, mx⟩, ⟨fn, ft, fm, fk⟩, vt, vn, vs, tn⟩ e w' → e = .returned (.iface 76 (.int .i64 (apE M' Bk ⟨wh, nm, ⟨kn, ko, kf, .slice ao lo1 co, .slice af lf1 cf⟩, ⟨bn, bf, bt, mn, mx⟩, ⟨fn, ft, fm, fk⟩, vt, vn, vs, tn⟩))) ∧ w'.heap[w.heap.size + 1]? = some (.cells #[.slice none 0 0, .slice none 0 0] 34 (0, 0)) ∧ Below w.heap.size w w') := fun e w' ha => by
          obtain ⟨r1, r2, r3⟩ := ha
          have hbb : Below W1.heap.size W1 w' := g5.trans ((hBa.mono hwb).trans r3)
          exact ⟨by rw [r1, errV_ne hx], (hbb.block _ (by omega)).trans hnE, on1K HH.out.1 hbb (Nat.le_refl _)⟩
        have HG : Hid (goC l 0 L B = (apE M' Bk ⟨wh, nm, ⟨kn, ko, kf, .slice ao lo1 co, .slice af lf1 cf⟩, ⟨bn, bf, bt, mn, mx⟩, ⟨fn, ft, fm, fk⟩, vt, vn, vs, tn⟩, k, [], []) ∧ errV (apE M' Bk ⟨wh, nm, ⟨kn, ko, kf, .slice ao lo1 co, .slice af lf1 cf⟩, ⟨bn, bf, bt, mn, mx⟩, ⟨fn, ft, fm, fk⟩, vt, vn, vs, tn⟩) = .iface 76 (.int .i64 (apE M' Bk ⟨wh, nm, ⟨kn, ko, kf, .slice ao lo1 co, .slice af lf1 cf⟩, ⟨bn, bf, bt, mn, mx⟩, ⟨fn, ft, fm, fk⟩, vt, vn, vs, tn⟩))) := ⟨by rw [g1, goC_stop HCK.out (by rw [← apE_kq g3]; exact hx), apE_kq g3], errV_ne hx⟩
        generalize apE M' Bk ⟨wh, nm, ⟨kn, ko, kf, .slice ao lo1 co, .slice af lf1 cf⟩, ⟨bn, bf, bt, mn, mx⟩, ⟨fn, ft, fm, fk⟩, vt, vn, vs, tn⟩ = ex at *
        clear g1 g2 g3 g4 g5 hR na hwa hcI hcz hck hbw hLC hx hBa hnE hs0
        go_wp2_with (first | (refine wpList_load_mid rfl 58 (.tmp 34) rfl b (off + k * 18) rfl _ _ HR.out Tryz.underlying58 rfl info37 ?_) | (refine wpList_store_new rfl 58 (.tmp 11) (.tmp 35) rfl _ _ rfl rfl info37 rfl hone ?_; rw [← HWa.out]) | (refine wpList_load_row rfl 58 (.tmp 11) rfl wr.heap.size rfl 58 _ (0, 0) _ HNa.out Tryz.underlying58 rfl info37 ?_) | (go_at_call 106; refine cap.mono ?_; intro e w' ha; obtain ⟨rfl, hn', hB'⟩ := HSt.out e w' ha; have HB' := Lib.hid hB'; have HNn := Lib.hid hn'; have f0 : w'.cell? ⟨w.heap.size + 1, 0, none⟩ = some (.slice none 0 0) := cell_at hn' rfl; have f1 : w'.cell? ⟨w.heap.size + 1, 1, none⟩ = some (.slice none 0 0) := cell_at hn' rfl; have f2 : w'.frozen? ⟨w.heap.size + 1, 0, none⟩ = false := frz_at hn'; have f3 : w'.frozen? ⟨w.heap.size + 1, 1, none⟩ = false := frz_at hn'; clear hB' hn' ha))
        have t1 : ((w'.setCell ⟨w.heap.size + 1, 0, none⟩ (.slice none 0 0)).setCell ⟨w.heap.size + 1, 1, none⟩ (.slice none 0 0)).heap[w.heap.size + 1]? = some (.cells #[.slice none 0 0, .slice none 0 0] 34 (0, 0)) := heap_setCell_same _ _ 1 _ 34 _ (heap_setCell_same w' _ 0 _ 34 _ HNn.out)
        have t2 := cell_at (i := 0) t1 rfl
        have t3 := cell_at (i := 1) t1 rfl
        rw [HG.out.1]
        refine bodyPost_ret (v := .tuple #[.agg #[.slice none 0 0, .slice none 0 0], .int .i64 k, .iface 76 (.int .i64 ex)]) ?_ rfl (allP_nil (by rw [HG.out.2]) ?_)
        · simp [results, Tryz.results74, go_sem, t2, t3]
        · exact (HB'.out.setCell (by show _ ≤ w.heap.size + 1; omega) _).setCell (by show _ ≤ w.heap.size + 1; omega) _
    · have hkl : k = l.length := by omega
      obtain ⟨vk', vb', hp', hX, hKk, hAk, hTk⟩ := g4
      obtain ⟨x3, y3, rfl⟩ := own_slice hKk.1
      obtain ⟨x4, y4, rfl⟩ := own_slice hTk
      have i0 : wr.cell? ⟨p, 0, none⟩ = some (.slice x3 M'.length y3) := cell_at hX rfl
      have i1 : wr.cell? ⟨p, 1, none⟩ = some (.slice x4 Bk.length y4) := cell_at hX rfl
      have hn1 : wr.heap[w.heap.size + 1]? = some (.cells #[.slice none 0 0, .slice none 0 0] 34 (0, 0)) := (g5.block _ (by have := HH.out.2.1; omega)).trans HH.out.2.2.1
      have f0 : wr.cell? ⟨w.heap.size + 1, 0, none⟩ = some (.slice none 0 0) := cell_at hn1 rfl
      have f1 : wr.cell? ⟨w.heap.size + 1, 1, none⟩ = some (.slice none 0 0) := cell_at hn1 rfl
      have f2 : wr.frozen? ⟨w.heap.size + 1, 0, none⟩ = false := frz_at hn1
      have f3 : wr.frozen? ⟨w.heap.size + 1, 1, none⟩ = false := frz_at hn1
      have hki : ¬ (k : Int) < (l.length : Int) := by omega
      have HF : Hid (goC l 0 L B = (0, 0, Lk, Bk) ∧ M'.map kq3 = Lk.map kq3 ∧ OwnKs wr W1.heap.size (.slice x3 M'.length y3) M' ∧ OwnBs wr W1.heap.size (.slice x4 Bk.length y4) Bk ∧ Below w.heap.size w wr ∧ w.heap.size ≤ W1.heap.size) := ⟨by rw [g1, goC_end (by omega)], g3, hKk, hTk, on1K HH.out.1 g5 (Nat.le_refl _), HH.out.1.size⟩
      have HN1 := Lib.hid hn1
      clear g1 g2 g3 g5 hX hKk hAk hTk hn1 hp' hkl
      go_wp2
      have t1 : ((wr.setCell ⟨w.heap.size + 1, 0, none⟩ (.slice x3 M'.length y3)).setCell ⟨w.heap.size + 1, 1, none⟩ (.slice x4 Bk.length y4)).heap[w.heap.size + 1]? = some (.cells #[.slice x3 M'.length y3, .slice x4 Bk.length y4] 34 (0, 0)) := heap_setCell_same _ _ 1 _ 34 _ (heap_setCell_same wr _ 0 _ 34 _ HN1.out)
      have t2 := cell_at (i := 0) t1 rfl
      have t3 := cell_at (i := 1) t1 rfl
      obtain ⟨z1, z2, z3, z4, z5, z6⟩ := HF.out
      rw [z1]
      have kk : ∀ t : TypeId, (34 : TypeId) ≠ t → Kt t wr ((wr.setCell ⟨w.heap.size + 1, 0, none⟩ (.slice x3 M'.length y3)).setCell ⟨w.heap.size + 1, 1, none⟩ (.slice x4 Bk.length y4)) := fun t ht => ((Kt.refl _ _).ty ⟨_, HN1.out⟩ ht _ _).ty (Ty.set ⟨_, HN1.out⟩ _ _ _) ht _ _
      have zk := z3.kt (kk 30 (by decide)) (kk 9 (by decide)) (kk 56 (by decide))
      refine bodyPost_ret (v := .tuple #[.agg #[.slice x3 M'.length y3, .slice x4 Bk.length y4], .int .i64 0, .nilIface]) ?_ rfl ⟨_, _, M', rfl, z2, ⟨own_base zk.1 z6, fun q hq => ⟨own_base (zk.2 q hq).1 z6, own_base (zk.2 q hq).2 z6⟩⟩, own_base (own_kt z4 (kk 54 (by decide))) z6, ?_⟩
      · simp [results, Tryz.results74, go_sem, t2, t3]
      · exact (z5.setCell (by show _ ≤ w.heap.size + 1; omega) _).setCell (by show _ ≤ w.heap.size + 1; omega) _
theorem all_any {w : World} {vk vb vl : Value} {L : List Kd} {B : List Bd} {l : List Ch} (hK : IsK w vk L) (hP : Parts w L) (hz : SzK L) (hb : IsB w vb B) (hzb : SzB B) (hl : IsC w vl l) (hlz : ∀ c ∈ l, ChSz c) :
    Calls Tryz.prog 74 #[.agg #[vk, vb], vl] w (AllP w (allA L B l)) := by
  unfold allA
  by_cases h40 : 40 < l.length
  · rw [if_pos h40]
    exact all_many hK hb hl h40
  · rw [if_neg h40]
    by_cases hs : (sErr L B).2 = 0
    · rw [if_pos hs]
      exact all_ok hK hP hz hb hzb hl hlz h40 hs
    · rw [if_neg hs]
      exact all_bad hK hP hz hb hzb hl h40 hs
def DoP (w : World) (r : Int × Nat × List Kd × List Bd) (e : Ending) (w' : World) : Prop :=
  ∃ uk ub M, e = .returned (.tuple #[.agg #[uk, ub], errV r.1]) ∧ M.map kq3 = r.2.2.1.map kq3 ∧ OwnKs w' w.heap.size uk M ∧ OwnBs w' w.heap.size ub r.2.2.2 ∧ Below w.heap.size w w'
set_option maxHeartbeats 8000000 in
set_option maxRecDepth 100000 in
theorem do_any {w : World} {vk vb : Value} {L : List Kd} {B : List Bd} (c : Ch) (hK : IsK w vk L) (hP : Parts w L) (hz : SzK L) (hb : IsB w vb B) (hzb : SzB B) (hc : ChIs w c) (hcz : ChSz c) :
    Calls Tryz.prog 51 #[.agg #[vk, vb], c.one] w (DoP w (allA L B [c])) := by
  obtain ⟨a1, c1, rfl, _⟩ := hK.sln
  obtain ⟨a2, c2, rfl, _⟩ := hb.sln
  obtain ⟨wh, nm, ⟨kn, ko, kf, vo, vf⟩, ⟨bn, bf, bt, mn, mx⟩, ⟨fn, ft, fm, fk⟩, vt, vn, vs, tn⟩ := c
  obtain ⟨ao, lo1, co, q1⟩ := hc.1.sl
  obtain ⟨af, lf1, cf, q2⟩ := hc.2.sl
  simp only at q1 q2
  subst q1 q2
  obtain ⟨W0, hW0⟩ : ∃ W0, W0 = ((w.alloc (.cells #[.slice a1 L.length c1, .slice a2 B.length c2] 34)).alloc (.cells #[.int .i64 wh, .string (bs nm), .string (bs kn), .slice ao lo1 co, .slice af lf1 cf, .string (bs bn), .string (bs bf), .string (bs bt), .int .i64 mn, .int .i64 mx, .string (bs fn), .int .i64 ft, .bool fm, .bool fk, .int .i64 vt, .int .i64 vn, .string (bs vs), .string (bs tn)] 58)).alloc (.cells #[.slice none 0 0, .slice none 0 0] 34) := ⟨_, rfl⟩
  have hB0 : Below w.heap.size w W0 := by rw [hW0]; exact b_alloc (b_alloc (b_alloc (Below.refl _ _) _) _) _
  have hs0 : W0.heap.size = w.heap.size + 3 := by rw [hW0]; simp
  have n0 : W0.heap[w.heap.size]? = some (.cells #[.slice a1 L.length c1, .slice a2 B.length c2] 34 (0, 0)) := by rw [hW0]; exact (heap_alloc_old _ _ (by simp; omega)).trans ((heap_alloc_old _ _ (by simp)).trans (heap_alloc_new w _))
  have n1 : W0.heap[w.heap.size + 1]? = some (.cells #[.int .i64 wh, .string (bs nm), .string (bs kn), .slice ao lo1 co, .slice af lf1 cf, .string (bs bn), .string (bs bf), .string (bs bt), .int .i64 mn, .int .i64 mx, .string (bs fn), .int .i64 ft, .bool fm, .bool fk, .int .i64 vt, .int .i64 vn, .string (bs vs), .string (bs tn)] 58 (0, 0)) := by
    have := heap_alloc_new (w.alloc (.cells #[.slice a1 L.length c1, .slice a2 B.length c2] 34)) (.cells #[.int .i64 wh, .string (bs nm), .string (bs kn), .slice ao lo1 co, .slice af lf1 cf, .string (bs bn), .string (bs bf), .string (bs bt), .int .i64 mn, .int .i64 mx, .string (bs fn), .int .i64 ft, .bool fm, .bool fk, .int .i64 vt, .int .i64 vn, .string (bs vs), .string (bs tn)] 58)
    rw [World.size_alloc] at this; rw [hW0]; exact (heap_alloc_old _ _ (by simp)).trans this
  have n2 : W0.heap[w.heap.size + 2]? = some (.cells #[.slice none 0 0, .slice none 0 0] 34 (0, 0)) := by
    have := heap_alloc_new ((w.alloc (.cells #[.slice a1 L.length c1, .slice a2 B.length c2] 34)).alloc (.cells #[.int .i64 wh, .string (bs nm), .string (bs kn), .slice ao lo1 co, .slice af lf1 cf, .string (bs bn), .string (bs bf), .string (bs bt), .int .i64 mn, .int .i64 mx, .string (bs fn), .int .i64 ft, .bool fm, .bool fk, .int .i64 vt, .int .i64 vn, .string (bs vs), .string (bs tn)] 58)) (.cells #[.slice none 0 0, .slice none 0 0] 34)
    rw [World.size_alloc, World.size_alloc] at this; rw [hW0]; exact this
  obtain ⟨W1, hW1⟩ : ∃ W1, W1 = W0.alloc (.cells #[.int .i64 wh, .string (bs nm), .string (bs kn), .slice ao lo1 co, .slice af lf1 cf, .string (bs bn), .string (bs bf), .string (bs bt), .int .i64 mn, .int .i64 mx, .string (bs fn), .int .i64 ft, .bool fm, .bool fk, .int .i64 vt, .int .i64 vn, .string (bs vs), .string (bs tn)] 58) := ⟨_, rfl⟩
  have hB1 : Below W0.heap.size W0 W1 := by rw [hW1]; exact b_alloc (Below.refl _ _) _
  have m1 : W1.heap[W0.heap.size]? = some (.cells #[.int .i64 wh, .string (bs nm), .string (bs kn), .slice ao lo1 co, .slice af lf1 cf, .string (bs bn), .string (bs bf), .string (bs bt), .int .i64 mn, .int .i64 mx, .string (bs fn), .int .i64 ft, .bool fm, .bool fk, .int .i64 vt, .int .i64 vn, .string (bs vs), .string (bs tn)] 58 (0, 0)) := by rw [hW1]; exact heap_alloc_new W0 _
  have hB01 := on1K hB0 hB1 (Nat.le_refl _)
  have cA := all_any (hK.on hB01) (hP.on hB01) hz (hb.on hB01) hzb (vl := .slice (some ⟨W0.heap.size, 0, none⟩) 1 1) (l := [⟨wh, nm, ⟨kn, ko, kf, .slice ao lo1 co, .slice af lf1 cf⟩, ⟨bn, bf, bt, mn, mx⟩, ⟨fn, ft, fm, fk⟩, vt, vn, vs, tn⟩]) ⟨_, 1, rfl, by simp [maxLen], .inr ⟨W0.heap.size, 0, rfl, (Array.getElem?_eq_some_iff.1 m1).1, fun k c hk => by
    obtain ⟨hk0, e⟩ := List.getElem?_eq_some_iff.1 hk
    have hk1 : k = 0 := by simp only [List.length_singleton] at hk0; omega
    subst hk1
    simp only [List.getElem_cons_zero] at e
    subst e
    exact ⟨fun j v hv => cell_at m1 (by simpa [Ch.cells] using hv), hc.on hB01⟩⟩⟩ (fun c hm => by
    have e : c = ⟨wh, nm, ⟨kn, ko, kf, .slice ao lo1 co, .slice af lf1 cf⟩, ⟨bn, bf, bt, mn, mx⟩, ⟨fn, ft, fm, fk⟩, vt, vn, vs, tn⟩ := by simpa using hm
    subst e
    exact hcz)
  have HF : Hid (∀ e w2, AllP W1 (allA L B [⟨wh, nm, ⟨kn, ko, kf, .slice ao lo1 co, .slice af lf1 cf⟩, ⟨bn, bf, bt, mn, mx⟩, ⟨fn, ft, fm, fk⟩, vt, vn, vs, tn⟩]) e w2 → ∃ uk ub, (∃ a l c, uk = .slice a l c) ∧ (∃ a l c, ub = .slice a l c) ∧ e = .returned (.tuple #[.agg #[uk, ub], .int .i64 (allA L B [⟨wh, nm, ⟨kn, ko, kf, .slice ao lo1 co, .slice af lf1 cf⟩, ⟨bn, bf, bt, mn, mx⟩, ⟨fn, ft, fm, fk⟩, vt, vn, vs, tn⟩]).2.1, errV (allA L B [⟨wh, nm, ⟨kn, ko, kf, .slice ao lo1 co, .slice af lf1 cf⟩, ⟨bn, bf, bt, mn, mx⟩, ⟨fn, ft, fm, fk⟩, vt, vn, vs, tn⟩]).1]) ∧ ∀ (W3 : World), W3 = w2.alloc (.cells #[uk, ub] 34) → W3.heap[w.heap.size + 2]? = some (.cells #[.slice none 0 0, .slice none 0 0] 34 (0, 0)) ∧ W3.cell? ⟨w2.heap.size, 0, none⟩ = some uk ∧ W3.cell? ⟨w2.heap.size, 1, none⟩ = some ub ∧ ∀ W4, W4 = (W3.setCell ⟨w.heap.size + 2, 0, none⟩ uk).setCell ⟨w.heap.size + 2, 1, none⟩ ub → W4.cell? ⟨w.heap.size + 2, 0, none⟩ = some uk ∧ W4.cell? ⟨w.heap.size + 2, 1, none⟩ = some ub ∧ DoP w (allA L B [⟨wh, nm, ⟨kn, ko, kf, .slice ao lo1 co, .slice af lf1 cf⟩, ⟨bn, bf, bt, mn, mx⟩, ⟨fn, ft, fm, fk⟩, vt, vn, vs, tn⟩]) (.returned (.tuple #[.agg #[uk, ub], errV (allA L B [⟨wh, nm, ⟨kn, ko, kf, .slice ao lo1 co, .slice af lf1 cf⟩, ⟨bn, bf, bt, mn, mx⟩, ⟨fn, ft, fm, fk⟩, vt, vn, vs, tn⟩]).1])) W4) := fun e w2 ha => by
    obtain ⟨uk, ub, M, he, hM, hK2, hT2, hB2⟩ := ha
    refine ⟨uk, ub, ?_, ?_, he, fun W3 hW3 => ?_⟩
    · obtain ⟨a, c, e⟩ := own_slice hK2.1; exact ⟨a, _, c, e⟩
    · obtain ⟨a, c, e⟩ := own_slice hT2; exact ⟨a, _, c, e⟩
    · have hB3 : Below w2.heap.size w2 W3 := by rw [hW3]; exact b_alloc (Below.refl _ _) _
      have hB13 := on1K hB1 (on1K hB2 hB3 (Nat.le_refl _)) (Nat.le_refl _)
      have x2 := (hB13.block _ (by omega)).trans n2
      have x3 : W3.heap[w2.heap.size]? = some (.cells #[uk, ub] 34 (0, 0)) := by rw [hW3]; exact heap_alloc_new w2 _
      refine ⟨x2, cell_at x3 rfl, cell_at x3 rfl, fun W4 hW4 => ?_⟩
      have t1 : W4.heap[w.heap.size + 2]? = some (.cells #[uk, ub] 34 (0, 0)) := by rw [hW4]; exact heap_setCell_same _ _ 1 _ 34 _ (heap_setCell_same W3 _ 0 _ 34 _ x2)
      have kk : ∀ t : TypeId, (34 : TypeId) ≠ t → Kt t w2 W4 := fun t ht => by rw [hW4]; exact ((Kt.of_below hB3).ty ⟨_, x2⟩ ht _ _).ty (Ty.set ⟨_, x2⟩ _ _ _) ht _ _
      have zk := hK2.kt (kk 30 (by decide)) (kk 9 (by decide)) (kk 56 (by decide))
      have z6 : w.heap.size ≤ W1.heap.size := hB01.size
      refine ⟨cell_at t1 rfl, cell_at t1 rfl, uk, ub, M, rfl, hM, ⟨own_base zk.1 z6, fun q hq => ⟨own_base (zk.2 q hq).1 z6, own_base (zk.2 q hq).2 z6⟩⟩, own_base (own_kt hT2 (kk 54 (by decide))) z6, ?_⟩
      rw [hW4]
      exact ((on1K hB0 hB13 (Nat.le_refl _)).setCell (by show _ ≤ w.heap.size + 2; omega) _).setCell (by show _ ≤ w.heap.size + 2; omega) _
  have d0 : W0.cell? ⟨w.heap.size, 0, none⟩ = some (.slice a1 L.length c1) := cell_at n0 rfl
  have d1 : W0.cell? ⟨w.heap.size, 1, none⟩ = some (.slice a2 B.length c2) := cell_at n0 rfl
  have HN := Lib.hid n1
  rw [hW1] at cA HF
  generalize allA L B [⟨wh, nm, ⟨kn, ko, kf, .slice ao lo1 co, .slice af lf1 cf⟩, ⟨bn, bf, bt, mn, mx⟩, ⟨fn, ft, fm, fk⟩, vt, vn, vs, tn⟩] = r at *
  clear hK hP hb hz hzb n0 n1 n2 hB0 hB1 m1 hB01 hc hcz hs0 hW1
  go_enter Tryz.func51, Tryz.ntmps51
  go_upto_region 1 with fail
  rw [← hW0]
  clear hW0
  go_wp2_with (first | (refine wpList_load_row rfl 58 (.tmp 3) rfl (w.heap.size + 1) rfl 58 _ (0, 0) _ HN.out Tryz.underlying58 rfl info37 ?_) | (go_at_call 74; refine cA.mono ?_; intro e w2 ha; obtain ⟨uk, ub, ⟨b1, b2, b3, rfl⟩, ⟨b4, b5, b6, rfl⟩, rfl, hf⟩ := HF.out e w2 ha; obtain ⟨y2, y0, y1, hg⟩ := hf _ rfl; obtain ⟨t0, t1, hd⟩ := hg _ rfl; have HD := Lib.hid hd; have HT : Hid (_ ∧ _) := ⟨t0, t1⟩; have f0 := cell_at (i := 0) y2 rfl; have f1 := cell_at (i := 1) y2 rfl; have f2 := frz_at (i := 0) y2; have f3 := frz_at (i := 1) y2; clear hf hg ha hd y2 t0 t1))
  obtain ⟨t0, t1⟩ := HT.out
  refine bodyPost_ret (v := .tuple #[.agg #[.slice b1 b2 b3, .slice b4 b5 b6], errV r.1]) ?_ rfl ?_
  · simp [results, Tryz.results51, go_sem, t0, t1]
  · exact HD.out
theorem unds_len (L : List Kd) (a : Nm) (x : List Nat) : (unds L a x).length ≤ x.length := by
  induction x with
  | nil => simp [unds]
  | cons i x ih =>
    simp only [unds]
    cases L[i]? with
    | none => simp; omega
    | some k =>
      simp only
      split
      · simp; omega
      · simp; omega
end Go.Proofs.YtahamkajkkkjdaaGreatDoor
namespace Go.Proofs.YtahamkajkkkjdaaGreatDoor
set_option linter.unusedVariables false
set_option linter.unusedSimpArgs false
theorem allA_one (L : List Kd) (B : List Bd) (c : Ch) : allA L B [c] = if (sErr L B).2 = 0 then (if apE L B c = 0 then (0, 0, cK L c, cB B c) else (apE L B c, 0, [], [])) else ((sErr L B).2, 0, [], []) := by
  unfold allA
  rw [if_neg (by simp)]
  rfl
theorem one_yes {L : List Kd} {B : List Bd} {c : Ch} (h : (allA L B [c]).1 = 0) : (sErr L B).2 = 0 ∧ apE L B c = 0 ∧ allA L B [c] = (0, 0, cK L c, cB B c) := by
  rw [allA_one] at h ⊢
  by_cases h1 : (sErr L B).2 = 0
  · rw [if_pos h1] at h ⊢
    by_cases h2 : apE L B c = 0
    · rw [if_pos h2]; exact ⟨h1, h2, rfl⟩
    · rw [if_neg h2] at h; exact absurd h h2
  · rw [if_neg h1] at h; exact absurd h h1
/-! Kinds of which one has other fields: the names are the same. -/
/-! Fields with one more. -/
end Go.Proofs.YtahamkajkkkjdaaGreatDoor
