/-
  kinref2.Change of a bond that is dropped.
-/
import Derived.Test.YtkmkhadacppdnaaGreatDoorM28
import Derived.Test.YtkmkhadacppdnaaGreatDoorM25
namespace Go.Proofs.YtkmkhadacppdnaaGreatDoor
open Go.RowKit
set_option linter.unusedVariables false
set_option linter.unusedSimpArgs false

theorem hasC_drop {w : World} {ao : Option Addr} {n c k sz : Nat} {xs : List Value} (hc : HasC w (.slice ao n c) n xs) (hk : k ≤ n) (hnc : n ≤ c) (hl : xs.length = n * sz) : HasC w (.slice (if c = k then ao else Option.map (fun x => x.add (k * sz)) ao) (n - k) (c - k)) (n - k) (xs.drop (k * sz)) := by
  by_cases e : k = n
  · refine ⟨_, _, rfl, .inl ⟨by omega, ?_⟩⟩
    rw [e]
    exact List.drop_eq_nil_of_le (by omega)
  · obtain ⟨ao', c', e', h0 | ⟨b, off, rfl, hb, hL⟩⟩ := hc
    · omega
    · injection e' with e1 e2 e3
      subst e1
      rw [if_neg (by omega)]
      refine ⟨_, _, rfl, .inr ⟨b, off + k * sz, by simp [Addr.add], hb, fun j u hu => ?_⟩⟩
      rw [List.getElem?_drop] at hu
      have := hL _ u hu
      rw [Addr.add_lit] at this ⊢
      rw [show off + k * sz + j = off + (k * sz + j) by omega]
      exact this
set_option maxHeartbeats 8000000 in
set_option maxRecDepth 100000 in
theorem rc_6 {w : World} {vk vb : Value} {L : List Kd} {B : List Bd} (c : Ch) (hK : IsK w vk L) (hP : Parts w L) (hz : SzK L) (hb : IsB w vb B) (hzb : SzB B) (hs : (sErr L B).2 = 0) (hc : ChIs w c) (hcz : ChSz c) (hw : c.wh = 6) (hx : ¬ idxB c.nm B 0 = -1) :
    Calls Tryz.prog 5 #[.agg #[vk, vb], c.one] w (RcP w ((sErr L (B.eraseIdx (bAt B c.nm))).2) (L) (B.eraseIdx (bAt B c.nm))) := by
  obtain ⟨hG, hn, hnb⟩ := good_of hs
  obtain ⟨wh, nm, ⟨kn, ko, kf, vo, vf⟩, ⟨bn, bf, bt, mn, mx⟩, ⟨fn, ft, fm, fk⟩, vt, vn, vs, tn⟩ := c
  obtain ⟨a1, c1, rfl, _⟩ := hK.sln
  obtain ⟨a2, c2, rfl, _⟩ := hb.sln
  obtain ⟨ao, lo1, co, q1⟩ := hc.1.sl
  obtain ⟨af, lf1, cf, q2⟩ := hc.2.sl
  simp only at q1 q2 hw hc hcz hx ⊢
  subst q1 q2 hw
  obtain ⟨W0, hW0⟩ : ∃ W0, W0 = ((w.alloc (.cells #[.slice a1 L.length c1, .slice a2 B.length c2] 25)).alloc (.cells #[.int .i64 6, .string (bs nm), .string (bs kn), .slice ao lo1 co, .slice af lf1 cf, .string (bs bn), .string (bs bf), .string (bs bt), .int .i64 mn, .int .i64 mx, .string (bs fn), .int .i64 ft, .bool fm, .bool fk, .int .i64 vt, .int .i64 vn, .string (bs vs), .string (bs tn)] 37)).alloc (.cells #[.slice none 0 0, .slice none 0 0] 25) := ⟨_, rfl⟩
  have hB0 : Below w.heap.size w W0 := by rw [hW0]; exact b_alloc (b_alloc (b_alloc (Below.refl _ _) _) _) _
  have hs0 : W0.heap.size = w.heap.size + 3 := by rw [hW0]; simp
  have n0 : W0.heap[w.heap.size]? = some (.cells #[.slice a1 L.length c1, .slice a2 B.length c2] 25 (0, 0)) := by rw [hW0]; exact (heap_alloc_old _ _ (by simp; omega)).trans ((heap_alloc_old _ _ (by simp)).trans (heap_alloc_new w _))
  have n1 : W0.heap[w.heap.size + 1]? = some (.cells #[.int .i64 6, .string (bs nm), .string (bs kn), .slice ao lo1 co, .slice af lf1 cf, .string (bs bn), .string (bs bf), .string (bs bt), .int .i64 mn, .int .i64 mx, .string (bs fn), .int .i64 ft, .bool fm, .bool fk, .int .i64 vt, .int .i64 vn, .string (bs vs), .string (bs tn)] 37 (0, 0)) := by
    have := heap_alloc_new (w.alloc (.cells #[.slice a1 L.length c1, .slice a2 B.length c2] 25)) (.cells #[.int .i64 6, .string (bs nm), .string (bs kn), .slice ao lo1 co, .slice af lf1 cf, .string (bs bn), .string (bs bf), .string (bs bt), .int .i64 mn, .int .i64 mx, .string (bs fn), .int .i64 ft, .bool fm, .bool fk, .int .i64 vt, .int .i64 vn, .string (bs vs), .string (bs tn)] 37)
    rw [World.size_alloc] at this; rw [hW0]; exact (heap_alloc_old _ _ (by simp)).trans this
  have n2 : W0.heap[w.heap.size + 2]? = some (.cells #[.slice none 0 0, .slice none 0 0] 25 (0, 0)) := by
    have := heap_alloc_new ((w.alloc (.cells #[.slice a1 L.length c1, .slice a2 B.length c2] 25)).alloc (.cells #[.int .i64 6, .string (bs nm), .string (bs kn), .slice ao lo1 co, .slice af lf1 cf, .string (bs bn), .string (bs bf), .string (bs bt), .int .i64 mn, .int .i64 mx, .string (bs fn), .int .i64 ft, .bool fm, .bool fk, .int .i64 vt, .int .i64 vn, .string (bs vs), .string (bs tn)] 37)) (.cells #[.slice none 0 0, .slice none 0 0] 25)
    rw [World.size_alloc, World.size_alloc] at this; rw [hW0]; exact this
  obtain ⟨W1, hW1⟩ : ∃ W1, W1 = W0.alloc (.cells #[.slice a1 L.length c1, .slice a2 B.length c2] 25) := ⟨_, rfl⟩
  have hB1 : Below W0.heap.size W0 W1 := by rw [hW1]; exact b_alloc (Below.refl _ _) _
  have m3 : W1.heap[w.heap.size + 3]? = some (.cells #[.slice a1 L.length c1, .slice a2 B.length c2] 25 (0, 0)) := by
    have := heap_alloc_new W0 (.cells #[.slice a1 L.length c1, .slice a2 B.length c2] 25)
    rw [hs0] at this; rw [hW1]; exact this
  have h0 : Pr0 w #[.slice a1 L.length c1, .slice a2 B.length c2] #[.int .i64 6, .string (bs nm), .string (bs kn), .slice ao lo1 co, .slice af lf1 cf, .string (bs bn), .string (bs bf), .string (bs bt), .int .i64 mn, .int .i64 mx, .string (bs fn), .int .i64 ft, .bool fm, .bool fk, .int .i64 vt, .int .i64 vn, .string (bs vs), .string (bs tn)] W1 := ⟨on1K hB0 hB1 (Nat.le_refl _), (hB1.block _ (by omega)).trans n0, (hB1.block _ (by omega)).trans n1, (hB1.block _ (by omega)).trans n2, m3⟩
  have P1 := Lib.hid (pro_first h0 hK hP hn)
  have P2 : Hid (∀ W v9, Pr0 w #[.slice a1 L.length c1, .slice a2 B.length c2] #[.int .i64 6, .string (bs nm), .string (bs kn), .slice ao lo1 co, .slice af lf1 cf, .string (bs bn), .string (bs bf), .string (bs bt), .int .i64 mn, .int .i64 mx, .string (bs fn), .int .i64 ft, .bool fm, .bool fk, .int .i64 vt, .int .i64 vn, .string (bs vs), .string (bs tn)] W → W.ownsRow (w.heap.size + 4) 29 3 v9 L.length (cellsK L) → ∀ ty, ∃ v' w', (Builtin.append_ #[23, 23] ty #[.slice none 0 0, .slice a2 B.length c2]).run Tryz.prog W = .ok v' w' ∧ Pro w #[.slice a1 L.length c1, .slice a2 B.length c2] #[.int .i64 6, .string (bs nm), .string (bs kn), .slice ao lo1 co, .slice af lf1 cf, .string (bs bn), .string (bs bf), .string (bs bt), .int .i64 mn, .int .i64 mx, .string (bs fn), .int .i64 ft, .bool fm, .bool fk, .int .i64 vt, .int .i64 vn, .string (bs vs), .string (bs tn)] L B v9 v' w') := fun W v9 q0 q9 => pro_next q0 q9 hb hnb
  have ck := rkind_any (hK.on h0.1) hn nm
  have cb := rbond_any (hb.on h0.1) hnb nm
  have d0 : W0.cell? ⟨w.heap.size, 0, none⟩ = some (.slice a1 L.length c1) := cell_at n0 rfl
  have d1 : W0.cell? ⟨w.heap.size, 1, none⟩ = some (.slice a2 B.length c2) := cell_at n0 rfl
  have e0 : W1.cell? ⟨w.heap.size, 0, none⟩ = some (.slice a1 L.length c1) := cell_at h0.2.1 rfl
  have e1 : W1.cell? ⟨w.heap.size, 1, none⟩ = some (.slice a2 B.length c2) := cell_at h0.2.1 rfl
  have e2 : W1.cell? ⟨w.heap.size + 1, 1, none⟩ = some (.string (bs nm)) := cell_at h0.2.2.1 rfl
  have HK : Hid (IsK w (.slice a1 L.length c1) L ∧ Parts w L ∧ SzK L ∧ IsB w (.slice a2 B.length c2) B ∧ SzB B) := ⟨hK, hP, hz, hb, hzb⟩
  have HCC := Lib.hid hc
  have HCZ := Lib.hid hcz
  have HG := Lib.hid hG
  have HS := Lib.hid hs
  have HW1 := Lib.hid hW1
  have HS0 := Lib.hid hs0
  obtain ⟨j, q, hj, hat, hq, _⟩ := idxB_has hx
  have hjl := (List.getElem?_eq_some_iff.1 hq).1
  rw [hj] at cb
  have hjn : ¬ (j : Int) < 0 := by omega
  have hji : (j : Int) < (B.length : Int) := by omega
  rw [hat]
  generalize hX : (sErr L (B.eraseIdx j)).2 = x
  obtain ⟨i0, hi0, hz0, hz1, hz2⟩ := info_parts infoBdI
  have hlen : (cellsBd B).length = B.length * i0.size := by rw [hz1]; exact flatK_len bd_len B
  have HA : Hid (∀ v9 a10 c10 W3, Pro w #[.slice a1 L.length c1, .slice a2 B.length c2] #[.int .i64 6, .string (bs nm), .string (bs kn), .slice ao lo1 co, .slice af lf1 cf, .string (bs bn), .string (bs bf), .string (bs bt), .int .i64 mn, .int .i64 mx, .string (bs fn), .int .i64 ft, .bool fm, .bool fk, .int .i64 vt, .int .i64 vn, .string (bs vs), .string (bs tn)] L B v9 (.slice a10 B.length c10) W3 → B.length ≤ c10 ∧ HasC W3 (.slice a10 B.length c10) B.length (cellsBd B) ∧ ∀ u, HasC W3 u (B.length - (j + 1)) ((cellsBd B).drop ((j + 1) * i0.size)) → ∀ ty, ∃ v' w', (Builtin.append_ #[23, 23] ty #[.slice a10 j j, u]).run Tryz.prog W3 = .ok v' w' ∧ ((∃ a l c, v' = .slice a l c) ∧ (w'.cell? ⟨w.heap.size + 3, 1, none⟩ = some (.slice a2 B.length c2) ∧ w'.frozen? ⟨w.heap.size + 3, 1, none⟩ = false) ∧ ∀ Z, Z = w'.setCell ⟨w.heap.size + 3, 1, none⟩ v' → (Z.cell? ⟨w.heap.size + 3, 0, none⟩ = some (.slice a1 L.length c1) ∧ Z.cell? ⟨w.heap.size + 3, 1, none⟩ = some v') ∧ Calls Tryz.prog 4 #[.agg #[.slice a1 L.length c1, v']] Z fun e X => e = .returned (.int .i64 x) ∧ EnF w (.slice a1 L.length c1) v' x L (B.eraseIdx j) X)) := fun v9 a10 c10 W3 h3 => by
    obtain ⟨q0, q1, q2, q3, q4, q9, q10⟩ := h3
    have hcap := own_cap q10
    have hI : IsB W3 (.slice a10 B.length c10) B := OwnBs.isB (base := w.heap.size + 4) q10
    have hH := hasB hI
    refine ⟨hcap, hH, fun u hu ty => ?_⟩
    have hsz : w.heap.size + 4 ≤ W3.heap.size := (Array.getElem?_eq_some_iff.1 q4).1
    have hx0 := hasC_take (sz := 5) hH (Nat.le_of_lt hjl) (flatK_len bd_len B)
    have hx1 : HasC W3 (.slice a10 j j) j (cellsBd (B.take j)) := by
      rw [show cellsBd (B.take j) = (cellsBd B).take (j * 5) from flatK_take bd_len B j]
      obtain ⟨a', c', e', h'⟩ := hx0
      injection e' with e1 e2 e3
      subst e1
      exact ⟨_, j, rfl, h'⟩
    rw [hz1, ← show cellsBd (B.drop (j + 1)) = (cellsBd B).drop ((j + 1) * 5) from flatK_drop bd_len B (j + 1)] at hu
    obtain ⟨v', w', r1, r2⟩ := run_cut (P := Tryz.prog) W3 (w.heap.size + 4) 23 ty 31 i0 _ 5 64 Tryz.underlying23 hi0 hz0 hz1 hz2 rfl (by decide) a10 j (cellsBd (B.take j)) hx1 ((flatK_len bd_len _).trans (by rw [List.length_take_of_le (Nat.le_of_lt hjl)])) u (B.length - (j + 1)) (cellsBd (B.drop (j + 1))) hu ((flatK_len bd_len _).trans (by rw [List.length_drop])) (bd_oneI _) (by unfold maxLen; omega) (by omega) hsz
    have he : B.eraseIdx j = B.take j ++ B.drop (j + 1) := List.eraseIdx_eq_take_drop_succ B j
    have key : Pr0 w #[.slice a1 L.length c1, .slice a2 B.length c2] #[.int .i64 6, .string (bs nm), .string (bs kn), .slice ao lo1 co, .slice af lf1 cf, .string (bs bn), .string (bs bf), .string (bs bt), .int .i64 mn, .int .i64 mx, .string (bs fn), .int .i64 ft, .bool fm, .bool fk, .int .i64 vt, .int .i64 vn, .string (bs vs), .string (bs tn)] w' ∧ AnB w w' v' (B.eraseIdx j) ∧ ∃ a l c, v' = .slice a l c := by
      rcases r2 with ⟨hm0, rfl, rfl⟩ | ⟨hm0, r2, r3⟩
      · refine ⟨⟨q0, q1, q2, q3, q4⟩, .inr (.inr ?_), _, _, _, rfl⟩
        have he' : B.eraseIdx j = B.take j := by rw [he, List.drop_eq_nil_of_le (by omega), List.append_nil]
        rw [he']
        rcases hI with ⟨_, h0⟩ | ⟨g, off, cap, e', _, hm, hg, hl⟩
        · rw [h0] at hjl; simp at hjl
        · injection e' with e1 e2 e3
          subst e1
          rcases q10.2 with ⟨h0, _⟩ | ⟨g', cap', cur, h0, hb', hg', _⟩
          · cases h0
          · injection h0 with e4
            injection e4 with e4
            injection e4 with e4 e5
            subst e4 e5
            refine ⟨g, j, by rw [List.length_take_of_le (Nat.le_of_lt hjl)], by rw [List.length_take_of_le (Nat.le_of_lt hjl)]; exact Nat.le_refl _, by unfold maxLen; omega, hb', hg, fun i p hp => ?_⟩
            rw [List.getElem?_take] at hp
            split at hp
            · exact hl i p hp
            · cases hp
      · refine ⟨Pr0.grown (W := W3) ⟨q0, q1, q2, q3, q4⟩ r3 (fun g e => by cases e), .inr (.inl ?_), ?_⟩
        · rw [he, List.length_append, List.length_take_of_le (Nat.le_of_lt hjl), List.length_drop, show cellsBd (B.take j ++ B.drop (j + 1)) = cellsBd (B.take j) ++ cellsBd (B.drop (j + 1)) by simp [cellsBd]]
          exact r2
        · obtain ⟨a, c, e⟩ := own_slice r2; exact ⟨a, _, c, e⟩
    obtain ⟨⟨u0, u1, u2, u3, u4⟩, hAn, hshape⟩ := key
    refine ⟨v', w', r1, hshape, ⟨cell_at u4 rfl, frz_at u4⟩, fun Z hZ => ?_⟩
    have z3 : Z.heap[w.heap.size + 3]? = some (.cells #[.slice a1 L.length c1, v'] 25 (0, 0)) := by rw [hZ]; exact (heap_setCell_same w' _ 1 _ 25 _ u4)
    have z2 : Z.heap[w.heap.size + 2]? = some (.cells #[.slice none 0 0, .slice none 0 0] 25 (0, 0)) := by rw [hZ]; exact (heap_setCell_other w' ⟨w.heap.size + 3, 1, none⟩ (w.heap.size + 2) v' (by show w.heap.size + 2 ≠ w.heap.size + 3; omega)).trans u3
    have hE : EnS w w' (.slice a1 L.length c1) v' L (B.eraseIdx j) := ⟨.inl HK.out.1, fun k hk => ⟨(HK.out.2.1 k hk).1, .inl (HK.out.2.1 k hk).2⟩, hAn, u0⟩
    have hEZ : EnS w Z (.slice a1 L.length c1) v' L (B.eraseIdx j) := by rw [hZ]; exact hE.set (by omega) (by omega) _ _
    have := rc_end hEZ rfl HK.out.2.2.1 (fun y hy => HK.out.2.2.2.2 y (List.mem_of_mem_eraseIdx hy)) z2 z3
    rw [hX] at this
    exact ⟨⟨cell_at z3 rfl, cell_at z3 rfl⟩, this⟩
  have HLN := Lib.hid hlen
  have hw1 : IntKind.i64.wrap ((j : Int) + 1) = ((j + 1 : Nat) : Int) := by rw [IntKind.wrap_i64]; omega
  have hj1 : j + 1 ≤ B.length := hjl
  clear hj hat hx hq hz0 hz2 hlen
  clear hK hP hz hb hzb hc hcz hG hs n0 n1 n2 hB0 hB1 m3 h0 hW1 hs0
  go_enter Tryz.func5, Tryz.ntmps5
  go_upto_region 1 with fail
  rw [← hW0]
  clear hW0
  go_upto_region 2 with (refine wpList_store_new rfl 25 (.tmp 6) (.tmp 24) rfl _ _ rfl rfl info25s rfl rfl ?_)
  rw [← HW1.out, HS0.out]
  clear d0 d1 HW1 HS0
  go_upto_region 6 with (first | (go_at_call 14; refine ck.mono ?_; rintro e w' ⟨rfl, hw'⟩; obtain rfl := hw'.symm) | (go_at_call 15; refine cb.mono ?_; rintro e w' ⟨rfl, hw'⟩; obtain rfl := hw'.symm))
  go_upto_region 7 with (refine wpList_append_E rfl (.tmp 35) (.tmp 37) 22 rfl (.slice none 0 0) (.slice a1 L.length c1) (by first | rfl | simp [Act.eval, Act.put]) (by first | rfl | simp [Act.eval, Act.put]) (P1.out _) ?_; rintro v9 W2 ⟨h02, h9⟩)
  have f1 : W2.cell? ⟨w.heap.size, 1, none⟩ = some (.slice a2 B.length c2) := cell_at h02.2.1 rfl
  have P2' := Lib.hid (P2.out W2 v9 h02 h9)
  clear e0 e1 e2 P1 P2 h02 h9 ck cb
  go_upto_region 8 with (refine wpList_append_E rfl (.tmp 39) (.tmp 41) 23 rfl (.slice none 0 0) (.slice a2 B.length c2) (by first | rfl | simp [Act.eval, Act.put]) (by first | rfl | simp [Act.eval, Act.put]) (P2'.out _) ?_; rintro v10 W3 h3)
  clear f1 P2'
  obtain ⟨a9, c9, rfl⟩ := own_slice h3.2.2.2.2.2.1
  obtain ⟨a10, c10, rfl⟩ := own_slice h3.2.2.2.2.2.2
  obtain ⟨hcap, hHas, hAp⟩ := HA.out _ a10 c10 W3.drew h3.drew
  have HHas := Lib.hid hHas
  have HAp := Lib.hid hAp
  have hjc : j ≤ c10 := by omega
  have k0 : W3.cell? ⟨w.heap.size + 1, 0, none⟩ = some (.int .i64 6) := cell_at h3.2.2.1 rfl
  clear h3 HA hX HK HCC HCZ HG HS hHas hAp
  go_upto_region 66 with fail
  have hp1 : 0 ≤ (j : Int) + 1 := by omega
  have hp2 : (j : Int) + 1 ≤ (B.length : Int) := by omega
  have hp3 : (j : Int) ≤ (c10 : Int) := by omega
  have H3 := Lib.hid (hasC_drop (sz := 5) HHas.out hj1 hcap (by rw [HLN.out, hz1]))
  have HAp' := Lib.hid (HAp.out _ (by have := H3.out; rw [hz1]; exact this))
  clear HAp HHas
  go_region_law (refine step_append_E rfl (.tmp 241) (.tmp 245) 23 rfl (.slice a10 j j) (.slice (if c10 = j + 1 then a10 else Option.map (fun x => x.add ((j + 1) * 5)) a10) (B.length - (j + 1)) (c10 - (j + 1))) (by simp [Act.eval, Act.put]) (by simp [Act.eval, Act.put]) (HAp'.out _) ?_; rintro v1 w1 ⟨⟨a', l', c', rfl⟩, ⟨z0, z1⟩, z2⟩; have HZ := Lib.hid z2; clear z2)
  all_goals go_upto_region 73 with fail
  all_goals
    obtain ⟨⟨y0, y1⟩, cR⟩ := HZ.out _ rfl
    clear HZ HAp'
    go_upto_region 74 with (go_at_call 4; refine cR.mono ?_; rintro e X ⟨rfl, hE⟩)
    have HE := Lib.hid hE
    clear hE cR y0 y1 z0 z1 k0
    by_cases hx : x = 0
    · obtain ⟨t0, t1, hR⟩ := HE.out.2.2 hx _ rfl
      obtain ⟨y0, y1, y2⟩ := HE.out.1
      have g0 := cell_at (i := 0) y2 rfl
      have g1 := cell_at (i := 1) y2 rfl
      have g2 := frz_at (i := 0) y2
      have g3 := frz_at (i := 1) y2
      have HR := Lib.hid hR
      have HT : Hid (_ ∧ _) := ⟨t0, t1⟩
      clear y2 hR t0 t1 HE
      subst hx
      go_wp2
      all_goals
        obtain ⟨t0, t1⟩ := HT.out
        refine bodyPost_ret (v := .tuple #[.agg #[.slice a1 L.length c1, .slice a' l' c'], .int .i64 0]) ?_ rfl ?_
        · simp [results, Tryz.results5, go_sem, t0, t1]
        · exact HR.out
    · obtain ⟨t0, t1, hR⟩ := HE.out.2.1 hx _ rfl
      obtain ⟨y0, y1, y2⟩ := HE.out.1
      have g0 := cell_at (i := 0) y2 rfl
      have g1 := cell_at (i := 1) y2 rfl
      have g2 := frz_at (i := 0) y2
      have g3 := frz_at (i := 1) y2
      have HR := Lib.hid hR
      have HT : Hid (_ ∧ _) := ⟨t0, t1⟩
      clear y2 hR t0 t1 HE
      go_wp2
      all_goals
        obtain ⟨t0, t1⟩ := HT.out
        refine bodyPost_ret (v := .tuple #[.agg #[.slice none 0 0, .slice none 0 0], .int .i64 x]) ?_ rfl ?_
        · simp [results, Tryz.results5, go_sem, t0, t1]
        · exact HR.out
end Go.Proofs.YtkmkhadacppdnaaGreatDoor
