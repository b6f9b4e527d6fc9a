/-
  kinref2.Change of a kind that is dropped.
-/
import Derived.Test.YtkmkhadacppdnaaGreatDoorM29
import Derived.Test.YtkmkhadacppdnaaGreatDoorM12
namespace Go.Proofs.YtkmkhadacppdnaaGreatDoor
open Go.RowKit
set_option linter.unusedVariables false
set_option linter.unusedSimpArgs false

theorem Pro.drewN {w W : World} {S C : Array Value} {L : List Kd} {B : List Bd} {v9 v10 : Value} (h : Pro w S C L B v9 v10 W) (n : Nat) : Pro w S C L B v9 v10 (W.drewN n) := ⟨b_drewK h.1 n, h.2.1, h.2.2.1, h.2.2.2.1, h.2.2.2.2.1, own_kt h.2.2.2.2.2.1 (.of_below (b_drewK (Below.refl _ _) n)), own_kt h.2.2.2.2.2.2 (.of_below (b_drewK (Below.refl _ _) n))⟩
theorem usK_step {L : List Kd} {k : Nat} {p : Kd} (h : L[k]? = some p) (n : Nm) : usK (L.drop k) n = (hasN p.of n || usK (L.drop (k + 1)) n) := by rw [dropK h]; rfl
theorem usB_step {B : List Bd} {k : Nat} {p : Bd} (h : B[k]? = some p) (n : Nm) : usB (B.drop k) n = ((p.fr == n || p.tt == n) || usB (B.drop (k + 1)) n) := by rw [dropK h]; rfl
set_option maxHeartbeats 8000000 in
set_option maxRecDepth 100000 in
theorem rc_2 {w : World} {vk vb : Value} {L : List Kd} {B : List Bd} (c : Ch) (hK : IsK w vk L) (hP : Parts w L) (hz : SzK L) (hb : IsB w vb B) (hzb : SzB B) (hs : (sErr L B).2 = 0) (hc : ChIs w c) (hcz : ChSz c) (hw : c.wh = 2) (hx : ¬ idxK c.nm L 0 = -1) :
    Calls Tryz.prog 5 #[.agg #[vk, vb], c.one] w (RcP w (if usK L c.nm = true then 6 else if usB B c.nm = true then 6 else (sErr (L.eraseIdx (nmAt L c.nm)) B).2) (L.eraseIdx (nmAt L c.nm)) (B)) := by
  obtain ⟨hG, hn, hnb⟩ := good_of hs
  obtain ⟨wh, nm, ⟨kn, ko, kf, vo, vf⟩, ⟨bn, bf, bt, mn, mx⟩, ⟨fn, ft, fm, fk⟩, vt, vn, vs, tn⟩ := c
  obtain ⟨a1, c1, rfl, _⟩ := hK.sln
  obtain ⟨a2, c2, rfl, _⟩ := hb.sln
  obtain ⟨ao, lo1, co, q1⟩ := hc.1.sl
  obtain ⟨af, lf1, cf, q2⟩ := hc.2.sl
  simp only at q1 q2 hw hc hcz hx ⊢
  subst q1 q2 hw
  obtain ⟨W0, hW0⟩ : ∃ W0, W0 = ((w.alloc (.cells #[.slice a1 L.length c1, .slice a2 B.length c2] 25)).alloc (.cells #[.int .i64 2, .string (bs nm), .string (bs kn), .slice ao lo1 co, .slice af lf1 cf, .string (bs bn), .string (bs bf), .string (bs bt), .int .i64 mn, .int .i64 mx, .string (bs fn), .int .i64 ft, .bool fm, .bool fk, .int .i64 vt, .int .i64 vn, .string (bs vs), .string (bs tn)] 37)).alloc (.cells #[.slice none 0 0, .slice none 0 0] 25) := ⟨_, rfl⟩
  have hB0 : Below w.heap.size w W0 := by rw [hW0]; exact b_alloc (b_alloc (b_alloc (Below.refl _ _) _) _) _
  have hs0 : W0.heap.size = w.heap.size + 3 := by rw [hW0]; simp
  have n0 : W0.heap[w.heap.size]? = some (.cells #[.slice a1 L.length c1, .slice a2 B.length c2] 25 (0, 0)) := by rw [hW0]; exact (heap_alloc_old _ _ (by simp; omega)).trans ((heap_alloc_old _ _ (by simp)).trans (heap_alloc_new w _))
  have n1 : W0.heap[w.heap.size + 1]? = some (.cells #[.int .i64 2, .string (bs nm), .string (bs kn), .slice ao lo1 co, .slice af lf1 cf, .string (bs bn), .string (bs bf), .string (bs bt), .int .i64 mn, .int .i64 mx, .string (bs fn), .int .i64 ft, .bool fm, .bool fk, .int .i64 vt, .int .i64 vn, .string (bs vs), .string (bs tn)] 37 (0, 0)) := by
    have := heap_alloc_new (w.alloc (.cells #[.slice a1 L.length c1, .slice a2 B.length c2] 25)) (.cells #[.int .i64 2, .string (bs nm), .string (bs kn), .slice ao lo1 co, .slice af lf1 cf, .string (bs bn), .string (bs bf), .string (bs bt), .int .i64 mn, .int .i64 mx, .string (bs fn), .int .i64 ft, .bool fm, .bool fk, .int .i64 vt, .int .i64 vn, .string (bs vs), .string (bs tn)] 37)
    rw [World.size_alloc] at this; rw [hW0]; exact (heap_alloc_old _ _ (by simp)).trans this
  have n2 : W0.heap[w.heap.size + 2]? = some (.cells #[.slice none 0 0, .slice none 0 0] 25 (0, 0)) := by
    have := heap_alloc_new ((w.alloc (.cells #[.slice a1 L.length c1, .slice a2 B.length c2] 25)).alloc (.cells #[.int .i64 2, .string (bs nm), .string (bs kn), .slice ao lo1 co, .slice af lf1 cf, .string (bs bn), .string (bs bf), .string (bs bt), .int .i64 mn, .int .i64 mx, .string (bs fn), .int .i64 ft, .bool fm, .bool fk, .int .i64 vt, .int .i64 vn, .string (bs vs), .string (bs tn)] 37)) (.cells #[.slice none 0 0, .slice none 0 0] 25)
    rw [World.size_alloc, World.size_alloc] at this; rw [hW0]; exact this
  obtain ⟨W1, hW1⟩ : ∃ W1, W1 = W0.alloc (.cells #[.slice a1 L.length c1, .slice a2 B.length c2] 25) := ⟨_, rfl⟩
  have hB1 : Below W0.heap.size W0 W1 := by rw [hW1]; exact b_alloc (Below.refl _ _) _
  have m3 : W1.heap[w.heap.size + 3]? = some (.cells #[.slice a1 L.length c1, .slice a2 B.length c2] 25 (0, 0)) := by
    have := heap_alloc_new W0 (.cells #[.slice a1 L.length c1, .slice a2 B.length c2] 25)
    rw [hs0] at this; rw [hW1]; exact this
  have h0 : Pr0 w #[.slice a1 L.length c1, .slice a2 B.length c2] #[.int .i64 2, .string (bs nm), .string (bs kn), .slice ao lo1 co, .slice af lf1 cf, .string (bs bn), .string (bs bf), .string (bs bt), .int .i64 mn, .int .i64 mx, .string (bs fn), .int .i64 ft, .bool fm, .bool fk, .int .i64 vt, .int .i64 vn, .string (bs vs), .string (bs tn)] W1 := ⟨on1K hB0 hB1 (Nat.le_refl _), (hB1.block _ (by omega)).trans n0, (hB1.block _ (by omega)).trans n1, (hB1.block _ (by omega)).trans n2, m3⟩
  have P1 := Lib.hid (pro_first h0 hK hP hn)
  have P2 : Hid (∀ W v9, Pr0 w #[.slice a1 L.length c1, .slice a2 B.length c2] #[.int .i64 2, .string (bs nm), .string (bs kn), .slice ao lo1 co, .slice af lf1 cf, .string (bs bn), .string (bs bf), .string (bs bt), .int .i64 mn, .int .i64 mx, .string (bs fn), .int .i64 ft, .bool fm, .bool fk, .int .i64 vt, .int .i64 vn, .string (bs vs), .string (bs tn)] W → W.ownsRow (w.heap.size + 4) 29 3 v9 L.length (cellsK L) → ∀ ty, ∃ v' w', (Builtin.append_ #[23, 23] ty #[.slice none 0 0, .slice a2 B.length c2]).run Tryz.prog W = .ok v' w' ∧ Pro w #[.slice a1 L.length c1, .slice a2 B.length c2] #[.int .i64 2, .string (bs nm), .string (bs kn), .slice ao lo1 co, .slice af lf1 cf, .string (bs bn), .string (bs bf), .string (bs bt), .int .i64 mn, .int .i64 mx, .string (bs fn), .int .i64 ft, .bool fm, .bool fk, .int .i64 vt, .int .i64 vn, .string (bs vs), .string (bs tn)] L B v9 v' w') := fun W v9 q0 q9 => pro_next q0 q9 hb hnb
  have ck := rkind_any (hK.on h0.1) hn nm
  have cb := rbond_any (hb.on h0.1) hnb nm
  have d0 : W0.cell? ⟨w.heap.size, 0, none⟩ = some (.slice a1 L.length c1) := cell_at n0 rfl
  have d1 : W0.cell? ⟨w.heap.size, 1, none⟩ = some (.slice a2 B.length c2) := cell_at n0 rfl
  have e0 : W1.cell? ⟨w.heap.size, 0, none⟩ = some (.slice a1 L.length c1) := cell_at h0.2.1 rfl
  have e1 : W1.cell? ⟨w.heap.size, 1, none⟩ = some (.slice a2 B.length c2) := cell_at h0.2.1 rfl
  have e2 : W1.cell? ⟨w.heap.size + 1, 1, none⟩ = some (.string (bs nm)) := cell_at h0.2.2.1 rfl
  have HK : Hid (IsK w (.slice a1 L.length c1) L ∧ Parts w L ∧ SzK L ∧ IsB w (.slice a2 B.length c2) B ∧ SzB B) := ⟨hK, hP, hz, hb, hzb⟩
  have HCC := Lib.hid hc
  have HCZ := Lib.hid hcz
  have HG := Lib.hid hG
  have HS := Lib.hid hs
  have HW1 := Lib.hid hW1
  have HS0 := Lib.hid hs0
  obtain ⟨j, q, hj, hat, hq, _⟩ := nmAt_has hx
  have hjl := (List.getElem?_eq_some_iff.1 hq).1
  rw [hj] at ck
  have hjn : ¬ (j : Int) < 0 := by omega
  have hji : (j : Int) < (L.length : Int) := by omega
  rw [hat]
  have HU : Hid ((usK L nm = true → (if usK L nm = true then 6 else if usB B nm = true then 6 else (sErr (L.eraseIdx j) B).2) = 6) ∧ (usK L nm = false → usB B nm = true → (if usK L nm = true then 6 else if usB B nm = true then 6 else (sErr (L.eraseIdx j) B).2) = 6) ∧ (usK L nm = false → usB B nm = false → (sErr (L.eraseIdx j) B).2 = (if usK L nm = true then 6 else if usB B nm = true then 6 else (sErr (L.eraseIdx j) B).2))) := ⟨fun h => if_pos h, fun h g => by rw [if_neg (by rw [h]; decide), if_pos g], fun h g => by rw [if_neg (by rw [h]; decide), if_neg (by rw [g]; decide)]⟩
  generalize (if usK L nm = true then 6 else if usB B nm = true then 6 else (sErr (L.eraseIdx j) B).2) = x at HU ⊢
  obtain ⟨i0, hi0, hz0, hz1, hz2⟩ := info_parts infoKd
  have hlen : (cellsK L).length = L.length * 3 := cellsK_lenR L
  have h1c := cellsK_one hP.one
  have HA : Hid ((sErr (L.eraseIdx j) B).2 = x → ∀ a9 c9 v10 W3, Pro w #[.slice a1 L.length c1, .slice a2 B.length c2] #[.int .i64 2, .string (bs nm), .string (bs kn), .slice ao lo1 co, .slice af lf1 cf, .string (bs bn), .string (bs bf), .string (bs bt), .int .i64 mn, .int .i64 mx, .string (bs fn), .int .i64 ft, .bool fm, .bool fk, .int .i64 vt, .int .i64 vn, .string (bs vs), .string (bs tn)] L B (.slice a9 L.length c9) v10 W3 → L.length ≤ c9 ∧ HasC W3 (.slice a9 L.length c9) L.length (cellsK L) ∧ ∀ u, HasC W3 u (L.length - (j + 1)) ((cellsK L).drop ((j + 1) * 3)) → ∀ ty, ∃ v' w', (Builtin.append_ #[22, 22] ty #[.slice a9 j j, u]).run Tryz.prog W3 = .ok v' w' ∧ ((∃ a l c, v' = .slice a l c) ∧ (w'.cell? ⟨w.heap.size + 3, 0, none⟩ = some (.slice a1 L.length c1) ∧ w'.frozen? ⟨w.heap.size + 3, 0, none⟩ = false) ∧ ∀ Z, Z = w'.setCell ⟨w.heap.size + 3, 0, none⟩ v' → (Z.cell? ⟨w.heap.size + 3, 0, none⟩ = some v' ∧ Z.cell? ⟨w.heap.size + 3, 1, none⟩ = some (.slice a2 B.length c2)) ∧ Calls Tryz.prog 4 #[.agg #[v', .slice a2 B.length c2]] Z fun e X => e = .returned (.int .i64 x) ∧ EnF w v' (.slice a2 B.length c2) x (L.eraseIdx j) B X)) := fun hX a9 c9 v10 W3 h3 => by
    obtain ⟨q0, q1, q2, q3, q4, q9, q10⟩ := h3
    have hcap := own_cap q9
    have hI : IsK W3 (.slice a9 L.length c9) L := own_isK q9
    have hH := hasKd hI
    refine ⟨hcap, hH, fun u hu ty => ?_⟩
    have hsz : w.heap.size + 4 ≤ W3.heap.size := (Array.getElem?_eq_some_iff.1 q4).1
    have hx0 := hasC_take (sz := 3) hH (Nat.le_of_lt hjl) (cellsK_lenR L)
    have hx1 : HasC W3 (.slice a9 j j) j (cellsK (L.take j)) := by
      rw [cellsK_takeR]
      obtain ⟨a', c', e', h'⟩ := hx0
      injection e' with e1 e2 e3
      subst e1
      exact ⟨_, j, rfl, h'⟩
    rw [← cellsK_dropR] at hu
    obtain ⟨v', w', r1, r2⟩ := run_cut (P := Tryz.prog) W3 (w.heap.size + 4) 22 ty 29 i0 _ 3 64 Tryz.underlying22 hi0 hz0 hz1 hz2 rfl (by decide) a9 j (cellsK (L.take j)) hx1 ((cellsK_lenR _).trans (by rw [List.length_take_of_le (Nat.le_of_lt hjl)])) u (L.length - (j + 1)) (cellsK (L.drop (j + 1))) hu ((cellsK_lenR _).trans (by rw [List.length_drop])) (fun u hu => h1c u (by rw [cellsK_dropR] at hu; exact List.mem_of_mem_drop hu)) (by unfold maxLen; omega) (by omega) hsz
    have he : L.eraseIdx j = L.take j ++ L.drop (j + 1) := List.eraseIdx_eq_take_drop_succ L j
    have key : Pr0 w #[.slice a1 L.length c1, .slice a2 B.length c2] #[.int .i64 2, .string (bs nm), .string (bs kn), .slice ao lo1 co, .slice af lf1 cf, .string (bs bn), .string (bs bf), .string (bs bt), .int .i64 mn, .int .i64 mx, .string (bs fn), .int .i64 ft, .bool fm, .bool fk, .int .i64 vt, .int .i64 vn, .string (bs vs), .string (bs tn)] w' ∧ AnK w w' v' (L.eraseIdx j) ∧ ∃ a l c, v' = .slice a l c := by
      rcases r2 with ⟨hm0, rfl, rfl⟩ | ⟨hm0, r2, r3⟩
      · refine ⟨⟨q0, q1, q2, q3, q4⟩, .inr (.inr ?_), _, _, _, rfl⟩
        have he' : L.eraseIdx j = L.take j := by rw [he, List.drop_eq_nil_of_le (by omega), List.append_nil]
        rw [he']
        rcases hI with ⟨_, h0⟩ | ⟨g, off, cap, e', _, hm, hg, hl⟩
        · rw [h0] at hjl; simp at hjl
        · injection e' with e1 e2 e3
          subst e1
          rcases q9.2 with ⟨h0, _⟩ | ⟨g', cap', cur, h0, hb', hg', _⟩
          · cases h0
          · injection h0 with e4
            injection e4 with e4
            injection e4 with e4 e5
            subst e4 e5
            refine ⟨g, j, by rw [List.length_take_of_le (Nat.le_of_lt hjl)], by rw [List.length_take_of_le (Nat.le_of_lt hjl)]; exact Nat.le_refl _, by unfold maxLen; omega, hb', hg, fun i p hp => ?_⟩
            rw [List.getElem?_take] at hp
            split at hp
            · exact hl i p hp
            · cases hp
      · refine ⟨Pr0.grown (W := W3) ⟨q0, q1, q2, q3, q4⟩ r3 (fun g e => by cases e), .inr (.inl ?_), ?_⟩
        · rw [he, List.length_append, List.length_take_of_le (Nat.le_of_lt hjl), List.length_drop, cellsK_app]
          exact r2
        · obtain ⟨a, c, e⟩ := own_slice r2; exact ⟨a, _, c, e⟩
    obtain ⟨⟨u0, u1, u2, u3, u4⟩, hAn, hshape⟩ := key
    refine ⟨v', w', r1, hshape, ⟨cell_at u4 rfl, frz_at u4⟩, fun Z hZ => ?_⟩
    have z3 : Z.heap[w.heap.size + 3]? = some (.cells #[v', .slice a2 B.length c2] 25 (0, 0)) := by rw [hZ]; exact (heap_setCell_same w' _ 0 _ 25 _ u4)
    have z2 : Z.heap[w.heap.size + 2]? = some (.cells #[.slice none 0 0, .slice none 0 0] 25 (0, 0)) := by rw [hZ]; exact (heap_setCell_other w' ⟨w.heap.size + 3, 0, none⟩ (w.heap.size + 2) v' (by show w.heap.size + 2 ≠ w.heap.size + 3; omega)).trans u3
    have hE : EnS w w' v' (.slice a2 B.length c2) (L.eraseIdx j) B := ⟨hAn, fun k hk => ⟨(HK.out.2.1 k (List.mem_of_mem_eraseIdx hk)).1, .inl (HK.out.2.1 k (List.mem_of_mem_eraseIdx hk)).2⟩, .inl HK.out.2.2.2.1, u0⟩
    have hEZ : EnS w Z v' (.slice a2 B.length c2) (L.eraseIdx j) B := by rw [hZ]; exact hE.set (by omega) (by omega) _ _
    have := rc_end hEZ rfl (fun y hy => HK.out.2.2.1 y (List.mem_of_mem_eraseIdx hy)) HK.out.2.2.2.2 z2 z3
    rw [hX] at this
    exact ⟨⟨cell_at z3 rfl, cell_at z3 rfl⟩, this⟩
  have HSm : Hid (∀ k ∈ L, k.of.length ≤ 1000) := fun k hk => by have := (hG.small k hk).1; omega
  have hw1 : IntKind.i64.wrap ((j : Int) + 1) = ((j + 1 : Nat) : Int) := by rw [IntKind.wrap_i64]; omega
  have hj1 : j + 1 ≤ L.length := hjl
  have HLN := Lib.hid hlen
  clear hj hat hx hq hz0 hz2 hlen h1c
  clear hK hP hz hb hzb hc hcz hG hs n0 n1 n2 hB0 hB1 m3 h0 hW1 hs0
  go_enter Tryz.func5, Tryz.ntmps5
  go_upto_region 1 with fail
  rw [← hW0]
  clear hW0
  go_upto_region 2 with (refine wpList_store_new rfl 25 (.tmp 6) (.tmp 24) rfl _ _ rfl rfl info25s rfl rfl ?_)
  rw [← HW1.out, HS0.out]
  clear d0 d1 HW1 HS0
  go_upto_region 6 with (first | (go_at_call 14; refine ck.mono ?_; rintro e w' ⟨rfl, hw'⟩; obtain rfl := hw'.symm) | (go_at_call 15; refine cb.mono ?_; rintro e w' ⟨rfl, hw'⟩; obtain rfl := hw'.symm))
  go_upto_region 7 with (refine wpList_append_E rfl (.tmp 35) (.tmp 37) 22 rfl (.slice none 0 0) (.slice a1 L.length c1) (by first | rfl | simp [Act.eval, Act.put]) (by first | rfl | simp [Act.eval, Act.put]) (P1.out _) ?_; rintro v9 W2 ⟨h02, h9⟩)
  have f1 : W2.cell? ⟨w.heap.size, 1, none⟩ = some (.slice a2 B.length c2) := cell_at h02.2.1 rfl
  have P2' := Lib.hid (P2.out W2 v9 h02 h9)
  clear e0 e1 e2 P1 P2 h02 h9 ck cb
  go_upto_region 8 with (refine wpList_append_E rfl (.tmp 39) (.tmp 41) 23 rfl (.slice none 0 0) (.slice a2 B.length c2) (by first | rfl | simp [Act.eval, Act.put]) (by first | rfl | simp [Act.eval, Act.put]) (P2'.out _) ?_; rintro v10 W3 h3)
  clear f1 P2'
  obtain ⟨a10, c10, rfl⟩ := own_slice h3.2.2.2.2.2.2
  obtain ⟨a9, c9, rfl⟩ := own_slice h3.2.2.2.2.2.1
  have k0 : W3.cell? ⟨w.heap.size + 1, 0, none⟩ = some (.int .i64 2) := cell_at h3.2.2.1 rfl
  have H3 := Lib.hid h3
  clear h3
  go_upto_region 15 with fail
  clear k0
  go_wp2
  go_loopw [11] (fun i wr => ∃ k : Nat, k ≤ L.length ∧ i = .int .i64 k ∧ usK L nm = usK (L.drop k) nm ∧ Pro w #[.slice a1 L.length c1, .slice a2 B.length c2] #[.int .i64 2, .string (bs nm), .string (bs kn), .slice ao lo1 co, .slice af lf1 cf, .string (bs bn), .string (bs bf), .string (bs bt), .int .i64 mn, .int .i64 mx, .string (bs fn), .int .i64 ft, .bool fm, .bool fk, .int .i64 vt, .int .i64 vn, .string (bs vs), .string (bs tn)] L B (.slice a9 L.length c9) (.slice a10 B.length c10) wr) (fun i _ => L.length - (intOf i).toNat)
  case atStart => exact ⟨0, Nat.zero_le _, rfl, rfl, H3.out⟩
  case round =>
    obtain ⟨k, hk, rfl, hi, hPr⟩ := hrel
    have HI := Lib.hid hi
    have HPr := Lib.hid hPr
    have m1 : wr.cell? ⟨w.heap.size + 1, 1, none⟩ = some (.string (bs nm)) := cell_at hPr.2.2.1 rfl
    clear hi hPr H3
    by_cases hlt : k < L.length
    · obtain ⟨p, hp⟩ : ∃ p, L[k]? = some p := ⟨L[k], by simp [hlt]⟩
      have hpm : p ∈ L := List.mem_of_getElem? hp
      have hpo := (HK.out.2.1 p hpm).1.on HPr.out.1
      obtain ⟨po, pl, pc, epo⟩ := hpo.sl
      obtain ⟨g9, e9⟩ : ∃ g9, a9 = some ⟨g9, 0, none⟩ := by
        rcases HPr.out.2.2.2.2.2.1.2 with ⟨h00, h01⟩ | ⟨g9, c9', cur, e9, _⟩
        · omega
        · injection e9 with e9
          exact ⟨g9, e9⟩
      subst e9
      have m2 : wr.cell? ⟨g9, k * 3 + 1, none⟩ = some (.slice po pl pc) := by
        have := World.ownsRow.cells HPr.out.2.2.2.2.2.1 (g := g9) rfl (k * 3 + 1) _ ((flatK kd_len L k p 1 hp (by omega)).trans rfl)
        rw [Addr.add_lit, Nat.zero_add] at this; rw [← epo]; exact this
      have cI : ∀ n, Calls Tryz.prog 16 #[.slice po pl pc, .string (bs nm)] (wr.drewN n) fun e w' => e = .returned (.bool (hasN p.of nm)) ∧ w' = wr.drewN n := fun n => by
        have := in_any (w := wr.drewN n) (hpo.on (b_drewK (Below.refl _ _) n)) (HSm.out p hpm) nm
        rw [epo] at this; exact this
      have hst := usK_step hp nm
      have hlti : (k : Int) < (L.length : Int) := by omega
      have hwk : IntKind.i64.wrap ((k : Int) + 1) = ((k + 1 : Nat) : Int) := by rw [IntKind.wrap_i64]; omega
      cases hb : hasN p.of nm with
      | true =>
        rw [hb] at cI hst
        have h6 : Hid (x = 6) := HU.out.1 (by rw [HI.out, hst]; rfl)
        clear hst hp hpm hpo epo hb HI
        go_wp2_with fail
        go_quiet (exact Calls.quiet_of_same (cI _))
        obtain ⟨t0, t1, hR⟩ := rc_err (W := wr.drewN nq) (b_drewK HPr.out.1 nq) HPr.out.2.2.2.1 6 (by decide) (L.eraseIdx j) B _ rfl
        have g0 := cell_at (i := 0) HPr.out.2.2.2.1 rfl
        have g1 := cell_at (i := 1) HPr.out.2.2.2.1 rfl
        have g2 := frz_at (i := 0) HPr.out.2.2.2.1
        have g3 := frz_at (i := 1) HPr.out.2.2.2.1
        have HR := Lib.hid hR
        have HT : Hid (_ ∧ _) := ⟨t0, t1⟩
        clear hR t0 t1
        go_wp2
        obtain ⟨t0, t1⟩ := HT.out
        refine bodyPost_ret (v := .tuple #[.agg #[.slice none 0 0, .slice none 0 0], .int .i64 6]) ?_ rfl ?_
        · simp [results, Tryz.results5, go_sem, t0, t1]
        · rw [h6.out]; exact HR.out
      | false =>
        rw [hb] at cI hst
        have HI2 : Hid (usK L nm = usK (L.drop (k + 1)) nm) := by show _ = _; rw [HI.out, hst]; rfl
        clear hst hp hpm hpo epo hb HI
        go_wp2_with fail
        go_quiet (exact Calls.quiet_of_same (cI _))
        go_wp2
        refine ⟨?_, ?_⟩
        · first | exact ⟨k + 1, by omega, by go_num, HI2.out, HPr.out.drewN _⟩ | ((repeat apply Exists.intro); refine ⟨?_, rfl⟩; exact ⟨k + 1, by omega, by go_num, HI2.out, HPr.out.drewN _⟩)
        · simp [intOf]
          try omega
    · have hU1 : usK L nm = false := by rw [HI.out, List.drop_eq_nil_of_le (by omega)]; rfl
      have HU1 := Lib.hid hU1
      clear hU1 HI
      go_wp2
      go_loopw [13] (fun i wr => ∃ k : Nat, k ≤ B.length ∧ i = .int .i64 k ∧ usB B nm = usB (B.drop k) nm ∧ Pro w #[.slice a1 L.length c1, .slice a2 B.length c2] #[.int .i64 2, .string (bs nm), .string (bs kn), .slice ao lo1 co, .slice af lf1 cf, .string (bs bn), .string (bs bf), .string (bs bt), .int .i64 mn, .int .i64 mx, .string (bs fn), .int .i64 ft, .bool fm, .bool fk, .int .i64 vt, .int .i64 vn, .string (bs vs), .string (bs tn)] L B (.slice a9 L.length c9) (.slice a10 B.length c10) wr) (fun i _ => B.length - (intOf i).toNat)
      case atStart => exact ⟨0, Nat.zero_le _, rfl, rfl, HPr.out⟩
      case round =>
        clear HPr m1
        obtain ⟨k2, hk2, rfl, hi, hPr⟩ := hrel
        have HI := Lib.hid hi
        have HPr := Lib.hid hPr
        have m1 : wr.cell? ⟨w.heap.size + 1, 1, none⟩ = some (.string (bs nm)) := cell_at hPr.2.2.1 rfl
        clear hi hPr
        by_cases hlt2 : k2 < B.length
        · obtain ⟨p, hp⟩ : ∃ p, B[k2]? = some p := ⟨B[k2], by simp [hlt2]⟩
          obtain ⟨g10, e10⟩ : ∃ g10, a10 = some ⟨g10, 0, none⟩ := by
            rcases HPr.out.2.2.2.2.2.2.2 with ⟨h00, h01⟩ | ⟨g10, c10', cur, e10, _⟩
            · omega
            · injection e10 with e10
              exact ⟨g10, e10⟩
          subst e10
          have m2 : wr.cell? ⟨g10, k2 * 5 + 1, none⟩ = some (.string (bs p.fr)) := by
            have := World.ownsRow.cells HPr.out.2.2.2.2.2.2 (g := g10) rfl (k2 * 5 + 1) _ ((flatK bd_len B k2 p 1 hp (by omega)).trans rfl)
            rw [Addr.add_lit, Nat.zero_add] at this; exact this
          have m3 : wr.cell? ⟨g10, k2 * 5 + 2, none⟩ = some (.string (bs p.tt)) := by
            have := World.ownsRow.cells HPr.out.2.2.2.2.2.2 (g := g10) rfl (k2 * 5 + 2) _ ((flatK bd_len B k2 p 2 hp (by omega)).trans rfl)
            rw [Addr.add_lit, Nat.zero_add] at this; exact this
          have hst := usB_step hp nm
          have hlti : (k2 : Int) < (B.length : Int) := by omega
          cases h1 : (p.fr == nm) with
          | true =>
            have h6 : Hid (x = 6) := HU.out.2.1 HU1.out (by rw [HI.out, hst, h1]; rfl)
            have hq2 : ((bs p.fr).toList == (bs nm).toList) = true := by simpa using h1
            clear hst hp HI
            go_wp2_with fail
            go_quiet (fail)
            obtain ⟨t0, t1, hR⟩ := rc_err (W := wr.drewN nq) (b_drewK HPr.out.1 nq) HPr.out.2.2.2.1 6 (by decide) (L.eraseIdx j) B _ rfl
            have g0 := cell_at (i := 0) HPr.out.2.2.2.1 rfl
            have g1 := cell_at (i := 1) HPr.out.2.2.2.1 rfl
            have g2 := frz_at (i := 0) HPr.out.2.2.2.1
            have g3 := frz_at (i := 1) HPr.out.2.2.2.1
            have HR := Lib.hid hR
            have HT : Hid (_ ∧ _) := ⟨t0, t1⟩
            clear hR t0 t1
            go_wp2
            obtain ⟨t0, t1⟩ := HT.out
            refine bodyPost_ret (v := .tuple #[.agg #[.slice none 0 0, .slice none 0 0], .int .i64 6]) ?_ rfl ?_
            · simp [results, Tryz.results5, go_sem, t0, t1]
            · rw [h6.out]; exact HR.out
          | false =>
            cases h2 : (p.tt == nm) with
            | true =>
              have h6 : Hid (x = 6) := HU.out.2.1 HU1.out (by rw [HI.out, hst, h1, h2]; rfl)
              have hq2 : ((bs p.tt).toList == (bs nm).toList) = true := by simpa using h2
              clear hst hp HI
              go_wp2_with fail
              go_quiet (fail)
              obtain ⟨t0, t1, hR⟩ := rc_err (W := wr.drewN nq) (b_drewK HPr.out.1 nq) HPr.out.2.2.2.1 6 (by decide) (L.eraseIdx j) B _ rfl
              have g0 := cell_at (i := 0) HPr.out.2.2.2.1 rfl
              have g1 := cell_at (i := 1) HPr.out.2.2.2.1 rfl
              have g2 := frz_at (i := 0) HPr.out.2.2.2.1
              have g3 := frz_at (i := 1) HPr.out.2.2.2.1
              have HR := Lib.hid hR
              have HT : Hid (_ ∧ _) := ⟨t0, t1⟩
              clear hR t0 t1
              go_wp2
              obtain ⟨t0, t1⟩ := HT.out
              refine bodyPost_ret (v := .tuple #[.agg #[.slice none 0 0, .slice none 0 0], .int .i64 6]) ?_ rfl ?_
              · simp [results, Tryz.results5, go_sem, t0, t1]
              · rw [h6.out]; exact HR.out
            | false =>
              have HI2 : Hid (usB B nm = usB (B.drop (k2 + 1)) nm) := by show _ = _; rw [HI.out, hst, h1, h2]; rfl
              clear hst hp HI
              go_wp2_with fail
              go_quiet (fail)
              go_wp2
              refine ⟨?_, ?_⟩
              · first | exact ⟨k2 + 1, by omega, by go_num, HI2.out, HPr.out.drewN _⟩ | ((repeat apply Exists.intro); refine ⟨?_, rfl⟩; exact ⟨k2 + 1, by omega, by go_num, HI2.out, HPr.out.drewN _⟩)
              · simp [intOf]
                try omega
        · have hU2 : usB B nm = false := by rw [HI.out, List.drop_eq_nil_of_le (by omega)]; rfl
          obtain ⟨hcap, hHas, hAp⟩ := HA.out (HU.out.2.2 HU1.out hU2) _ _ _ wr.drew HPr.out.drew
          have H3 := Lib.hid (hasC_drop (sz := 3) hHas hj1 hcap HLN.out)
          have HAp' := Lib.hid (hAp _ H3.out)
          have hjc : j ≤ c9 := by omega
          have hp1 : 0 ≤ (j : Int) + 1 := by omega
          have hp2 : (j : Int) + 1 ≤ (L.length : Int) := by omega
          have hp3 : (j : Int) ≤ (c9 : Int) := by omega
          clear hAp hHas hU2 HA HU HU1 HI HPr m1 HK HCC HCZ HG HS HSm HLN
          go_upto_region 26 with fail
          go_region_law (refine step_append_E rfl (.tmp 103) (.tmp 107) 22 rfl (.slice a9 j j) (.slice (if c9 = j + 1 then a9 else Option.map (fun x => x.add ((j + 1) * 3)) a9) (L.length - (j + 1)) (c9 - (j + 1))) (by simp [Act.eval, Act.put]) (by simp [Act.eval, Act.put]) (HAp'.out _) ?_; rintro v1 w1 ⟨⟨a', l', c', rfl⟩, ⟨z0, z1⟩, z2⟩; have HZ := Lib.hid z2; clear z2)
          all_goals go_upto_region 73 with fail
          all_goals
            obtain ⟨⟨y0, y1⟩, cR⟩ := HZ.out _ rfl
            clear HZ HAp'
            go_upto_region 74 with (go_at_call 4; refine cR.mono ?_; rintro e X ⟨rfl, hE⟩)
            have HE := Lib.hid hE
            clear hE cR y0 y1 z0 z1
            by_cases hx : x = 0
            · obtain ⟨t0, t1, hR⟩ := HE.out.2.2 hx _ rfl
              obtain ⟨y0, y1, y2⟩ := HE.out.1
              have g0 := cell_at (i := 0) y2 rfl
              have g1 := cell_at (i := 1) y2 rfl
              have g2 := frz_at (i := 0) y2
              have g3 := frz_at (i := 1) y2
              have HR := Lib.hid hR
              have HT : Hid (_ ∧ _) := ⟨t0, t1⟩
              clear y2 hR t0 t1 HE
              subst hx
              go_wp2
              all_goals
                obtain ⟨t0, t1⟩ := HT.out
                refine bodyPost_ret (v := .tuple #[.agg #[.slice a' l' c', .slice a2 B.length c2], .int .i64 0]) ?_ rfl ?_
                · simp [results, Tryz.results5, go_sem, t0, t1]
                · exact HR.out
            · obtain ⟨t0, t1, hR⟩ := HE.out.2.1 hx _ rfl
              obtain ⟨y0, y1, y2⟩ := HE.out.1
              have g0 := cell_at (i := 0) y2 rfl
              have g1 := cell_at (i := 1) y2 rfl
              have g2 := frz_at (i := 0) y2
              have g3 := frz_at (i := 1) y2
              have HR := Lib.hid hR
              have HT : Hid (_ ∧ _) := ⟨t0, t1⟩
              clear y2 hR t0 t1 HE
              go_wp2
              all_goals
                obtain ⟨t0, t1⟩ := HT.out
                refine bodyPost_ret (v := .tuple #[.agg #[.slice none 0 0, .slice none 0 0], .int .i64 x]) ?_ rfl ?_
                · simp [results, Tryz.results5, go_sem, t0, t1]
                · exact HR.out
end Go.Proofs.YtkmkhadacppdnaaGreatDoor

/-
  Where a field is, in sorted fields.
-/
namespace Go.Proofs.YtkmkhadacppdnaaGreatDoor
open Go.RowKit
set_option linter.unusedVariables false
set_option linter.unusedSimpArgs false

theorem idxF_no (n : Nm) : ∀ (l : List Fd) (k : Nat), (∀ x ∈ l, x.nm ≠ n) → idxF n l k = -1
  | [], _, _ => rfl
  | g :: r, k, h => by
    unfold idxF
    rw [if_neg (by simpa using h g (by simp))]
    exact idxF_no n r (k + 1) (fun x hx => h x (by simp [hx]))
theorem idxF_srt (n : Nm) : ∀ (l : List Fd) (k : Nat), Srt l → idxF n l k = if fnd n l = true then ((k + lo n l : Nat) : Int) else -1
  | [], _, _ => rfl
  | g :: r, k, h => by
    have hs := List.pairwise_cons.1 h
    cases hb : Op.bytesLess g.nm n with
    | true =>
      have hl : lo n (g :: r) = lo n r + 1 := by
        conv => lhs; unfold lo
        rw [if_pos hb]
      have hf : fnd n (g :: r) = fnd n r := by unfold fnd; rw [hl]; rfl
      have hne : ¬ (g.nm == n) = true := fun e => by
        have e' : g.nm = n := by simpa using e
        rw [e', less_irr] at hb
        cases hb
      conv => lhs; unfold idxF
      rw [if_neg hne, idxF_srt n r (k + 1) hs.2, hf, hl, show k + 1 + lo n r = k + (lo n r + 1) by omega]
    | false =>
      have hl : lo n (g :: r) = 0 := by
        unfold lo
        rw [if_neg (by rw [hb]; decide)]
      have hf : fnd n (g :: r) = (g.nm == n) := by unfold fnd; rw [hl]; rfl
      conv => lhs; unfold idxF
      rw [hf, hl]
      cases he : (g.nm == n) with
      | true => simp
      | false =>
        rw [if_neg (by decide), if_neg (by decide)]
        refine idxF_no n r (k + 1) (fun x hx e => ?_)
        have := hs.1 x hx
        rw [e, hb] at this
        cases this
end Go.Proofs.YtkmkhadacppdnaaGreatDoor
