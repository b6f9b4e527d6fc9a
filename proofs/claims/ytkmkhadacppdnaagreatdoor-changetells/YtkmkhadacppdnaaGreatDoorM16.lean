/-
  The walks of kinref1.Bond, kinref1.word and kinref1.Number.
-/
import Derived.Test.YtkmkhadacppdnaaGreatDoorM15
import Derived.Test.YtkmkhadacppdnaaGreatDoorM09
namespace Go.Proofs.YtkmkhadacppdnaaGreatDoor
open Go.RowKit
set_option linter.unusedVariables false
set_option linter.unusedSimpArgs false

set_option maxHeartbeats 4000000 in
set_option maxRecDepth 100000 in
theorem rbond_some (b off cap : Nat) (L : List Bd) (s : Nm) (w : World) (hL : LiesB w b off L) (hn : L.length ≤ 12) :
    Calls Tryz.prog 15 #[.slice (some ⟨b, off, none⟩) L.length cap, .string (bs s)] w fun e w' => e = .returned (.int .i64 (idxB s L 0)) ∧ w' = w := by
  go_enter Tryz.func15, Tryz.ntmps15
  go_wp2
  go_loop [5] (fun i => ∃ k : Nat, k ≤ L.length ∧ i = .int .i64 k ∧ idxB s L 0 = idxB s (L.drop k) k) (fun i => L.length - (intOf i).toNat)
  case atStart => exact ⟨0, Nat.zero_le _, rfl, rfl⟩
  case round =>
    obtain ⟨k, hk, rfl, hi⟩ := hrel
    have HI : Hid (idxB s L 0 = idxB s (L.drop k) k) := hi
    clear hi
    by_cases hlt : k < L.length
    · obtain ⟨p, hp⟩ : ∃ p, L[k]? = some p := ⟨L[k], by simp [hlt]⟩
      obtain ⟨c0, _, _⟩ := hL k p hp
      have HD : Hid (L.drop k = p :: L.drop (k + 1)) := dropK hp
      clear hp hL
      by_cases hq : (p.nm == s) = true
      · have H : Hid (idxB s L 0 = k) := by
          show _ = _
          rw [HI.out, HD.out]; unfold idxB; rw [if_pos hq]
        have hq2 : ((bs p.nm).toList == (bs s).toList) = true := by simpa using hq
        clear HI HD
        go_wp2
        go_ret
        exact ⟨ret_v (by rw [H.out]; rfl), rfl⟩
      · have H : Hid (idxB s L 0 = idxB s (L.drop (k + 1)) (k + 1)) := by
          show _ = _
          rw [HI.out, HD.out]; conv => lhs; unfold idxB
          rw [if_neg hq]
        have hq' : (p.nm == s) = false := by simpa using hq
        clear HI HD hq
        go_wp2
        go_round
        case rel => exact ⟨k + 1, by omega, by go_num, H.out⟩
        case measure => simp [intOf]; omega
    · have hd : L.drop k = [] := List.drop_eq_nil_of_le (by omega)
      have H : Hid (idxB s L 0 = -1) := by
        show _ = _
        rw [HI.out, hd]; rfl
      clear HI hd hL
      go_wp2
      go_ret
      exact ⟨ret_v (by rw [H.out]; rfl), rfl⟩
set_option maxHeartbeats 1000000 in
theorem rbond_nil (s : Nm) (w : World) : Calls Tryz.prog 15 #[.slice none 0 0, .string (bs s)] w fun e w' => e = .returned (.int .i64 (-1)) ∧ w' = w := by
  go_enter Tryz.func15, Tryz.ntmps15
  go_wp2
  go_loop [5] (fun i => i = .int .i64 0) (fun i => 0)
  case atStart => rfl
  case round =>
    obtain rfl := hrel
    go_wp2
    go_ret
    exact ⟨rfl, rfl⟩
theorem rbond_any {v : Value} {L : List Bd} {w : World} (h : IsB w v L) (hn : L.length ≤ 12) (s : Nm) :
    Calls Tryz.prog 15 #[v, .string (bs s)] w fun e w' => e = .returned (.int .i64 (idxB s L 0)) ∧ w' = w := by
  rcases h with ⟨rfl, rfl⟩ | ⟨b, off, cap, rfl, hcap, hm, hb, hl⟩
  · exact rbond_nil s w
  · exact rbond_some b off cap L s w hl hn

/-- A comma or a colon. -/
def noW (c : UInt8) : Bool := c == 44 || c == 58
theorem noW_iff (c : UInt8) : (noW c = true) ↔ ((c.toNat : Int) = 44 ∨ (c.toNat : Int) = 58) := by
  unfold noW
  rw [Bool.or_eq_true, beq_iff_eq, beq_iff_eq, ← UInt8.toNat_inj, ← UInt8.toNat_inj]
  simp; omega
/-- A word without a comma and a colon. -/
def wrd (s : Nm) : Bool := if s = [] then false else !(hasP noW s)
theorem ret_bl {a b : Bool} (h : a = b) : Ending.returned (.bool a) = .returned (.bool b) := by rw [h]
end Go.Proofs.YtkmkhadacppdnaaGreatDoor

/-
  The walk of kinref1.Schema.
-/
namespace Go.Proofs.YtkmkhadacppdnaaGreatDoor
open Go.RowKit
set_option linter.unusedVariables false
set_option linter.unusedSimpArgs false

set_option maxHeartbeats 8000000 in
set_option maxRecDepth 100000 in
theorem rschema_any {vk vb : Value} {L : List Kd} {B : List Bd} {w : World} (hK : IsK w vk L) (hP : Parts w L) (hz : SzK L) (hb : IsB w vb B) (hzb : SzB B) :
    Calls Tryz.prog 13 #[.agg #[vk, vb]] w fun e w' => e = .returned (.tuple #[.string (bs (sErr L B).1), .int .i64 (sErr L B).2]) ∧ Below w.heap.size w w' := by
  obtain ⟨ak, ck, evk, hkl⟩ := hK.sln
  obtain ⟨ab, cb, evb, hbc, hbm, hvb⟩ := isB_view hb
  obtain ⟨_, _, _, hbl⟩ := hb.sln
  subst evk
  subst evb
  have hB0 : Below w.heap.size w (w.alloc (.cells #[.slice ak L.length ck, .slice ab B.length cb] 25)) := b_allocK (Below.refl _ _) (Nat.le_refl _) _
  have ck1 := rkinds_any (hK.on hB0) (hP.on hB0) hz
  have HH : Hid (IsK w (.slice ak L.length ck) L ∧ SzB B ∧ (B.length ≤ cb ∨ B = []) ∧ (∀ (j : Nat) g, B[j]? = some g → ∃ b o, ab = some ⟨b, o, none⟩ ∧ b < w.heap.size ∧ LiesB w b o B) ∧ cb ≤ maxLen) := ⟨hK, hzb, hbc, hvb, hbm⟩
  have HB0 : Hid (Below w.heap.size w (w.alloc (.cells #[.slice ak L.length ck, .slice ab B.length cb] 25))) := hB0
  unfold maxLen at hkl hbl hbm
  clear hK hP hz hb hzb hvb hbc hB0
  by_cases h1 : (ksErr L).2 = 0
  · have HL12 : Hid (L.length ≤ 12) := (ksErr_good.1 h1).2
    have HE : Hid (sErr L B = if 12 < B.length then ([], 4) else bsGo L [] B) := by
      show _ = _
      unfold sErr; rw [if_pos h1]
    rw [h1] at ck1
    clear h1
    go_enter Tryz.func13, Tryz.ntmps13
    go_wp2_with (go_at_call 29; refine ck1.mono ?_; rintro e W1 ⟨rfl, hB1⟩; refine Hid.out ?_)
    refine Lib.hid ?_
    have g0 := hB1.cell (p := ⟨w.heap.size, 0, none⟩) (by simp)
    have g1 := hB1.cell (p := ⟨w.heap.size, 1, none⟩) (by simp)
    simp at g0 g1
    have hsz1 : w.heap.size < W1.heap.size := Nat.lt_of_lt_of_le (by simp) hB1.size
    have HBw1 : Hid (Below w.heap.size w W1) := on1K HB0.out hB1 (Nat.le_refl _)
    clear ck1 hB1
    by_cases h12 : 12 < B.length
    · have HE2 : Hid (sErr L B = ([], 4)) := by
        show _ = _
        rw [HE.out, if_pos h12]
      clear HE
      go_wp2
      go_ret2
      exact ⟨ret_v (by rw [HE2.out]; rfl), HBw1.out⟩
    · have HE2 : Hid (sErr L B = bsGo L [] B) := by
        show _ = _
        rw [HE.out, if_neg h12]
      clear HE
      go_wp2
      go_loopw [6] (fun i wr => ∃ k : Nat, k ≤ B.length ∧ i = .int .i64 k ∧ sErr L B = bsGo L (B.take k) (B.drop k) ∧ Below W1.heap.size W1 wr) (fun i _ => B.length - (intOf i).toNat)
      case atStart => exact ⟨0, Nat.zero_le _, rfl, by rw [HE2.out]; rfl, Below.refl _ _⟩
      case round =>
        obtain ⟨k, hk, rfl, hg, hB⟩ := hrel
        have HG : Hid (sErr L B = bsGo L (B.take k) (B.drop k)) := hg
        have hBw := on1K HBw1.out hB (Nat.le_refl _)
        clear hg
        have r0 := (hB.cell (p := ⟨w.heap.size, 0, none⟩) hsz1).trans g0
        have r1 := (hB.cell (p := ⟨w.heap.size, 1, none⟩) hsz1).trans g1
        have hszr : w.heap.size < wr.heap.size := Nat.lt_of_lt_of_le hsz1 hB.size
        by_cases hlt : k < B.length
        · obtain ⟨p, hp⟩ : ∃ p, B[k]? = some p := ⟨B[k], by simp [hlt]⟩
          obtain ⟨bx, ox, rfl, hbx, hlx⟩ := HH.out.2.2.2.1 k p hp
          obtain ⟨c0, c1, c2, c3, c4⟩ := hlx k p hp
          have d0 := (hBw.cell (p := ⟨bx, ox + k * 5, none⟩) hbx).trans c0
          have d1 := (hBw.cell (p := ⟨bx, ox + k * 5 + 1, none⟩) hbx).trans c1
          have d2 := (hBw.cell (p := ⟨bx, ox + k * 5 + 2, none⟩) hbx).trans c2
          have d3 := (hBw.cell (p := ⟨bx, ox + k * 5 + 3, none⟩) hbx).trans c3
          have d4 := (hBw.cell (p := ⟨bx, ox + k * 5 + 4, none⟩) hbx).trans c4
          have hsn : ¬ w.heap.size = wr.heap.size := by omega
          have hbr : bx < wr.heap.size := Nat.lt_of_lt_of_le hbx hBw.size
          have hcb : B.length ≤ cb := by
            rcases HH.out.2.2.1 with h | h
            · exact h
            · rw [h] at hlt; simp at hlt
          have hkc : (k : Int) ≤ (cb : Int) := by omega
          have hlen : (B.take k).length = k := List.length_take_of_le hk
          have HBx : Hid (Below w.heap.size w (wr.alloc (boxB p))) := b_allocK hBw (Nat.le_refl _) _
          have HBy : Hid (Below W1.heap.size W1 (wr.alloc (boxB p))) := b_allocK hB (Nat.le_refl _) _
          have cB : ∀ n, Calls Tryz.prog 15 #[.slice (some ⟨bx, ox, none⟩) k cb, .string (bs p.nm)] ((wr.alloc (boxB p)).drewN n) fun e w' => e = .returned (.int .i64 (idxB p.nm (B.take k) 0)) ∧ w' = (wr.alloc (boxB p)).drewN n := fun n => by
            have hBn : Below w.heap.size w ((wr.alloc (boxB p)).drewN n) := b_drewK HBx.out n
            have hI : IsB ((wr.alloc (boxB p)).drewN n) (.slice (some ⟨bx, ox, none⟩) k cb) (B.take k) := .inr ⟨bx, ox, cb, by rw [hlen], by rw [hlen]; omega, HH.out.2.2.2.2, Nat.lt_of_lt_of_le hbx hBn.size, (hlx.on hbx hBn).take k⟩
            exact rbond_any hI (by omega) p.nm
          have cK : ∀ n (s : Nm), Calls Tryz.prog 14 #[.slice ak L.length ck, .string (bs s)] ((wr.alloc (boxB p)).drewN n) fun e w' => e = .returned (.int .i64 (idxK s L 0)) ∧ w' = (wr.alloc (boxB p)).drewN n := fun n s => by
            have hBn : Below w.heap.size w ((wr.alloc (boxB p)).drewN n) := b_drewK HBx.out n
            exact rkind_any (HH.out.1.on hBn) HL12.out s
          have nm := fun w => rname_any (bs p.nm) w (by rw [bs_size]; exact HH.out.2.1 p (List.mem_of_getElem? hp))
          simp only [bs_data] at nm
          have HD : Hid (B.drop k = p :: B.drop (k + 1) ∧ B.take (k + 1) = B.take k ++ [p]) := ⟨dropK hp, takeK hp⟩
          have HX : Hid (∀ e : Int, bErr L (B.take k) p = e → ¬ e = 0 → sErr L B = (p.nm, e)) := fun e h1 h2 => by
            rw [HG.out, HD.out.1]
            conv => lhs; unfold bsGo
            rw [h1, if_neg h2]
          have HY : Hid (bErr L (B.take k) p = 0 → sErr L B = bsGo L (B.take (k + 1)) (B.drop (k + 1))) := fun h => by
            rw [HG.out, HD.out.1, HD.out.2]
            conv => lhs; unfold bsGo
            rw [if_pos h]
          clear c0 c1 c2 c3 c4 hp hlx hlen g0 g1 HG HD
          by_cases h1 : nErr p.nm = 0
          · have nm' : ∀ w, Calls Tryz.prog 20 #[.string (bs p.nm)] w fun e w' => e = .returned (.int .i64 0) ∧ w' = w := fun w => by
              have := nm w; rw [h1] at this; exact this
            clear nm
            rcases idxB_spec p.nm (B.take k) 0 with hx1 | ⟨j, q, hx1, _, _⟩
            · rw [hx1] at cB
              by_cases hf : idxK p.fr L 0 = -1
              · have cF : ∀ n, Calls Tryz.prog 14 #[.slice ak L.length ck, .string (bs p.fr)] ((wr.alloc (boxB p)).drewN n) fun e w' => e = .returned (.int .i64 (-1)) ∧ w' = (wr.alloc (boxB p)).drewN n := fun n => by
                  have := cK n p.fr; rw [hf] at this; exact this
                have HS : Hid (sErr L B = (p.nm, 5)) := HX.out 5 (by unfold bErr hasK; rw [if_pos h1, if_pos hx1, hf, if_neg (by decide)]) (by decide)
                clear h1 hx1 hf cK HX HY
                go_wp2_with (go_at_call 20; refine (nm' _).mono ?_; rintro e w' ⟨rfl, rfl⟩)
                go_quiet (exact Calls.quiet_of_same (cB _))
                go_wp2_with (go_at_call 14; refine (cF _).mono ?_; rintro e w' ⟨rfl, rfl⟩)
                go_ret2
                exact ⟨ret_v (by rw [HS.out]; rfl), b_drewK HBx.out _⟩
              · obtain ⟨jf, qf, hf', _, _⟩ : ∃ j q, idxK p.fr L 0 = ((0 + j : Nat) : Int) ∧ L[j]? = some q ∧ q.nm = p.fr := (idxK_spec p.fr L 0).resolve_left hf
                rw [Nat.zero_add] at hf'
                have cF : ∀ n, Calls Tryz.prog 14 #[.slice ak L.length ck, .string (bs p.fr)] ((wr.alloc (boxB p)).drewN n) fun e w' => e = .returned (.int .i64 jf) ∧ w' = (wr.alloc (boxB p)).drewN n := fun n => by
                  have := cK n p.fr; rw [hf'] at this; exact this
                have hF : hasK L p.fr = true := by unfold hasK; rw [hf']; simp
                by_cases ht : idxK p.tt L 0 = -1
                · have cT : ∀ n, Calls Tryz.prog 14 #[.slice ak L.length ck, .string (bs p.tt)] ((wr.alloc (boxB p)).drewN n) fun e w' => e = .returned (.int .i64 (-1)) ∧ w' = (wr.alloc (boxB p)).drewN n := fun n => by
                    have := cK n p.tt; rw [ht] at this; exact this
                  have HS : Hid (sErr L B = (p.nm, 5)) := HX.out 5 (by unfold bErr; rw [if_pos h1, if_pos hx1, if_pos hF]; unfold hasK; rw [ht, if_neg (by decide)]) (by decide)
                  clear h1 hx1 hf hF HX HY cF cT
                  go_wp2_with (go_at_call 20; refine (nm' _).mono ?_; rintro e w' ⟨rfl, rfl⟩)
                  go_quiet (exact Calls.quiet_of_same (cB _))
                  go_wp2_with (go_at_call 14; refine (cK _ _).mono ?_; rintro e w' ⟨rfl, rfl⟩; first | rw [hf'] | rw [ht'] | rw [ht])
                  go_ret2
                  exact ⟨ret_v (by rw [HS.out]; rfl), b_drewK HBx.out _⟩
                · obtain ⟨jt, qt, ht', _, _⟩ : ∃ j q, idxK p.tt L 0 = ((0 + j : Nat) : Int) ∧ L[j]? = some q ∧ q.nm = p.tt := (idxK_spec p.tt L 0).resolve_left ht
                  rw [Nat.zero_add] at ht'
                  have cT : ∀ n, Calls Tryz.prog 14 #[.slice ak L.length ck, .string (bs p.tt)] ((wr.alloc (boxB p)).drewN n) fun e w' => e = .returned (.int .i64 jt) ∧ w' = (wr.alloc (boxB p)).drewN n := fun n => by
                    have := cK n p.tt; rw [ht'] at this; exact this
                  have hT : hasK L p.tt = true := by unfold hasK; rw [ht']; simp
                  have HR0 : Hid (inRB p.mn p.mx = true → sErr L B = bsGo L (B.take (k + 1)) (B.drop (k + 1))) := fun h => HY.out (by unfold bErr; rw [if_pos h1, if_pos hx1, if_pos hF, if_pos hT, if_pos h])
                  have HR1 : Hid (¬ inRB p.mn p.mx = true → sErr L B = (p.nm, 1)) := fun h => HX.out 1 (by unfold bErr; rw [if_pos h1, if_pos hx1, if_pos hF, if_pos hT, if_neg h]) (by decide)
                  clear h1 hx1 hf ht hF hT HX HY cF cT
                  obtain ⟨mn, hmn⟩ : ∃ m, m = p.mn := ⟨_, rfl⟩
                  obtain ⟨mx, hmx⟩ : ∃ m, m = p.mx := ⟨_, rfl⟩
                  have key : (mn < 0) ∨ (¬ mn < 0 ∧ 20 < mn) ∨ (¬ mn < 0 ∧ ¬ 20 < mn ∧ mx < -1) ∨ (¬ mn < 0 ∧ ¬ 20 < mn ∧ ¬ mx < -1 ∧ 20 < mx) ∨ (¬ mn < 0 ∧ ¬ 20 < mn ∧ ¬ mx < -1 ∧ ¬ 20 < mx ∧ 0 ≤ mx ∧ mx < mn) ∨ (¬ mn < 0 ∧ ¬ 20 < mn ∧ ¬ mx < -1 ∧ ¬ 20 < mx ∧ ¬ 0 ≤ mx) ∨ (¬ mn < 0 ∧ ¬ 20 < mn ∧ ¬ mx < -1 ∧ ¬ 20 < mx ∧ 0 ≤ mx ∧ ¬ mx < mn) := by omega
                  rw [hmn, hmx] at key
                  clear hmn hmx mn mx
                  rcases key with k1 | ⟨k1, k2⟩ | ⟨k1, k2, k3⟩ | ⟨k1, k2, k3, k4⟩ | ⟨k1, k2, k3, k4, k5, k6⟩ | ⟨k1, k2, k3, k4, k5⟩ | ⟨k1, k2, k3, k4, k5, k6⟩
                  · have HS : Hid (sErr L B = (p.nm, 1)) := HR1.out (by rw [inR_iff]; omega)
                    clear HR0 HR1
                    go_wp2_with (go_at_call 20; refine (nm' _).mono ?_; rintro e w' ⟨rfl, rfl⟩)
                    go_quiet (exact Calls.quiet_of_same (cB _))
                    go_wp2_with (go_at_call 14; refine (cK _ _).mono ?_; rintro e w' ⟨rfl, rfl⟩; first | rw [hf'] | rw [ht'] | rw [ht])
                    go_ret2
                    exact ⟨ret_v (by rw [HS.out]; rfl), b_drewK HBx.out _⟩
                  · have HS : Hid (sErr L B = (p.nm, 1)) := HR1.out (by rw [inR_iff]; omega)
                    clear HR0 HR1
                    go_wp2_with (go_at_call 20; refine (nm' _).mono ?_; rintro e w' ⟨rfl, rfl⟩)
                    go_quiet (exact Calls.quiet_of_same (cB _))
                    go_wp2_with (go_at_call 14; refine (cK _ _).mono ?_; rintro e w' ⟨rfl, rfl⟩; first | rw [hf'] | rw [ht'] | rw [ht])
                    go_ret2
                    exact ⟨ret_v (by rw [HS.out]; rfl), b_drewK HBx.out _⟩
                  · have HS : Hid (sErr L B = (p.nm, 1)) := HR1.out (by rw [inR_iff]; omega)
                    clear HR0 HR1
                    go_wp2_with (go_at_call 20; refine (nm' _).mono ?_; rintro e w' ⟨rfl, rfl⟩)
                    go_quiet (exact Calls.quiet_of_same (cB _))
                    go_wp2_with (go_at_call 14; refine (cK _ _).mono ?_; rintro e w' ⟨rfl, rfl⟩; first | rw [hf'] | rw [ht'] | rw [ht])
                    go_ret2
                    exact ⟨ret_v (by rw [HS.out]; rfl), b_drewK HBx.out _⟩
                  · have HS : Hid (sErr L B = (p.nm, 1)) := HR1.out (by rw [inR_iff]; omega)
                    clear HR0 HR1
                    go_wp2_with (go_at_call 20; refine (nm' _).mono ?_; rintro e w' ⟨rfl, rfl⟩)
                    go_quiet (exact Calls.quiet_of_same (cB _))
                    go_wp2_with (go_at_call 14; refine (cK _ _).mono ?_; rintro e w' ⟨rfl, rfl⟩; first | rw [hf'] | rw [ht'] | rw [ht])
                    go_ret2
                    exact ⟨ret_v (by rw [HS.out]; rfl), b_drewK HBx.out _⟩
                  · have HS : Hid (sErr L B = (p.nm, 1)) := HR1.out (by rw [inR_iff]; omega)
                    clear HR0 HR1
                    go_wp2_with (go_at_call 20; refine (nm' _).mono ?_; rintro e w' ⟨rfl, rfl⟩)
                    go_quiet (exact Calls.quiet_of_same (cB _))
                    go_wp2_with (go_at_call 14; refine (cK _ _).mono ?_; rintro e w' ⟨rfl, rfl⟩; first | rw [hf'] | rw [ht'] | rw [ht])
                    go_ret2
                    exact ⟨ret_v (by rw [HS.out]; rfl), b_drewK HBx.out _⟩
                  · have HS : Hid (sErr L B = bsGo L (B.take (k + 1)) (B.drop (k + 1))) := HR0.out (by rw [inR_iff]; omega)
                    clear HR0 HR1
                    go_wp2_with (go_at_call 20; refine (nm' _).mono ?_; rintro e w' ⟨rfl, rfl⟩)
                    go_quiet (exact Calls.quiet_of_same (cB _))
                    go_wp2_with (go_at_call 14; refine (cK _ _).mono ?_; rintro e w' ⟨rfl, rfl⟩; first | rw [hf'] | rw [ht'] | rw [ht])
                    go_roundw
                    case rel => exact ⟨k + 1, by omega, by go_num, HS.out, b_drewK HBy.out _⟩
                    case measure => simp [intOf]; omega
                  · have HS : Hid (sErr L B = bsGo L (B.take (k + 1)) (B.drop (k + 1))) := HR0.out (by rw [inR_iff]; omega)
                    clear HR0 HR1
                    go_wp2_with (go_at_call 20; refine (nm' _).mono ?_; rintro e w' ⟨rfl, rfl⟩)
                    go_quiet (exact Calls.quiet_of_same (cB _))
                    go_wp2_with (go_at_call 14; refine (cK _ _).mono ?_; rintro e w' ⟨rfl, rfl⟩; first | rw [hf'] | rw [ht'] | rw [ht])
                    go_roundw
                    case rel => exact ⟨k + 1, by omega, by go_num, HS.out, b_drewK HBy.out _⟩
                    case measure => simp [intOf]; omega
            · have HS : Hid (sErr L B = (p.nm, 7)) := HX.out 7 (by unfold bErr; rw [if_pos h1, if_neg (by omega)]) (by decide)
              rw [hx1, Nat.zero_add] at cB
              clear h1 hx1 cK HX HY
              go_wp2_with (go_at_call 20; refine (nm' _).mono ?_; rintro e w' ⟨rfl, rfl⟩)
              go_quiet (exact Calls.quiet_of_same (cB _))
              go_wp2
              go_ret2
              exact ⟨ret_v (by rw [HS.out]; rfl), b_drewK HBx.out _⟩
          · have h2 := nErr_two h1
            have nm' : ∀ w, Calls Tryz.prog 20 #[.string (bs p.nm)] w fun e w' => e = .returned (.int .i64 2) ∧ w' = w := fun w => by
              have := nm w; rw [h2] at this; exact this
            have HS : Hid (sErr L B = (p.nm, 2)) := HX.out 2 (by unfold bErr; rw [if_neg h1, h2]) (by decide)
            clear h1 h2 nm cK cB HX HY
            go_wp2_with (go_at_call 20; refine (nm' _).mono ?_; rintro e w' ⟨rfl, rfl⟩)
            go_ret2
            exact ⟨ret_v (by rw [HS.out]; rfl), HBx.out⟩
        · have hd : B.drop k = [] := List.drop_eq_nil_of_le (by omega)
          have H : Hid (sErr L B = ([], 0)) := by
            show _ = _
            rw [HG.out, hd]; rfl
          clear HG hd
          go_wp2
          go_ret2
          exact ⟨ret_v (by rw [H.out]; rfl), hBw⟩
  · have HE : Hid (sErr L B = ksErr L ∧ ¬ (ksErr L).2 = 0) := by
      refine ⟨?_, h1⟩
      unfold sErr; rw [if_neg h1]
    have h1' : ((ksErr L).2 != 0) = true := by simpa using h1
    obtain ⟨r, hr⟩ : ∃ r, r = ksErr L := ⟨_, rfl⟩
    rw [← hr] at ck1 h1 h1'
    have HR : Hid (r = ksErr L) := hr
    clear hr
    go_enter Tryz.func13, Tryz.ntmps13
    go_wp2_with (go_at_call 29; refine ck1.mono ?_; rintro e W1 ⟨rfl, hB1⟩)
    go_ret2
    exact ⟨ret_v (by rw [HE.out.1, ← HR.out]; rfl), on1K HB0.out hB1 (Nat.le_refl _)⟩
end Go.Proofs.YtkmkhadacppdnaaGreatDoor

/-
  The walks of kinref1.Right and kinref1.Number.
-/
namespace Go.Proofs.YtkmkhadacppdnaaGreatDoor
open Go.RowKit
set_option linter.unusedVariables false
set_option linter.unusedSimpArgs false

set_option maxHeartbeats 1000000 in
theorem rright_any {vk vb : Value} {L : List Kd} {B : List Bd} {w : World} (hK : IsK w vk L) (hP : Parts w L) (hz : SzK L) (hb : IsB w vb B) (hzb : SzB B) :
    Calls Tryz.prog 4 #[.agg #[vk, vb]] w fun e w' => e = .returned (.int .i64 (sErr L B).2) ∧ Below w.heap.size w w' := by
  have c := fun W (h : Below w.heap.size w W) => rschema_any (hK.on h) (hP.on h) hz (hb.on h) hzb
  generalize sErr L B = r at c ⊢
  have hB0 : Below w.heap.size w (w.alloc (.cells #[vk, vb] 25)) := b_allocK (Below.refl _ _) (Nat.le_refl _) _
  have c0 := c w (Below.refl _ _)
  have c1 := c _ hB0
  clear hK hP hz hb hzb c
  go_enter Tryz.func4, Tryz.ntmps4
  go_wp2_with (go_at_call 13; first | (with_reducible refine c0.mono ?_; rintro e W1 ⟨rfl, hB1⟩) | (with_reducible refine c1.mono ?_; rintro e W1 ⟨rfl, hB1⟩))
  go_ret
  first | exact ⟨rfl, hB1⟩ | exact ⟨rfl, on1K hB0 hB1 (Nat.le_refl _)⟩

/-- No digit. -/
def noDg (c : UInt8) : Bool := decide (c.toNat < 48 ∨ 57 < c.toNat)
theorem noDg_iff (c : UInt8) : (noDg c = true) ↔ ((c.toNat : Int) < 48 ∨ 57 < (c.toNat : Int)) := by unfold noDg; simp; omega
/-- What digits say. -/
def dgV (l : Nm) : Int := l.foldl (fun a c => a * 10 + (c.toNat : Int) - 48) 0
/-- A number of at most two digits. -/
def numB (l : Nm) : Int × Bool := if l = [] ∨ 2 < l.length ∨ (l.head? = some 48 ∧ 1 < l.length) then (0, false) else if hasP noDg l = true then (0, false) else (dgV l, true)
theorem dgV_snoc (s : ByteArray) (k : Nat) (h : k < s.size) : dgV (s.data.toList.take (k + 1)) = dgV (s.data.toList.take k) * 10 + (s[k].toNat : Int) - 48 := by
  have hk : s.data.toList[k]? = some s[k] := by simp [ByteArray.getElem_eq_getElem_data, h]
  rw [List.take_add_one, hk]
  unfold dgV
  simp [List.foldl_append]
theorem rt_nb {a b : Int × Bool} (h : a = b) : Ending.returned (.tuple #[.int .i64 a.1, .bool a.2]) = .returned (.tuple #[.int .i64 b.1, .bool b.2]) := by rw [h]
end Go.Proofs.YtkmkhadacppdnaaGreatDoor

/-
  The walk of the reference of values.
-/
namespace Go.Proofs.YtkmkhadacppdnaaGreatDoor
open Go.RowKit
set_option linter.unusedVariables false
set_option linter.unusedSimpArgs false


/-- A call gives a value at every world, and nothing old turns. -/
abbrev Gives (f : Nat) (args : Array Value) (v : Value) : Prop := ∀ w, Calls Tryz.prog f args w fun e w' => e = .returned v ∧ Below w.heap.size w w'
/-- A value. -/
abbrev agg (t n : Int) (s : ByteArray) : Value := .agg #[.int .i64 t, .int .i64 n, .string s]
theorem bad_iff (c : UInt8) : (badB c = true) ↔ ((c.toNat : Int) < 32 ∨ 126 < (c.toNat : Int)) := by unfold badB; simp
set_option maxHeartbeats 2000000 in
set_option maxRecDepth 100000 in
theorem rvalue_text (s : ByteArray) (w : World) (hs : s.size ≤ maxLen) :
    Calls Tryz.prog 18 #[agg 3 0 s] w fun e w' => e = .returned (.int .i64 (tErr s.data.toList)) ∧ Below w.heap.size w w' := by
  have hsz := size_len s
  by_cases h20 : 20 < s.size
  · have H1 : Hid (tErr s.data.toList = 4) := by
      show _ = _
      unfold tErr; rw [if_pos (by omega)]
    clear hsz
    unfold maxLen at hs
    go_enter Tryz.func18, Tryz.ntmps18
    go_wp2
    go_ret
    exact ⟨ret_int (by rw [H1.out]), (Below.refl _ _).alloc (Nat.le_refl _) _⟩
  · have H1 : Hid (tErr s.data.toList = if hasP badB s.data.toList = true then 2 else 0) := by
      show _ = _
      unfold tErr; rw [if_neg (by omega)]
    clear hsz
    go_enter Tryz.func18, Tryz.ntmps18
    go_wp2
    go_loop [3] (fun i => ∃ k : Nat, k ≤ s.size ∧ i = .int .i64 k ∧ (s.data.toList.take k).any badB = false) (fun i => s.size - (intOf i).toNat)
    case atStart => exact ⟨0, Nat.zero_le _, rfl, rfl⟩
    case round =>
      obtain ⟨k, hk, rfl, hno⟩ := hrel
      have HN : Hid ((s.data.toList.take k).any badB = false) := hno
      clear hno
      by_cases hlt : k < s.size
      · by_cases hb : badB s[k] = true
        · have HB : Hid (badB s[k] = true) := hb
          rcases (bad_iff _).1 hb with h | h
          all_goals
            clear hb
            go_wp2
            go_ret
            exact ⟨ret_int (by rw [H1.out, if_pos (any_hit _ s k hlt HB.out).symm]), (Below.refl _ _).alloc (Nat.le_refl _) _⟩
        · have HB : Hid (badB s[k] = false) := by show _ = _; simpa using hb
          have h1 : 32 ≤ (s[k].toNat : Int) := by rw [bad_iff] at hb; omega
          have h2 : (s[k].toNat : Int) ≤ 126 := by rw [bad_iff] at hb; omega
          clear hb
          go_wp2
          go_round
          case rel => exact ⟨k + 1, by omega, by go_num, any_snoc _ s k hlt HN.out HB.out⟩
          case measure => simp [intOf]; omega
      · go_wp2
        go_ret
        exact ⟨ret_int (by rw [H1.out, if_neg (by rw [← any_end _ s k hlt HN.out]; decide)]), (Below.refl _ _).alloc (Nat.le_refl _) _⟩

set_option maxHeartbeats 2000000 in
set_option maxRecDepth 100000 in
theorem rvalue_type (t n : Int) (s : ByteArray) (w : World) (h : t < 1 ∨ 3 < t) :
    Calls Tryz.prog 18 #[agg t n s] w fun e w' => e = .returned (.int .i64 8) ∧ Below w.heap.size w w' := by
  rcases h with h | h
  all_goals
    go_enter Tryz.func18, Tryz.ntmps18
    go_wp2
    go_ret
    exact ⟨rfl, (Below.refl _ _).alloc (Nat.le_refl _) _⟩
set_option maxHeartbeats 2000000 in
set_option maxRecDepth 100000 in
theorem rvalue_range (t n : Int) (s : ByteArray) (w : World) (h : (t = 1 ∧ n < -1000000) ∨ (t = 1 ∧ 1000000 < n) ∨ (t = 2 ∧ n < 0) ∨ (t = 2 ∧ 1 < n) ∨ (t = 3 ∧ ¬ n = 0)) :
    Calls Tryz.prog 18 #[agg t n s] w fun e w' => e = .returned (.int .i64 1) ∧ Below w.heap.size w w' := by
  rcases h with ⟨rfl, h⟩ | ⟨rfl, h⟩ | ⟨rfl, h⟩ | ⟨rfl, h⟩ | ⟨rfl, h⟩
  · go_enter Tryz.func18, Tryz.ntmps18
    go_wp2
    go_ret
    exact ⟨rfl, (Below.refl _ _).alloc (Nat.le_refl _) _⟩
  · have h' : ¬ n < -1000000 := by omega
    go_enter Tryz.func18, Tryz.ntmps18
    go_wp2
    go_ret
    exact ⟨rfl, (Below.refl _ _).alloc (Nat.le_refl _) _⟩
  · go_enter Tryz.func18, Tryz.ntmps18
    go_wp2
    go_ret
    exact ⟨rfl, (Below.refl _ _).alloc (Nat.le_refl _) _⟩
  · have h' : ¬ n < 0 := by omega
    go_enter Tryz.func18, Tryz.ntmps18
    go_wp2
    go_ret
    exact ⟨rfl, (Below.refl _ _).alloc (Nat.le_refl _) _⟩
  · have h' : (n != 0) = true := by simpa using h
    clear h
    go_enter Tryz.func18, Tryz.ntmps18
    go_wp2
    go_ret
    exact ⟨rfl, (Below.refl _ _).alloc (Nat.le_refl _) _⟩
set_option maxHeartbeats 2000000 in
set_option maxRecDepth 100000 in
theorem rvalue_other (t n : Int) (s : ByteArray) (w : World) (h : (t = 1 ∧ -1000000 ≤ n ∧ n ≤ 1000000) ∨ (t = 2 ∧ 0 ≤ n ∧ n ≤ 1)) :
    Calls Tryz.prog 18 #[agg t n s] w fun e w' => e = .returned (.int .i64 (if s.data.toList = [] then 0 else 2)) ∧ Below w.heap.size w w' := by
  by_cases hE : s.data.toList = []
  · rw [if_pos hE]
    obtain rfl := list_eq hE
    rcases h with ⟨rfl, h1, h2⟩ | ⟨rfl, h1, h2⟩
    all_goals
      go_enter Tryz.func18, Tryz.ntmps18
      go_wp2
      go_loop [3] (fun i => i = .int .i64 0) (fun i => 0)
      case atStart => exact rfl
      case round =>
        obtain rfl := hrel
        go_wp2
        go_ret
        exact ⟨rfl, (Below.refl _ _).alloc (Nat.le_refl _) _⟩
  · rw [if_neg hE]
    have bE : s.toList.isEmpty = false := nonE s hE
    have bN : ¬ s.toList = [] := by rw [Lib.toList_data]; exact hE
    clear hE
    rcases h with ⟨rfl, h1, h2⟩ | ⟨rfl, h1, h2⟩
    all_goals
      go_enter Tryz.func18, Tryz.ntmps18
      go_wp2
      go_ret
      exact ⟨rfl, (Below.refl _ _).alloc (Nat.le_refl _) _⟩

theorem rvalue_any (t n : Int) (s : ByteArray) (hs : s.size ≤ maxLen) : Gives 18 #[agg t n s] (.int .i64 (vErr t n s.data.toList)) := fun w => by
  by_cases ht : t = 1 ∨ t = 2 ∨ t = 3
  · by_cases hr : inR t n = true
    · have hv : vErr t n s.data.toList = if t = 3 then tErr s.data.toList else if s.data.toList = [] then 0 else 2 := by unfold vErr; rw [if_pos ht, if_pos hr]
      rw [hv]
      rcases ht with rfl | rfl | rfl
      · rw [if_neg (by decide)]
        exact rvalue_other 1 n s w (Or.inl ⟨rfl, by simp [inR] at hr; omega, by simp [inR] at hr; omega⟩)
      · rw [if_neg (by decide)]
        exact rvalue_other 2 n s w (Or.inr ⟨rfl, by simp [inR] at hr; omega, by simp [inR] at hr; omega⟩)
      · rw [if_pos rfl]
        have hn : n = 0 := by simpa [inR] using hr
        subst hn
        exact rvalue_text s w hs
    · have hv : vErr t n s.data.toList = 1 := by unfold vErr; rw [if_pos ht, if_neg hr]
      rw [hv]
      refine rvalue_range t n s w ?_
      rcases ht with rfl | rfl | rfl
      · simp [inR] at hr; omega
      · simp [inR] at hr; omega
      · simp [inR] at hr; omega
  · have hv : vErr t n s.data.toList = 8 := by unfold vErr; rw [if_neg ht]
    rw [hv]
    exact rvalue_type t n s w (by omega)
end Go.Proofs.YtkmkhadacppdnaaGreatDoor
