/-
  The walks of kinref1.Bond, kinref1.word and kinref1.Number.
-/
import Derived.Test.YtgjlonilbhlneaaGreatDoorM28
import Derived.Test.YtgjlonilbhlneaaGreatDoorM08
namespace Go.Proofs.YtgjlonilbhlneaaGreatDoor
open Go.RowKit
set_option linter.unusedVariables false
set_option linter.unusedSimpArgs false

set_option maxHeartbeats 4000000 in
set_option maxRecDepth 100000 in
theorem rbond_some (b off cap : Nat) (L : List Bd) (s : Nm) (w : World) (hL : LiesB w b off L) (hn : L.length ≤ 12) :
    Calls Tryz.prog 13 #[.slice (some ⟨b, off, none⟩) L.length cap, .string (bs s)] w fun e w' => e = .returned (.int .i64 (idxB s L 0)) ∧ w' = w := by
  go_enter Tryz.func13, Tryz.ntmps13
  go_wp2
  go_loop [5] (fun i => ∃ k : Nat, k ≤ L.length ∧ i = .int .i64 k ∧ idxB s L 0 = idxB s (L.drop k) k) (fun i => L.length - (intOf i).toNat)
  case atStart => exact ⟨0, Nat.zero_le _, rfl, rfl⟩
  case round =>
    obtain ⟨k, hk, rfl, hi⟩ := hrel
    have HI : Hid (idxB s L 0 = idxB s (L.drop k) k) := hi
    clear hi
    by_cases hlt : k < L.length
    · obtain ⟨p, hp⟩ : ∃ p, L[k]? = some p := ⟨L[k], by simp [hlt]⟩
      obtain ⟨c0, _, _⟩ := hL k p hp
      have HD : Hid (L.drop k = p :: L.drop (k + 1)) := dropK hp
      clear hp hL
      by_cases hq : (p.nm == s) = true
      · have H : Hid (idxB s L 0 = k) := by
          show _ = _
          rw [HI.out, HD.out]; unfold idxB; rw [if_pos hq]
        have hq2 : ((bs p.nm).toList == (bs s).toList) = true := by simpa using hq
        clear HI HD
        go_wp2
        go_ret
        exact ⟨ret_v (by rw [H.out]; rfl), rfl⟩
      · have H : Hid (idxB s L 0 = idxB s (L.drop (k + 1)) (k + 1)) := by
          show _ = _
          rw [HI.out, HD.out]; conv => lhs; unfold idxB
          rw [if_neg hq]
        have hq' : (p.nm == s) = false := by simpa using hq
        clear HI HD hq
        go_wp2
        go_round
        case rel => exact ⟨k + 1, by omega, by go_num, H.out⟩
        case measure => simp [intOf]; omega
    · have hd : L.drop k = [] := List.drop_eq_nil_of_le (by omega)
      have H : Hid (idxB s L 0 = -1) := by
        show _ = _
        rw [HI.out, hd]; rfl
      clear HI hd hL
      go_wp2
      go_ret
      exact ⟨ret_v (by rw [H.out]; rfl), rfl⟩
set_option maxHeartbeats 1000000 in
theorem rbond_nil (s : Nm) (w : World) : Calls Tryz.prog 13 #[.slice none 0 0, .string (bs s)] w fun e w' => e = .returned (.int .i64 (-1)) ∧ w' = w := by
  go_enter Tryz.func13, Tryz.ntmps13
  go_wp2
  go_loop [5] (fun i => i = .int .i64 0) (fun i => 0)
  case atStart => rfl
  case round =>
    obtain rfl := hrel
    go_wp2
    go_ret
    exact ⟨rfl, rfl⟩
theorem rbond_any {v : Value} {L : List Bd} {w : World} (h : IsB w v L) (hn : L.length ≤ 12) (s : Nm) :
    Calls Tryz.prog 13 #[v, .string (bs s)] w fun e w' => e = .returned (.int .i64 (idxB s L 0)) ∧ w' = w := by
  rcases h with ⟨rfl, rfl⟩ | ⟨b, off, cap, rfl, hcap, hm, hb, hl⟩
  · exact rbond_nil s w
  · exact rbond_some b off cap L s w hl hn

def noW (c : UInt8) : Bool := c == 44 || c == 58
theorem noW_iff (c : UInt8) : (noW c = true) ↔ ((c.toNat : Int) = 44 ∨ (c.toNat : Int) = 58) := by
  unfold noW
  rw [Bool.or_eq_true, beq_iff_eq, beq_iff_eq, ← UInt8.toNat_inj, ← UInt8.toNat_inj]
  simp; omega
def wrd (s : Nm) : Bool := if s = [] then false else !(hasP noW s)
theorem ret_bl {a b : Bool} (h : a = b) : Ending.returned (.bool a) = .returned (.bool b) := by rw [h]
set_option maxHeartbeats 4000000 in
set_option maxRecDepth 100000 in
theorem rword_bytes (s : ByteArray) (w : World) (hs : s.size ≤ maxLen) :
    Calls Tryz.prog 31 #[.string s] w fun e w' => e = .returned (.bool (wrd s.data.toList)) ∧ w' = w := by
  by_cases hE : s.data.toList = []
  · obtain rfl := list_eq hE
    go_enter Tryz.func31, Tryz.ntmps31
    go_wp2
    go_loop [3] (fun i => i = .int .i64 0) (fun i => 0)
    case atStart => rfl
    case round =>
      obtain rfl := hrel
      go_wp2
      go_ret
      exact ⟨rfl, rfl⟩
  · have bE : s.toList.isEmpty = false := nonE s hE
    have bN : ¬ s.toList = [] := by rw [Lib.toList_data]; exact hE
    have hsz := size_len s
    have H1 : Hid (wrd s.data.toList = !(hasP noW s.data.toList)) := by
      show _ = _
      unfold wrd; rw [if_neg hE]
    clear hE hsz
    unfold maxLen at hs
    go_enter Tryz.func31, Tryz.ntmps31
    go_wp2
    go_loop [3] (fun i => ∃ k : Nat, k ≤ s.size ∧ i = .int .i64 k ∧ (s.data.toList.take k).any noW = false) (fun i => s.size - (intOf i).toNat)
    case atStart => exact ⟨0, Nat.zero_le _, rfl, rfl⟩
    case round =>
      obtain ⟨k, hk, rfl, hno⟩ := hrel
      have HN : Hid ((s.data.toList.take k).any noW = false) := hno
      clear hno
      by_cases hlt : k < s.size
      · by_cases hb : noW s[k] = true
        · have HB : Hid (noW s[k] = true) := hb
          have HF : Hid (false = wrd s.data.toList) := by
            show _ = _
            rw [H1.out, ← any_hit _ s k hlt HB.out]; rfl
          by_cases h44 : (s[k].toNat : Int) = 44
          · clear hb
            go_wp2
            go_ret
            exact ⟨ret_bl HF.out, rfl⟩
          · have h58 : (s[k].toNat : Int) = 58 := by rw [noW_iff] at hb; omega
            clear hb
            go_wp2
            go_ret
            exact ⟨ret_bl HF.out, rfl⟩
        · have HB : Hid (noW s[k] = false) := by show _ = _; simpa using hb
          have h1 : ((s[k].toNat : Int) == 44) = false := by rw [noW_iff] at hb; simp; omega
          have h2 : ((s[k].toNat : Int) == 58) = false := by rw [noW_iff] at hb; simp; omega
          clear hb
          go_wp2
          go_round
          case rel => exact ⟨k + 1, by omega, by go_num, any_snoc _ s k hlt HN.out HB.out⟩
          case measure => simp [intOf]; omega
      · have HF : Hid (true = wrd s.data.toList) := by
          show _ = _
          rw [H1.out, ← any_end _ s k hlt HN.out]; rfl
        go_wp2
        go_ret
        exact ⟨ret_bl HF.out, rfl⟩
theorem rword_any (s : Nm) (w : World) (hs : s.length ≤ maxLen) : Calls Tryz.prog 31 #[.string (bs s)] w fun e w' => e = .returned (.bool (wrd s)) ∧ w' = w := by
  have := rword_bytes (bs s) w (by rw [bs_size]; exact hs)
  simpa using this
end Go.Proofs.YtgjlonilbhlneaaGreatDoor

/-
  The walk of kinref1.Schema.
-/
namespace Go.Proofs.YtgjlonilbhlneaaGreatDoor
open Go.RowKit
set_option linter.unusedVariables false
set_option linter.unusedSimpArgs false

set_option maxHeartbeats 8000000 in
set_option maxRecDepth 100000 in
theorem rschema_any {vk vb : Value} {L : List Kd} {B : List Bd} {w : World} (hK : IsK w vk L) (hP : Parts w L) (hz : SzK L) (hb : IsB w vb B) (hzb : SzB B) :
    Calls Tryz.prog 5 #[.agg #[vk, vb]] w fun e w' => e = .returned (.tuple #[.string (bs (sErr L B).1), .int .i64 (sErr L B).2]) ∧ Below w.heap.size w w' := by
  obtain ⟨ak, ck, evk, hkl⟩ := hK.sln
  obtain ⟨ab, cb, evb, hbc, hbm, hvb⟩ := isB_view hb
  obtain ⟨_, _, _, hbl⟩ := hb.sln
  subst evk
  subst evb
  have hB0 : Below w.heap.size w (w.alloc (.cells #[.slice ak L.length ck, .slice ab B.length cb] 25)) := b_alloc (Below.refl _ _) (Nat.le_refl _) _
  have ck1 := rkinds_any (hK.on hB0) (hP.on hB0) hz
  have HH : Hid (IsK w (.slice ak L.length ck) L ∧ SzB B ∧ (B.length ≤ cb ∨ B = []) ∧ (∀ (j : Nat) g, B[j]? = some g → ∃ b o, ab = some ⟨b, o, none⟩ ∧ b < w.heap.size ∧ LiesB w b o B) ∧ cb ≤ maxLen) := ⟨hK, hzb, hbc, hvb, hbm⟩
  have HB0 : Hid (Below w.heap.size w (w.alloc (.cells #[.slice ak L.length ck, .slice ab B.length cb] 25))) := hB0
  unfold maxLen at hkl hbl hbm
  clear hK hP hz hb hzb hvb hbc hB0
  by_cases h1 : (ksErr L).2 = 0
  · have HL12 : Hid (L.length ≤ 12) := (ksErr_good.1 h1).2
    have HE : Hid (sErr L B = if 12 < B.length then ([], 4) else bsGo L [] B) := by
      show _ = _
      unfold sErr; rw [if_pos h1]
    rw [h1] at ck1
    clear h1
    go_enter Tryz.func5, Tryz.ntmps5
    go_wp2_with (go_at_call 19; refine ck1.mono ?_; rintro e W1 ⟨rfl, hB1⟩; refine Hid.out ?_)
    refine Lib.hid ?_
    have g0 := hB1.cell (p := ⟨w.heap.size, 0, none⟩) (by simp)
    have g1 := hB1.cell (p := ⟨w.heap.size, 1, none⟩) (by simp)
    simp at g0 g1
    have hsz1 : w.heap.size < W1.heap.size := Nat.lt_of_lt_of_le (by simp) hB1.size
    have HBw1 : Hid (Below w.heap.size w W1) := on1 HB0.out hB1 (Nat.le_refl _)
    clear ck1 hB1
    by_cases h12 : 12 < B.length
    · have HE2 : Hid (sErr L B = ([], 4)) := by
        show _ = _
        rw [HE.out, if_pos h12]
      clear HE
      go_wp2
      go_ret2
      exact ⟨ret_v (by rw [HE2.out]; rfl), HBw1.out⟩
    · have HE2 : Hid (sErr L B = bsGo L [] B) := by
        show _ = _
        rw [HE.out, if_neg h12]
      clear HE
      go_wp2
      go_loopw [6] (fun i wr => ∃ k : Nat, k ≤ B.length ∧ i = .int .i64 k ∧ sErr L B = bsGo L (B.take k) (B.drop k) ∧ Below W1.heap.size W1 wr) (fun i _ => B.length - (intOf i).toNat)
      case atStart => exact ⟨0, Nat.zero_le _, rfl, by rw [HE2.out]; rfl, Below.refl _ _⟩
      case round =>
        obtain ⟨k, hk, rfl, hg, hB⟩ := hrel
        have HG : Hid (sErr L B = bsGo L (B.take k) (B.drop k)) := hg
        have hBw := on1 HBw1.out hB (Nat.le_refl _)
        clear hg
        have r0 := (hB.cell (p := ⟨w.heap.size, 0, none⟩) hsz1).trans g0
        have r1 := (hB.cell (p := ⟨w.heap.size, 1, none⟩) hsz1).trans g1
        have hszr : w.heap.size < wr.heap.size := Nat.lt_of_lt_of_le hsz1 hB.size
        by_cases hlt : k < B.length
        · obtain ⟨p, hp⟩ : ∃ p, B[k]? = some p := ⟨B[k], by simp [hlt]⟩
          obtain ⟨bx, ox, rfl, hbx, hlx⟩ := HH.out.2.2.2.1 k p hp
          obtain ⟨c0, c1, c2, c3, c4⟩ := hlx k p hp
          have d0 := (hBw.cell (p := ⟨bx, ox + k * 5, none⟩) hbx).trans c0
          have d1 := (hBw.cell (p := ⟨bx, ox + k * 5 + 1, none⟩) hbx).trans c1
          have d2 := (hBw.cell (p := ⟨bx, ox + k * 5 + 2, none⟩) hbx).trans c2
          have d3 := (hBw.cell (p := ⟨bx, ox + k * 5 + 3, none⟩) hbx).trans c3
          have d4 := (hBw.cell (p := ⟨bx, ox + k * 5 + 4, none⟩) hbx).trans c4
          have hsn : ¬ w.heap.size = wr.heap.size := by omega
          have hbr : bx < wr.heap.size := Nat.lt_of_lt_of_le hbx hBw.size
          have hcb : B.length ≤ cb := by
            rcases HH.out.2.2.1 with h | h
            · exact h
            · rw [h] at hlt; simp at hlt
          have hkc : (k : Int) ≤ (cb : Int) := by omega
          have hlen : (B.take k).length = k := List.length_take_of_le hk
          have HBx : Hid (Below w.heap.size w (wr.alloc (boxB p))) := b_alloc hBw (Nat.le_refl _) _
          have HBy : Hid (Below W1.heap.size W1 (wr.alloc (boxB p))) := b_alloc hB (Nat.le_refl _) _
          have cB : ∀ n, Calls Tryz.prog 13 #[.slice (some ⟨bx, ox, none⟩) k cb, .string (bs p.nm)] ((wr.alloc (boxB p)).drewN n) fun e w' => e = .returned (.int .i64 (idxB p.nm (B.take k) 0)) ∧ w' = (wr.alloc (boxB p)).drewN n := fun n => by
            have hBn : Below w.heap.size w ((wr.alloc (boxB p)).drewN n) := b_drewN HBx.out n
            have hI : IsB ((wr.alloc (boxB p)).drewN n) (.slice (some ⟨bx, ox, none⟩) k cb) (B.take k) := .inr ⟨bx, ox, cb, by rw [hlen], by rw [hlen]; omega, HH.out.2.2.2.2, Nat.lt_of_lt_of_le hbx hBn.size, (hlx.on hbx hBn).take k⟩
            exact rbond_any hI (by omega) p.nm
          have cK : ∀ n (s : Nm), Calls Tryz.prog 15 #[.slice ak L.length ck, .string (bs s)] ((wr.alloc (boxB p)).drewN n) fun e w' => e = .returned (.int .i64 (idxK s L 0)) ∧ w' = (wr.alloc (boxB p)).drewN n := fun n s => by
            have hBn : Below w.heap.size w ((wr.alloc (boxB p)).drewN n) := b_drewN HBx.out n
            exact rkind_any (HH.out.1.on hBn) HL12.out s
          have nm := fun w => rname_any (bs p.nm) w (by rw [bs_size]; exact HH.out.2.1 p (List.mem_of_getElem? hp))
          simp only [bs_data] at nm
          have HD : Hid (B.drop k = p :: B.drop (k + 1) ∧ B.take (k + 1) = B.take k ++ [p]) := ⟨dropK hp, takeK hp⟩
          have HX : Hid (∀ e : Int, bErr L (B.take k) p = e → ¬ e = 0 → sErr L B = (p.nm, e)) := fun e h1 h2 => by
            rw [HG.out, HD.out.1]
            conv => lhs; unfold bsGo
            rw [h1, if_neg h2]
          have HY : Hid (bErr L (B.take k) p = 0 → sErr L B = bsGo L (B.take (k + 1)) (B.drop (k + 1))) := fun h => by
            rw [HG.out, HD.out.1, HD.out.2]
            conv => lhs; unfold bsGo
            rw [if_pos h]
          clear c0 c1 c2 c3 c4 hp hlx hlen g0 g1 HG HD
          by_cases h1 : nErr p.nm = 0
          · have nm' : ∀ w, Calls Tryz.prog 20 #[.string (bs p.nm)] w fun e w' => e = .returned (.int .i64 0) ∧ w' = w := fun w => by
              have := nm w; rw [h1] at this; exact this
            clear nm
            rcases idxB_spec p.nm (B.take k) 0 with hx1 | ⟨j, q, hx1, _, _⟩
            · rw [hx1] at cB
              by_cases hf : idxK p.fr L 0 = -1
              · have cF : ∀ n, Calls Tryz.prog 15 #[.slice ak L.length ck, .string (bs p.fr)] ((wr.alloc (boxB p)).drewN n) fun e w' => e = .returned (.int .i64 (-1)) ∧ w' = (wr.alloc (boxB p)).drewN n := fun n => by
                  have := cK n p.fr; rw [hf] at this; exact this
                have HS : Hid (sErr L B = (p.nm, 5)) := HX.out 5 (by unfold bErr hasK; rw [if_pos h1, if_pos hx1, hf, if_neg (by decide)]) (by decide)
                clear h1 hx1 hf cK HX HY
                go_wp2_with (go_at_call 20; refine (nm' _).mono ?_; rintro e w' ⟨rfl, rfl⟩)
                go_quiet (exact Calls.quiet_of_same (cB _))
                go_wp2_with (go_at_call 15; refine (cF _).mono ?_; rintro e w' ⟨rfl, rfl⟩)
                go_ret2
                exact ⟨ret_v (by rw [HS.out]; rfl), b_drewN HBx.out _⟩
              · obtain ⟨jf, qf, hf', _, _⟩ : ∃ j q, idxK p.fr L 0 = ((0 + j : Nat) : Int) ∧ L[j]? = some q ∧ q.nm = p.fr := (idxK_spec p.fr L 0).resolve_left hf
                rw [Nat.zero_add] at hf'
                have cF : ∀ n, Calls Tryz.prog 15 #[.slice ak L.length ck, .string (bs p.fr)] ((wr.alloc (boxB p)).drewN n) fun e w' => e = .returned (.int .i64 jf) ∧ w' = (wr.alloc (boxB p)).drewN n := fun n => by
                  have := cK n p.fr; rw [hf'] at this; exact this
                have hF : hasK L p.fr = true := by unfold hasK; rw [hf']; simp
                by_cases ht : idxK p.tt L 0 = -1
                · have cT : ∀ n, Calls Tryz.prog 15 #[.slice ak L.length ck, .string (bs p.tt)] ((wr.alloc (boxB p)).drewN n) fun e w' => e = .returned (.int .i64 (-1)) ∧ w' = (wr.alloc (boxB p)).drewN n := fun n => by
                    have := cK n p.tt; rw [ht] at this; exact this
                  have HS : Hid (sErr L B = (p.nm, 5)) := HX.out 5 (by unfold bErr; rw [if_pos h1, if_pos hx1, if_pos hF]; unfold hasK; rw [ht, if_neg (by decide)]) (by decide)
                  clear h1 hx1 hf hF HX HY cF cT
                  go_wp2_with (go_at_call 20; refine (nm' _).mono ?_; rintro e w' ⟨rfl, rfl⟩)
                  go_quiet (exact Calls.quiet_of_same (cB _))
                  go_wp2_with (go_at_call 15; refine (cK _ _).mono ?_; rintro e w' ⟨rfl, rfl⟩; first | rw [hf'] | rw [ht'] | rw [ht])
                  go_ret2
                  exact ⟨ret_v (by rw [HS.out]; rfl), b_drewN HBx.out _⟩
                · obtain ⟨jt, qt, ht', _, _⟩ : ∃ j q, idxK p.tt L 0 = ((0 + j : Nat) : Int) ∧ L[j]? = some q ∧ q.nm = p.tt := (idxK_spec p.tt L 0).resolve_left ht
                  rw [Nat.zero_add] at ht'
                  have cT : ∀ n, Calls Tryz.prog 15 #[.slice ak L.length ck, .string (bs p.tt)] ((wr.alloc (boxB p)).drewN n) fun e w' => e = .returned (.int .i64 jt) ∧ w' = (wr.alloc (boxB p)).drewN n := fun n => by
                    have := cK n p.tt; rw [ht'] at this; exact this
                  have hT : hasK L p.tt = true := by unfold hasK; rw [ht']; simp
                  have HR0 : Hid (inR p.mn p.mx = true → sErr L B = bsGo L (B.take (k + 1)) (B.drop (k + 1))) := fun h => HY.out (by unfold bErr; rw [if_pos h1, if_pos hx1, if_pos hF, if_pos hT, if_pos h])
                  have HR1 : Hid (¬ inR p.mn p.mx = true → sErr L B = (p.nm, 1)) := fun h => HX.out 1 (by unfold bErr; rw [if_pos h1, if_pos hx1, if_pos hF, if_pos hT, if_neg h]) (by decide)
                  clear h1 hx1 hf ht hF hT HX HY cF cT
                  obtain ⟨mn, hmn⟩ : ∃ m, m = p.mn := ⟨_, rfl⟩
                  obtain ⟨mx, hmx⟩ : ∃ m, m = p.mx := ⟨_, rfl⟩
                  have key : (mn < 0) ∨ (¬ mn < 0 ∧ 20 < mn) ∨ (¬ mn < 0 ∧ ¬ 20 < mn ∧ mx < -1) ∨ (¬ mn < 0 ∧ ¬ 20 < mn ∧ ¬ mx < -1 ∧ 20 < mx) ∨ (¬ mn < 0 ∧ ¬ 20 < mn ∧ ¬ mx < -1 ∧ ¬ 20 < mx ∧ 0 ≤ mx ∧ mx < mn) ∨ (¬ mn < 0 ∧ ¬ 20 < mn ∧ ¬ mx < -1 ∧ ¬ 20 < mx ∧ ¬ 0 ≤ mx) ∨ (¬ mn < 0 ∧ ¬ 20 < mn ∧ ¬ mx < -1 ∧ ¬ 20 < mx ∧ 0 ≤ mx ∧ ¬ mx < mn) := by omega
                  rw [hmn, hmx] at key
                  clear hmn hmx mn mx
                  rcases key with k1 | ⟨k1, k2⟩ | ⟨k1, k2, k3⟩ | ⟨k1, k2, k3, k4⟩ | ⟨k1, k2, k3, k4, k5, k6⟩ | ⟨k1, k2, k3, k4, k5⟩ | ⟨k1, k2, k3, k4, k5, k6⟩
                  · have HS : Hid (sErr L B = (p.nm, 1)) := HR1.out (by rw [inR_iff]; omega)
                    clear HR0 HR1
                    go_wp2_with (go_at_call 20; refine (nm' _).mono ?_; rintro e w' ⟨rfl, rfl⟩)
                    go_quiet (exact Calls.quiet_of_same (cB _))
                    go_wp2_with (go_at_call 15; refine (cK _ _).mono ?_; rintro e w' ⟨rfl, rfl⟩; first | rw [hf'] | rw [ht'] | rw [ht])
                    go_ret2
                    exact ⟨ret_v (by rw [HS.out]; rfl), b_drewN HBx.out _⟩
                  · have HS : Hid (sErr L B = (p.nm, 1)) := HR1.out (by rw [inR_iff]; omega)
                    clear HR0 HR1
                    go_wp2_with (go_at_call 20; refine (nm' _).mono ?_; rintro e w' ⟨rfl, rfl⟩)
                    go_quiet (exact Calls.quiet_of_same (cB _))
                    go_wp2_with (go_at_call 15; refine (cK _ _).mono ?_; rintro e w' ⟨rfl, rfl⟩; first | rw [hf'] | rw [ht'] | rw [ht])
                    go_ret2
                    exact ⟨ret_v (by rw [HS.out]; rfl), b_drewN HBx.out _⟩
                  · have HS : Hid (sErr L B = (p.nm, 1)) := HR1.out (by rw [inR_iff]; omega)
                    clear HR0 HR1
                    go_wp2_with (go_at_call 20; refine (nm' _).mono ?_; rintro e w' ⟨rfl, rfl⟩)
                    go_quiet (exact Calls.quiet_of_same (cB _))
                    go_wp2_with (go_at_call 15; refine (cK _ _).mono ?_; rintro e w' ⟨rfl, rfl⟩; first | rw [hf'] | rw [ht'] | rw [ht])
                    go_ret2
                    exact ⟨ret_v (by rw [HS.out]; rfl), b_drewN HBx.out _⟩
                  · have HS : Hid (sErr L B = (p.nm, 1)) := HR1.out (by rw [inR_iff]; omega)
                    clear HR0 HR1
                    go_wp2_with (go_at_call 20; refine (nm' _).mono ?_; rintro e w' ⟨rfl, rfl⟩)
                    go_quiet (exact Calls.quiet_of_same (cB _))
                    go_wp2_with (go_at_call 15; refine (cK _ _).mono ?_; rintro e w' ⟨rfl, rfl⟩; first | rw [hf'] | rw [ht'] | rw [ht])
                    go_ret2
                    exact ⟨ret_v (by rw [HS.out]; rfl), b_drewN HBx.out _⟩
                  · have HS : Hid (sErr L B = (p.nm, 1)) := HR1.out (by rw [inR_iff]; omega)
                    clear HR0 HR1
                    go_wp2_with (go_at_call 20; refine (nm' _).mono ?_; rintro e w' ⟨rfl, rfl⟩)
                    go_quiet (exact Calls.quiet_of_same (cB _))
                    go_wp2_with (go_at_call 15; refine (cK _ _).mono ?_; rintro e w' ⟨rfl, rfl⟩; first | rw [hf'] | rw [ht'] | rw [ht])
                    go_ret2
                    exact ⟨ret_v (by rw [HS.out]; rfl), b_drewN HBx.out _⟩
                  · have HS : Hid (sErr L B = bsGo L (B.take (k + 1)) (B.drop (k + 1))) := HR0.out (by rw [inR_iff]; omega)
                    clear HR0 HR1
                    go_wp2_with (go_at_call 20; refine (nm' _).mono ?_; rintro e w' ⟨rfl, rfl⟩)
                    go_quiet (exact Calls.quiet_of_same (cB _))
                    go_wp2_with (go_at_call 15; refine (cK _ _).mono ?_; rintro e w' ⟨rfl, rfl⟩; first | rw [hf'] | rw [ht'] | rw [ht])
                    go_roundw
                    case rel => exact ⟨k + 1, by omega, by go_num, HS.out, b_drewN HBy.out _⟩
                    case measure => simp [intOf]; omega
                  · have HS : Hid (sErr L B = bsGo L (B.take (k + 1)) (B.drop (k + 1))) := HR0.out (by rw [inR_iff]; omega)
                    clear HR0 HR1
                    go_wp2_with (go_at_call 20; refine (nm' _).mono ?_; rintro e w' ⟨rfl, rfl⟩)
                    go_quiet (exact Calls.quiet_of_same (cB _))
                    go_wp2_with (go_at_call 15; refine (cK _ _).mono ?_; rintro e w' ⟨rfl, rfl⟩; first | rw [hf'] | rw [ht'] | rw [ht])
                    go_roundw
                    case rel => exact ⟨k + 1, by omega, by go_num, HS.out, b_drewN HBy.out _⟩
                    case measure => simp [intOf]; omega
            · have HS : Hid (sErr L B = (p.nm, 7)) := HX.out 7 (by unfold bErr; rw [if_pos h1, if_neg (by omega)]) (by decide)
              rw [hx1, Nat.zero_add] at cB
              clear h1 hx1 cK HX HY
              go_wp2_with (go_at_call 20; refine (nm' _).mono ?_; rintro e w' ⟨rfl, rfl⟩)
              go_quiet (exact Calls.quiet_of_same (cB _))
              go_wp2
              go_ret2
              exact ⟨ret_v (by rw [HS.out]; rfl), b_drewN HBx.out _⟩
          · have h2 := nErr_two h1
            have nm' : ∀ w, Calls Tryz.prog 20 #[.string (bs p.nm)] w fun e w' => e = .returned (.int .i64 2) ∧ w' = w := fun w => by
              have := nm w; rw [h2] at this; exact this
            have HS : Hid (sErr L B = (p.nm, 2)) := HX.out 2 (by unfold bErr; rw [if_neg h1, h2]) (by decide)
            clear h1 h2 nm cK cB HX HY
            go_wp2_with (go_at_call 20; refine (nm' _).mono ?_; rintro e w' ⟨rfl, rfl⟩)
            go_ret2
            exact ⟨ret_v (by rw [HS.out]; rfl), HBx.out⟩
        · have hd : B.drop k = [] := List.drop_eq_nil_of_le (by omega)
          have H : Hid (sErr L B = ([], 0)) := by
            show _ = _
            rw [HG.out, hd]; rfl
          clear HG hd
          go_wp2
          go_ret2
          exact ⟨ret_v (by rw [H.out]; rfl), hBw⟩
  · have HE : Hid (sErr L B = ksErr L ∧ ¬ (ksErr L).2 = 0) := by
      refine ⟨?_, h1⟩
      unfold sErr; rw [if_neg h1]
    have h1' : ((ksErr L).2 != 0) = true := by simpa using h1
    obtain ⟨r, hr⟩ : ∃ r, r = ksErr L := ⟨_, rfl⟩
    rw [← hr] at ck1 h1 h1'
    have HR : Hid (r = ksErr L) := hr
    clear hr
    go_enter Tryz.func5, Tryz.ntmps5
    go_wp2_with (go_at_call 19; refine ck1.mono ?_; rintro e W1 ⟨rfl, hB1⟩)
    go_ret2
    exact ⟨ret_v (by rw [HE.out.1, ← HR.out]; rfl), on1 HB0.out hB1 (Nat.le_refl _)⟩
end Go.Proofs.YtgjlonilbhlneaaGreatDoor

/-
  The walks of kinref1.Right and kinref1.Number.
-/
namespace Go.Proofs.YtgjlonilbhlneaaGreatDoor
open Go.RowKit
set_option linter.unusedVariables false
set_option linter.unusedSimpArgs false

set_option maxHeartbeats 1000000 in
theorem rright_any {vk vb : Value} {L : List Kd} {B : List Bd} {w : World} (hK : IsK w vk L) (hP : Parts w L) (hz : SzK L) (hb : IsB w vb B) (hzb : SzB B) :
    Calls Tryz.prog 33 #[.agg #[vk, vb]] w fun e w' => e = .returned (.int .i64 (sErr L B).2) ∧ Below w.heap.size w w' := by
  have c := fun W (h : Below w.heap.size w W) => rschema_any (hK.on h) (hP.on h) hz (hb.on h) hzb
  generalize sErr L B = r at c ⊢
  have hB0 : Below w.heap.size w (w.alloc (.cells #[vk, vb] 25)) := b_alloc (Below.refl _ _) (Nat.le_refl _) _
  have c0 := c w (Below.refl _ _)
  have c1 := c _ hB0
  clear hK hP hz hb hzb c
  go_enter Tryz.func33, Tryz.ntmps33
  go_wp2_with (go_at_call 5; first | (with_reducible refine c0.mono ?_; rintro e W1 ⟨rfl, hB1⟩) | (with_reducible refine c1.mono ?_; rintro e W1 ⟨rfl, hB1⟩))
  go_ret
  first | exact ⟨rfl, hB1⟩ | exact ⟨rfl, on1 hB0 hB1 (Nat.le_refl _)⟩

def noDg (c : UInt8) : Bool := decide (c.toNat < 48 ∨ 57 < c.toNat)
theorem noDg_iff (c : UInt8) : (noDg c = true) ↔ ((c.toNat : Int) < 48 ∨ 57 < (c.toNat : Int)) := by unfold noDg; simp; omega
def dgV (l : Nm) : Int := l.foldl (fun a c => a * 10 + (c.toNat : Int) - 48) 0
def numB (l : Nm) : Int × Bool := if l = [] ∨ 2 < l.length ∨ (l.head? = some 48 ∧ 1 < l.length) then (0, false) else if hasP noDg l = true then (0, false) else (dgV l, true)
theorem dgV_snoc (s : ByteArray) (k : Nat) (h : k < s.size) : dgV (s.data.toList.take (k + 1)) = dgV (s.data.toList.take k) * 10 + (s[k].toNat : Int) - 48 := by
  have hk : s.data.toList[k]? = some s[k] := by simp [ByteArray.getElem_eq_getElem_data, h]
  rw [List.take_add_one, hk]
  unfold dgV
  simp [List.foldl_append]
theorem rt_nb {a b : Int × Bool} (h : a = b) : Ending.returned (.tuple #[.int .i64 a.1, .bool a.2]) = .returned (.tuple #[.int .i64 b.1, .bool b.2]) := by rw [h]
set_option maxHeartbeats 4000000 in
set_option maxRecDepth 100000 in
theorem rnumber_bytes (s : ByteArray) (w : World) (hs : s.size ≤ maxLen) :
    Calls Tryz.prog 32 #[.string s, .int .i64 2] w fun e w' => e = .returned (.tuple #[.int .i64 (numB s.data.toList).1, .bool (numB s.data.toList).2]) ∧ w' = w := by
  by_cases hE : s.data.toList = []
  · obtain rfl := list_eq hE
    go_enter Tryz.func32, Tryz.ntmps32
    go_wp2
    go_ret2
    exact ⟨rfl, rfl⟩
  · have bE : s.toList.isEmpty = false := nonE s hE
    have bN : ¬ s.toList = [] := by rw [Lib.toList_data]; exact hE
    have hsz := size_len s
    by_cases h2 : 2 < s.size
    · have H : Hid (numB s.data.toList = (0, false)) := by
        show _ = _
        unfold numB; rw [if_pos (.inr (.inl (by omega)))]
      clear hE hsz
      unfold maxLen at hs
      go_enter Tryz.func32, Tryz.ntmps32
      go_wp2
      go_ret2
      exact ⟨rt_nb (a := (0, false)) H.out.symm, rfl⟩
    · have h0 : 0 < s.size := by
        rcases Nat.eq_zero_or_pos s.size with h | h
        · exact absurd (List.eq_nil_of_length_eq_zero (by omega)) hE
        · exact h
      have hh : s.data.toList.head? = some s[0] := by
        rw [List.head?_eq_getElem?]; simp [ByteArray.getElem_eq_getElem_data, h0]
      have hu : (s[0] = 48) ↔ (s[0].toNat : Int) = 48 := by rw [← UInt8.toNat_inj]; simp; omega
      have hs2 : ((s.size : Int)) ≤ 2 := by omega
      by_cases hz : (s[0].toNat : Int) = 48 ∧ 1 < s.size
      · obtain ⟨z1, z2⟩ := hz
        have H : Hid (numB s.data.toList = (0, false)) := by
          show _ = _
          unfold numB; rw [if_pos (.inr (.inr ⟨by rw [hh, hu.2 z1], by omega⟩))]
        clear hE hsz hh hu
        unfold maxLen at hs
        go_enter Tryz.func32, Tryz.ntmps32
        go_wp2
        go_ret2
        exact ⟨rt_nb (a := (0, false)) H.out.symm, rfl⟩
      · have H : Hid (numB s.data.toList = if hasP noDg s.data.toList = true then (0, false) else (dgV s.data.toList, true)) := by
          show _ = _
          unfold numB; rw [if_neg]
          rintro (h | h | ⟨h, h'⟩)
          · exact hE h
          · omega
          · rw [hh] at h
            exact hz ⟨hu.1 (Option.some.inj h), by omega⟩
        have hz' : ((s[0].toNat : Int) == 48) = false ∨ (((s[0].toNat : Int) == 48) = true ∧ ¬ 1 < s.size) := by
          by_cases h : (s[0].toNat : Int) = 48
          · exact .inr ⟨by simpa using h, fun h' => hz ⟨h, h'⟩⟩
          · exact .inl (by simpa using h)
        clear hE hsz hh hu hz
        unfold maxLen at hs
        rcases hz' with z | ⟨z, z2⟩
        all_goals
          go_enter Tryz.func32, Tryz.ntmps32
          go_wp2
          go_loop [6, 7] (fun n i => ∃ k : Nat, k ≤ s.size ∧ i = .int .i64 k ∧ n = .int .i64 (dgV (s.data.toList.take k)) ∧ (s.data.toList.take k).any noDg = false ∧ 0 ≤ dgV (s.data.toList.take k) ∧ dgV (s.data.toList.take k) ≤ 99 ∧ (k ≤ 1 → dgV (s.data.toList.take k) ≤ 9)) (fun _ i => s.size - (intOf i).toNat)
          case atStart => exact ⟨0, Nat.zero_le _, rfl, rfl, rfl, Int.le_refl _, (by decide : (0 : Int) ≤ 99), fun _ => (by decide : (0 : Int) ≤ 9)⟩
          case round =>
            obtain ⟨k, hk, rfl, rfl, hno, hv0, hv1, hv9⟩ := hrel
            have HV9 : Hid (k ≤ 1 → dgV (s.data.toList.take k) ≤ 9) := hv9
            clear hv9
            have HN : Hid ((s.data.toList.take k).any noDg = false) := hno
            clear hno
            by_cases hlt : k < s.size
            · have HV := dgV_snoc s k hlt
              by_cases hb : noDg s[k] = true
              · have HF : Hid (numB s.data.toList = (0, false)) := by
                  show _ = _
                  rw [H.out, if_pos (any_hit _ s k hlt hb).symm]
                clear HV
                rcases (noDg_iff _).1 hb with h | h
                all_goals
                  clear hb HV9
                  generalize dgV (s.data.toList.take k) = v at *
                  go_wp2
                  go_ret2
                  exact ⟨rt_nb (a := (0, false)) HF.out.symm, rfl⟩
              · have HB : Hid (noDg s[k] = false) := by show _ = _; simpa using hb
                have h1 : 48 ≤ (s[k].toNat : Int) := by rw [noDg_iff] at hb; omega
                have h3 : (s[k].toNat : Int) ≤ 57 := by rw [noDg_iff] at hb; omega
                have HV2 : Hid (dgV (s.data.toList.take (k + 1)) = dgV (s.data.toList.take k) * 10 + (s[k].toNat : Int) - 48) := HV
                have HW : Hid (0 ≤ dgV (s.data.toList.take (k + 1)) ∧ dgV (s.data.toList.take (k + 1)) ≤ 99 ∧ (k + 1 ≤ 1 → dgV (s.data.toList.take (k + 1)) ≤ 9)) := by
                  have h9 := HV9.out (by omega)
                  have h00 : k = 0 → dgV (s.data.toList.take k) = 0 := fun h => by rw [h]; rfl
                  rw [HV]
                  exact ⟨by omega, by omega, fun h => by have := h00 (by omega); omega⟩
                clear hb HV
                obtain ⟨v, hv⟩ : ∃ v, v = dgV (s.data.toList.take k) := ⟨_, rfl⟩
                rw [← hv] at hv0 hv1 HV2 ⊢
                clear hv HV9
                go_wp2
                go_round
                case rel => exact ⟨k + 1, by omega, by go_num, by rw [HV2.out], any_snoc _ s k hlt HN.out HB.out, HW.out.1, HW.out.2.1, HW.out.2.2⟩
                case measure => simp [intOf]; omega
            · have HF : Hid (numB s.data.toList = (dgV (s.data.toList.take k), true)) := by
                show _ = _
                rw [H.out, if_neg (by rw [← any_end _ s k hlt HN.out]; decide), List.take_of_length_le (by have := size_len s; omega)]
              go_wp2
              go_ret2
              exact ⟨rt_nb (a := (dgV (s.data.toList.take k), true)) HF.out.symm, rfl⟩
theorem rnumber_any (s : Nm) (w : World) (hs : s.length ≤ maxLen) : Calls Tryz.prog 32 #[.string (bs s), .int .i64 2] w fun e w' => e = .returned (.tuple #[.int .i64 (numB s).1, .bool (numB s).2]) ∧ w' = w := by
  have := rnumber_bytes (bs s) w (by rw [bs_size]; exact hs)
  simpa using this
end Go.Proofs.YtgjlonilbhlneaaGreatDoor
