/-
  The walk of the document's reader: a test with a sign.
-/
import Derived.Test.YtmgkdghkenpmbaaGreatDoorRkD
import Derived.Deep.DeepCutAuto
import Derived.Deep.RegionLaw
import Derived.Deep.RegionHeld3
namespace Go.Proofs.YtmgkdghkenpmbaaGreatDoor
open Go.RowKit
set_option linter.unusedVariables false
set_option linter.unusedSimpArgs false

set_option maxHeartbeats 4000000 in
set_option maxRecDepth 100000 in
theorem ktest_n3 {b : Nat} {s : ByteArray} {r : Nm} {w : World} (h : Rk b s (r, false) w) (hs : s.size ≤ 140737488355328) (hn : ¬ nameT r = []) (h4 : seesB (nameD r) 60 = true) (he : ¬ (parseL (vw false (nameD r).tail)).1 = 0) :
    Calls Tryz.prog 40 #[rp b] w fun e w' => KtAns e (pTest r).2 ∧ Rk b s ((pTest r).1, (pTest r).2.isNone) w' ∧ Gw b w w' := by
  have hbl := h.lt
  have hs' : s.size ≤ maxLen := by unfold maxLen; omega
  have hne : b ≠ w.heap.size := by omega
  have cN := kname_any (h.alloc Z33) hs'
  rw [(nmS_ok hn).1, (nmS_ok hn).2] at cN
  have HP0 := Lib.hid (new_block w #[.string ⟨#[]⟩, .int .i64 0, .int .i64 0, .int .i64 0, .string ⟨#[]⟩] 33)
  have HG0 : Hid (Gw b w (w.alloc Z33)) := (Gw.refl b w).alloc _
  have hh : howR (nameD r) = ((nameD r).tail, 3) := howR_3 h4
  rw [pTest_c hn (by rw [hh]; show ¬ (3 : Int) = 4; decide), hh]
  have hql : (nameD r).length ≤ s.size := by have := nameD_len r; have := h.atOf.2; simp only at this; omega
  generalize nameT r = nm at cN ⊢
  generalize nameD r = q0 at cN h4 he hql ⊢
  clear hn hh
  have hwl : (vw false q0.tail).length ≤ 140737488355328 := by
    have h1 := vw_le false q0.tail
    have h2 := List.length_tail (l := q0)
    omega
  have cR := read_any (bs (vw false q0.tail)) (by rw [bs_size]; exact hwl)
  rw [bs_data] at cR
  rw [pVal_no he]
  rw [rdV_ne he] at cR
  have hz0 : ((parseL (vw false q0.tail)).1 != 0) = true := by simpa using he
  generalize (parseL (vw false q0.tail)).1 = z at cR hz0
  simp only [Option.map_none, Option.isNone_none]
  clear hwl he hql
  clear h
  go_enter Tryz.func40, Tryz.ntmps40
  go_wp2_with (go_at_call 39; refine cN.mono ?_; rintro e W1 ⟨rfl, hR1, hG1⟩; refine Hid.out ?_)
  refine Lib.hid ?_
  have hp1 := hG1.blk (Ne.symm hne) HP0.out
  have HP1 := Lib.hid hp1
  obtain ⟨a0, a1, a2, a3, a4, f0, f1, f2, f3, f4⟩ := own5 (old_block hp1 (.cells #[.string (bs nm), .int .i64 4, .int .i64 0, .int .i64 0, .string ⟨#[]⟩] 33))
  have HR1 := Lib.hid hR1
  obtain ⟨k, hk, hr, hb⟩ := hR1.alloc (.cells #[.string (bs nm), .int .i64 4, .int .i64 0, .int .i64 0, .string ⟨#[]⟩] 33)
  have c0 : (W1.alloc (.cells #[.string (bs nm), .int .i64 4, .int .i64 0, .int .i64 0, .string ⟨#[]⟩] 33)).cell? ⟨b, 0, none⟩ = some (.string s) := cell_at hb rfl
  have c1 : (W1.alloc (.cells #[.string (bs nm), .int .i64 4, .int .i64 0, .int .i64 0, .string ⟨#[]⟩] 33)).cell? ⟨b, 1, none⟩ = some (.int .i64 (k : Int)) := cell_at hb rfl
  have c2 : (W1.alloc (.cells #[.string (bs nm), .int .i64 4, .int .i64 0, .int .i64 0, .string ⟨#[]⟩] 33)).cell? ⟨b, 2, none⟩ = some (.bool false) := cell_at hb rfl
  have hne4 : ¬ W1.heap.size = w.heap.size := by have := hG1.size; simp at this; omega
  have hneb : ¬ b = W1.heap.size := by have := hR1.lt; omega
  have hneb' : ¬ W1.heap.size = b := by have := hR1.lt; omega
  have HG1 := Lib.hid (HG0.out.trans hG1)
  simp only at hr
  obtain ⟨hlt, hq1⟩ := rd_next hr h4
  have hc : s[k] = 60 := by
    have hd := drop_c hlt
    rw [hr] at hd
    rw [hd] at h4
    simpa [seesB] using h4
  have g1 : decide ((s.size : Int) ≤ (k : Int)) = false := by simp; omega
  have n61 : ((s[k].toNat : Int) != 61) = true := by rw [hc]; decide
  have n33 : ((s[k].toNat : Int) != 33) = true := by rw [hc]; decide
  have n60 : ((s[k].toNat : Int) != 60) = false := by rw [hc]; decide
  have e33 : ((s[k].toNat : Int) == 33) = false := by rw [hc]; decide
  have e60 : ((s[k].toNat : Int) == 60) = true := by rw [hc]; decide
  have fb1 : (W1.alloc (.cells #[.string (bs nm), .int .i64 4, .int .i64 0, .int .i64 0, .string ⟨#[]⟩] 33)).frozen? ⟨b, 1, none⟩ = false := frz_at hb
  have HB := Lib.hid hb
  have HQ := Lib.hid hq1
  clear hG1 hR1 hb hr hp1 h4 hc hq1
  go_wp2
  go_quiet (fail)
  obtain ⟨n1, hn1⟩ : ∃ n, n = nq := ⟨nq, rfl⟩
  subst hn1
  go_wp2
  go_quiet (fail)
  go_wp2
  have hle4 : w.heap.size ≤ W1.heap.size := HG1.out.size
  have hgt0 : w.heap.size ≠ b := by omega
  clear a0 a1 a2 a3 a4 f0 f1 f2 f3 f4 c0 c1 c2 fb1 g1 n61 n33 n60 e33 e60
  go_loopw [7] (fun v wr => ∃ (q : Bool) (m : Nat), v = .bool q ∧ KtI b s nm 3 W1.heap.size w.heap.size w (k + 1) q m wr) (fun v wr => s.size - atOf b wr)
  case atStart =>
    refine ⟨false, k + 1, rfl, Nat.le_refl _, by omega, by simp, ?_, ?_, ?_, ?_⟩
    · exact rk_put ((heap_setCell_other _ ⟨W1.heap.size, 1, none⟩ b (.int .i64 3) hneb).trans ((heap_setCell_other ((W1.alloc (.cells #[.string (bs nm), .int .i64 4, .int .i64 0, .int .i64 0, .string ⟨#[]⟩] 33)).drewN (n1 + nq)) ⟨W1.heap.size, 1, none⟩ b (.int .i64 1) hneb).trans HB.out)) _
    · exact (heap_setCell_other _ ⟨b, 1, none⟩ W1.heap.size _ hneb').trans (set5_1 (set5_1 (w := (W1.alloc (.cells #[.string (bs nm), .int .i64 4, .int .i64 0, .int .i64 0, .string ⟨#[]⟩] 33)).drewN (n1 + nq)) (new_block W1 _ 33) (.int .i64 1)) (.int .i64 3))
    · exact (heap_setCell_other _ ⟨b, 1, none⟩ w.heap.size _ hgt0).trans ((heap_setCell_other _ ⟨W1.heap.size, 1, none⟩ w.heap.size (.int .i64 3) (Ne.symm hne4)).trans ((heap_setCell_other ((W1.alloc (.cells #[.string (bs nm), .int .i64 4, .int .i64 0, .int .i64 0, .string ⟨#[]⟩] 33)).drewN (n1 + nq)) ⟨W1.heap.size, 1, none⟩ w.heap.size (.int .i64 1) (Ne.symm hne4)).trans (old_block HP1.out _)))
    · exact ((((HG1.out.alloc (.cells #[.string (bs nm), .int .i64 4, .int .i64 0, .int .i64 0, .string ⟨#[]⟩] 33)).drew (n1 + nq)).setO hle4 1 (.int .i64 1)).setO hle4 1 (.int .i64 3)).set _ _
  case round =>
    obtain ⟨q, m, rfl, hI⟩ := hrel
    have c0 : wr.cell? ⟨b, 0, none⟩ = some (.string s) := cell_at hI.rb rfl
    have c1 : wr.cell? ⟨b, 1, none⟩ = some (.int .i64 (m : Int)) := cell_at hI.rb rfl
    have c2 : wr.cell? ⟨b, 2, none⟩ = some (.bool false) := cell_at hI.rb rfl
    have fb1 : wr.frozen? ⟨b, 1, none⟩ = false := frz_at hI.rb
    have hkm := hI.le
    have hms := hI.sz
    have HI := Lib.hid hI
    have HA := Lib.hid (atOf_eq c1)
    clear hI
    have goOn : ∀ (nq : Nat) (q' : Bool) (hlt : m < s.size), vw q (s[m] :: s.data.toList.drop (m + 1)) = s[m] :: vw q' (s.data.toList.drop (m + 1)) → KtI b s nm 3 W1.heap.size w.heap.size w (k + 1) q' (m + 1) ((wr.drewN nq).setCell ⟨b, 1, none⟩ (.int .i64 ((m : Int) + 1))) ∧ s.size - atOf b ((wr.drewN nq).setCell ⟨b, 1, none⟩ (.int .i64 ((m : Int) + 1))) < s.size - atOf b wr := fun nq q' hlt hn => by
      have h1 := (HI.out.drewN nq).next hlt hn hneb' hgt0
      refine ⟨h1, ?_⟩
      rw [atOf_eq (cell_at h1.rb rfl), HA.out]
      omega
    have HON := Lib.hid goOn
    clear goOn
    by_cases hlt : m < s.size
    · have g1 : decide ((m : Int) < (s.size : Int)) = true := by simp; omega
      by_cases h39 : s[m] = 39
      · have e39 : ((s[m].toNat : Int) == 39) = true := beq_t h39 rfl
        have x44 : ((s[m].toNat : Int) != 44) = true := by rw [h39]; decide
        have x93 : ((s[m].toNat : Int) != 93) = true := by rw [h39]; decide
        have HN := Lib.hid (fun nq => HON.out nq (!q) hlt (by rw [h39]; simp [vw]))
        clear h39
        cases q with
        | true =>
          go_wp2
          go_quiet (fail)
          obtain ⟨n2, hn2⟩ : ∃ n, n = nq := ⟨nq, rfl⟩
          subst hn2
          go_wp2
          go_quiet (fail)
          go_wp2
          go_roundw
          case rel => exact ⟨false, m + 1, rfl, (HN.out (n2 + nq)).1⟩
          case measure => have := (HN.out (n2 + nq)).2; simpa using this
        | false =>
          go_wp2
          go_quiet (fail)
          obtain ⟨n2, hn2⟩ : ∃ n, n = nq := ⟨nq, rfl⟩
          subst hn2
          go_wp2
          go_quiet (fail)
          go_wp2
          go_roundw
          case rel => exact ⟨true, m + 1, rfl, (HN.out (n2 + nq)).1⟩
          case measure => have := (HN.out (n2 + nq)).2; simpa using this
      · have e39 : ((s[m].toNat : Int) == 39) = false := beq_f h39 rfl
        cases q with
        | true =>
          have HN := Lib.hid (fun nq => HON.out nq true hlt (by simp [vw, h39]))
          clear h39
          go_wp2
          go_quiet (fail)
          obtain ⟨n2, hn2⟩ : ∃ n, n = nq := ⟨nq, rfl⟩
          subst hn2
          go_wp2
          go_quiet (fail)
          go_wp2
          go_roundw
          case rel => exact ⟨true, m + 1, rfl, (HN.out (n2 + nq)).1⟩
          case measure => have := (HN.out (n2 + nq)).2; simpa using this
        | false =>
          by_cases h44 : s[m] = 44
          · have x44 : ((s[m].toNat : Int) != 44) = false := by rw [h44]; decide
            have HV := Lib.hid (vwk_stop hkm hms HI.out.eq (by rw [drop_c hlt, h44]; simp [vw]))
            clear h39 h44
            have hsl : ∀ w, (Instr.slice 9 (.string s) (some (.int .i64 ((k : Int) + 1))) (some (.int .i64 (m : Int))) none).run Tryz.prog w = .ok (.string (bs (vw false q0.tail))) w := fun w => by
              have := slice_mid s (k + 1) m hkm hms w
              rw [HV.out.1, HQ.out] at this
              rw [show ((k : Int) + 1) = ((k + 1 : Nat) : Int) by omega]
              exact this
            have HD : Hid (s.data.toList.drop m = q0.tail.drop (vw false q0.tail).length) := by show _ = _; rw [HV.out.2, HQ.out]
            have cc0 := c0
            have cc1 := c1
            have hblr : b < wr.heap.size := cell_lt c0
            have CC := Lib.hid (And.intro c0 c1)
            clear cc0 cc1
            clear fb1 c2 HON HA
            go_wp2
            go_quiet (fail)
            have HBn : Hid (Below wr.heap.size wr (wr.drewN nq)) := b_drewK (Below.refl _ wr) nq
            have d0 : (wr.drewN nq).cell? ⟨b, 0, none⟩ = some (.string s) := c0
            have d1 : (wr.drewN nq).cell? ⟨b, 1, none⟩ = some (.int .i64 (m : Int)) := c1
            clear c0 c1
            obtain ⟨W0, hW0⟩ : ∃ W0, W0 = wr.drewN nq := ⟨_, rfl⟩
            have hsz0 : W0.heap.size = wr.heap.size := by rw [hW0]; rfl
            rw [← hW0] at d0 d1 HBn
            have dd0 := cell_old d0
            have dd1 := cell_old d1
            have hnb : ¬ b = wr.heap.size := Nat.ne_of_lt hblr
            have hnb' : ¬ wr.heap.size = b := fun e => hnb e.symm
            go_upto_region 20 with fail
            rw [← hW0]
            clear hW0
            go_cut [8, 9] (fun s8 s9 wx => ∃ g8, KtC b s nm 3 W1.heap.size w.heap.size w m 0 0 ⟨#[]⟩ z s8 s9 g8 wx)
            case first =>
              first | (go_region_held3 (fun w' => w'.cell? ⟨b, 0, none⟩ = some (.string s) ∧ w'.cell? ⟨b, 1, none⟩ = some (.int .i64 (m : Int))) (go_keep) (first | (go_at_call 57; refine (cR _).mono ?_; rintro e W2 ⟨rfl, hB2'⟩; have hb2 : Hid (Below wr.heap.size wr W2) := on1K (by first | exact b_drw HBn.out | exact b_allocK (b_drw HBn.out) (Nat.le_refl _) _) hB2' (Nat.le_refl _); (try (have kb : W2.heap[wr.heap.size]? = some (.cells #[.int .i64 0, .int .i64 0, .string ⟨#[]⟩] 31 (0, 0)) := (hB2'.block _ (by simp [hsz0])).trans (by have := new_block W0.drew #[.int .i64 0, .int .i64 0, .string ⟨#[]⟩] 31; rw [show W0.drew.heap.size = wr.heap.size from hsz0] at this; exact this); have y5 : W2.cell? ⟨wr.heap.size, 0, none⟩ = some (.int .i64 0) := cell_at kb rfl; have y6 : W2.cell? ⟨wr.heap.size, 1, none⟩ = some (.int .i64 0) := cell_at kb rfl; have y7 : W2.cell? ⟨wr.heap.size, 2, none⟩ = some (.string ⟨#[]⟩) := cell_at kb rfl; have f5 : W2.frozen? ⟨wr.heap.size, 0, none⟩ = false := frz_at kb; have f6 : W2.frozen? ⟨wr.heap.size, 1, none⟩ = false := frz_at kb; have f7 : W2.frozen? ⟨wr.heap.size, 2, none⟩ = false := frz_at kb; replace kb := Lib.hid kb)); have k0 : W2.cell? ⟨b, 0, none⟩ = some (.string s) := (hb2.out.cell hblr).trans CC.out.1; have k1 : W2.cell? ⟨b, 1, none⟩ = some (.int .i64 (m : Int)) := (hb2.out.cell hblr).trans CC.out.2; have kk0 := cell_old k0; have kk1 := cell_old k1; clear hB2'))) | fail
              all_goals
                go_wp2
                go_meet
                first
                  | exact ⟨_, ktC_alloc HI.out hb2.out _ _ _ _⟩
                  | exact ⟨_, ktC_set HI.out hb2.out kb.out (Nat.le_refl _) _ _ _ _⟩
            case rest =>
              obtain ⟨g8, ⟨rfl, rfl, r8, rb, r4, r0, gw⟩⟩ := hcut
              obtain ⟨u0, u1, u2, _, _, _, _, _, _, _, _, _⟩ := own3 r8
              obtain ⟨v0, v1, v2, v3, v4, m0, m1, m2, m3, m4⟩ := own5 r4
              obtain ⟨x0, x1, x2, x3, x4, o0, o1, o2, o3, o4⟩ := own5 r0
              have cb1 : wc.cell? ⟨b, 1, none⟩ = some (.int .i64 (m : Int)) := cell_at rb rfl
              have cb2 : wc.cell? ⟨b, 2, none⟩ = some (.bool false) := cell_at rb rfl
              have fb1 : wc.frozen? ⟨b, 1, none⟩ = false := frz_at rb
              have fb2 : wc.frozen? ⟨b, 2, none⟩ = false := frz_at rb
              have i1 : ¬ g8 = W1.heap.size := blk_ne r8 r4 (by decide)
              have i2 : ¬ g8 = w.heap.size := blk_ne r8 r0 (by decide)
              have i3 : ¬ W1.heap.size = g8 := fun e => i1 e.symm
              have i4 : ¬ w.heap.size = g8 := fun e => i2 e.symm
              have i5 : ¬ w.heap.size = W1.heap.size := fun e => hne4 e.symm
              have i6 : ¬ b = w.heap.size := hne
              have i7 : ¬ w.heap.size = b := hgt0
              have HX := Lib.hid (And.intro rb (And.intro r4 (And.intro r0 gw)))
              clear rb r4 r0 gw r8 d0 d1 dd0 dd1
              go_wp2
              have K3 : ∀ g, g ≠ W1.heap.size → (((wc.setCell ⟨W1.heap.size, 2, none⟩ (.int .i64 0)).setCell ⟨W1.heap.size, 3, none⟩ (.int .i64 0)).setCell ⟨W1.heap.size, 4, none⟩ (.string ⟨#[]⟩)).heap[g]? = wc.heap[g]? := fun g hg => by
                rw [heap_setCell_other _ ⟨W1.heap.size, 4, none⟩ g _ hg, heap_setCell_other _ ⟨W1.heap.size, 3, none⟩ g _ hg, heap_setCell_other _ ⟨W1.heap.size, 2, none⟩ g _ hg]
              have G3 : Gw b w (((wc.setCell ⟨W1.heap.size, 2, none⟩ (.int .i64 0)).setCell ⟨W1.heap.size, 3, none⟩ (.int .i64 0)).setCell ⟨W1.heap.size, 4, none⟩ (.string ⟨#[]⟩)) := ((HX.out.2.2.2.setO hle4 2 _).setO hle4 3 _).setO hle4 4 _
              have R3 : Rk b s (q0.tail, true) (((((wc.setCell ⟨W1.heap.size, 2, none⟩ (.int .i64 0)).setCell ⟨W1.heap.size, 3, none⟩ (.int .i64 0)).setCell ⟨W1.heap.size, 4, none⟩ (.string ⟨#[]⟩)).setCell ⟨b, 2, none⟩ (.bool true)).setCell ⟨b, 1, none⟩ (.int .i64 ((k : Int) + 1))) := ⟨k + 1, by omega, HQ.out, rk_put (rk_bad ((K3 b hneb).trans HX.out.1) true) _⟩
              have G4 : Gw b w (((((wc.setCell ⟨W1.heap.size, 2, none⟩ (.int .i64 0)).setCell ⟨W1.heap.size, 3, none⟩ (.int .i64 0)).setCell ⟨W1.heap.size, 4, none⟩ (.string ⟨#[]⟩)).setCell ⟨b, 2, none⟩ (.bool true)).setCell ⟨b, 1, none⟩ (.int .i64 ((k : Int) + 1))) := (G3.set 2 _).set 1 _
              have K4 : (((((wc.setCell ⟨W1.heap.size, 2, none⟩ (.int .i64 0)).setCell ⟨W1.heap.size, 3, none⟩ (.int .i64 0)).setCell ⟨W1.heap.size, 4, none⟩ (.string ⟨#[]⟩)).setCell ⟨b, 2, none⟩ (.bool true)).setCell ⟨b, 1, none⟩ (.int .i64 ((k : Int) + 1))).heap[w.heap.size]? = wc.heap[w.heap.size]? := by
                rw [heap_setCell_other _ ⟨b, 1, none⟩ w.heap.size _ i7, heap_setCell_other _ ⟨b, 2, none⟩ w.heap.size _ i7]
                exact K3 w.heap.size i5
              obtain ⟨q1, q2⟩ := five_set R3 G4 hne (Nat.le_refl _) (.string (bs nm)) (.int .i64 3) (.int .i64 0) (.int .i64 0) (.string ⟨#[]⟩)
              refine bodyPost_ret (v := (⟨nm, 3, 0, 0, []⟩ : Tst).one) (res5k rfl (five_blk (K4.trans HX.out.2.2.1) _ _ _ _ _)) rfl ⟨⟨⟨nm, 3, 0, 0, []⟩, rfl, fun y hy => by cases hy⟩, q1, q2⟩
          · by_cases h93 : s[m] = 93
            · have x44 : ((s[m].toNat : Int) != 44) = true := by rw [h93]; decide
              have x93 : ((s[m].toNat : Int) != 93) = false := by rw [h93]; decide
              have HV := Lib.hid (vwk_stop hkm hms HI.out.eq (by rw [drop_c hlt, h93]; simp [vw]))
              clear h39 h44 h93
              have hsl : ∀ w, (Instr.slice 9 (.string s) (some (.int .i64 ((k : Int) + 1))) (some (.int .i64 (m : Int))) none).run Tryz.prog w = .ok (.string (bs (vw false q0.tail))) w := fun w => by
                have := slice_mid s (k + 1) m hkm hms w
                rw [HV.out.1, HQ.out] at this
                rw [show ((k : Int) + 1) = ((k + 1 : Nat) : Int) by omega]
                exact this
              have HD : Hid (s.data.toList.drop m = q0.tail.drop (vw false q0.tail).length) := by show _ = _; rw [HV.out.2, HQ.out]
              have cc0 := c0
              have cc1 := c1
              have hblr : b < wr.heap.size := cell_lt c0
              have CC := Lib.hid (And.intro c0 c1)
              clear cc0 cc1
              clear fb1 c2 HON HA
              go_wp2
              go_quiet (fail)
              have HBn : Hid (Below wr.heap.size wr (wr.drewN nq)) := b_drewK (Below.refl _ wr) nq
              have d0 : (wr.drewN nq).cell? ⟨b, 0, none⟩ = some (.string s) := c0
              have d1 : (wr.drewN nq).cell? ⟨b, 1, none⟩ = some (.int .i64 (m : Int)) := c1
              clear c0 c1
              obtain ⟨W0, hW0⟩ : ∃ W0, W0 = wr.drewN nq := ⟨_, rfl⟩
              have hsz0 : W0.heap.size = wr.heap.size := by rw [hW0]; rfl
              rw [← hW0] at d0 d1 HBn
              have dd0 := cell_old d0
              have dd1 := cell_old d1
              have hnb : ¬ b = wr.heap.size := Nat.ne_of_lt hblr
              have hnb' : ¬ wr.heap.size = b := fun e => hnb e.symm
              go_upto_region 20 with fail
              rw [← hW0]
              clear hW0
              go_cut [8, 9] (fun s8 s9 wx => ∃ g8, KtC b s nm 3 W1.heap.size w.heap.size w m 0 0 ⟨#[]⟩ z s8 s9 g8 wx)
              case first =>
                first | (go_region_held3 (fun w' => w'.cell? ⟨b, 0, none⟩ = some (.string s) ∧ w'.cell? ⟨b, 1, none⟩ = some (.int .i64 (m : Int))) (go_keep) (first | (go_at_call 57; refine (cR _).mono ?_; rintro e W2 ⟨rfl, hB2'⟩; have hb2 : Hid (Below wr.heap.size wr W2) := on1K (by first | exact b_drw HBn.out | exact b_allocK (b_drw HBn.out) (Nat.le_refl _) _) hB2' (Nat.le_refl _); (try (have kb : W2.heap[wr.heap.size]? = some (.cells #[.int .i64 0, .int .i64 0, .string ⟨#[]⟩] 31 (0, 0)) := (hB2'.block _ (by simp [hsz0])).trans (by have := new_block W0.drew #[.int .i64 0, .int .i64 0, .string ⟨#[]⟩] 31; rw [show W0.drew.heap.size = wr.heap.size from hsz0] at this; exact this); have y5 : W2.cell? ⟨wr.heap.size, 0, none⟩ = some (.int .i64 0) := cell_at kb rfl; have y6 : W2.cell? ⟨wr.heap.size, 1, none⟩ = some (.int .i64 0) := cell_at kb rfl; have y7 : W2.cell? ⟨wr.heap.size, 2, none⟩ = some (.string ⟨#[]⟩) := cell_at kb rfl; have f5 : W2.frozen? ⟨wr.heap.size, 0, none⟩ = false := frz_at kb; have f6 : W2.frozen? ⟨wr.heap.size, 1, none⟩ = false := frz_at kb; have f7 : W2.frozen? ⟨wr.heap.size, 2, none⟩ = false := frz_at kb; replace kb := Lib.hid kb)); have k0 : W2.cell? ⟨b, 0, none⟩ = some (.string s) := (hb2.out.cell hblr).trans CC.out.1; have k1 : W2.cell? ⟨b, 1, none⟩ = some (.int .i64 (m : Int)) := (hb2.out.cell hblr).trans CC.out.2; have kk0 := cell_old k0; have kk1 := cell_old k1; clear hB2'))) | fail
                all_goals
                  go_wp2
                  go_meet
                  first
                    | exact ⟨_, ktC_alloc HI.out hb2.out _ _ _ _⟩
                    | exact ⟨_, ktC_set HI.out hb2.out kb.out (Nat.le_refl _) _ _ _ _⟩
              case rest =>
                obtain ⟨g8, ⟨rfl, rfl, r8, rb, r4, r0, gw⟩⟩ := hcut
                obtain ⟨u0, u1, u2, _, _, _, _, _, _, _, _, _⟩ := own3 r8
                obtain ⟨v0, v1, v2, v3, v4, m0, m1, m2, m3, m4⟩ := own5 r4
                obtain ⟨x0, x1, x2, x3, x4, o0, o1, o2, o3, o4⟩ := own5 r0
                have cb1 : wc.cell? ⟨b, 1, none⟩ = some (.int .i64 (m : Int)) := cell_at rb rfl
                have cb2 : wc.cell? ⟨b, 2, none⟩ = some (.bool false) := cell_at rb rfl
                have fb1 : wc.frozen? ⟨b, 1, none⟩ = false := frz_at rb
                have fb2 : wc.frozen? ⟨b, 2, none⟩ = false := frz_at rb
                have i1 : ¬ g8 = W1.heap.size := blk_ne r8 r4 (by decide)
                have i2 : ¬ g8 = w.heap.size := blk_ne r8 r0 (by decide)
                have i3 : ¬ W1.heap.size = g8 := fun e => i1 e.symm
                have i4 : ¬ w.heap.size = g8 := fun e => i2 e.symm
                have i5 : ¬ w.heap.size = W1.heap.size := fun e => hne4 e.symm
                have i6 : ¬ b = w.heap.size := hne
                have i7 : ¬ w.heap.size = b := hgt0
                have HX := Lib.hid (And.intro rb (And.intro r4 (And.intro r0 gw)))
                clear rb r4 r0 gw r8 d0 d1 dd0 dd1
                go_wp2
                have K3 : ∀ g, g ≠ W1.heap.size → (((wc.setCell ⟨W1.heap.size, 2, none⟩ (.int .i64 0)).setCell ⟨W1.heap.size, 3, none⟩ (.int .i64 0)).setCell ⟨W1.heap.size, 4, none⟩ (.string ⟨#[]⟩)).heap[g]? = wc.heap[g]? := fun g hg => by
                  rw [heap_setCell_other _ ⟨W1.heap.size, 4, none⟩ g _ hg, heap_setCell_other _ ⟨W1.heap.size, 3, none⟩ g _ hg, heap_setCell_other _ ⟨W1.heap.size, 2, none⟩ g _ hg]
                have G3 : Gw b w (((wc.setCell ⟨W1.heap.size, 2, none⟩ (.int .i64 0)).setCell ⟨W1.heap.size, 3, none⟩ (.int .i64 0)).setCell ⟨W1.heap.size, 4, none⟩ (.string ⟨#[]⟩)) := ((HX.out.2.2.2.setO hle4 2 _).setO hle4 3 _).setO hle4 4 _
                have R3 : Rk b s (q0.tail, true) (((((wc.setCell ⟨W1.heap.size, 2, none⟩ (.int .i64 0)).setCell ⟨W1.heap.size, 3, none⟩ (.int .i64 0)).setCell ⟨W1.heap.size, 4, none⟩ (.string ⟨#[]⟩)).setCell ⟨b, 2, none⟩ (.bool true)).setCell ⟨b, 1, none⟩ (.int .i64 ((k : Int) + 1))) := ⟨k + 1, by omega, HQ.out, rk_put (rk_bad ((K3 b hneb).trans HX.out.1) true) _⟩
                have G4 : Gw b w (((((wc.setCell ⟨W1.heap.size, 2, none⟩ (.int .i64 0)).setCell ⟨W1.heap.size, 3, none⟩ (.int .i64 0)).setCell ⟨W1.heap.size, 4, none⟩ (.string ⟨#[]⟩)).setCell ⟨b, 2, none⟩ (.bool true)).setCell ⟨b, 1, none⟩ (.int .i64 ((k : Int) + 1))) := (G3.set 2 _).set 1 _
                have K4 : (((((wc.setCell ⟨W1.heap.size, 2, none⟩ (.int .i64 0)).setCell ⟨W1.heap.size, 3, none⟩ (.int .i64 0)).setCell ⟨W1.heap.size, 4, none⟩ (.string ⟨#[]⟩)).setCell ⟨b, 2, none⟩ (.bool true)).setCell ⟨b, 1, none⟩ (.int .i64 ((k : Int) + 1))).heap[w.heap.size]? = wc.heap[w.heap.size]? := by
                  rw [heap_setCell_other _ ⟨b, 1, none⟩ w.heap.size _ i7, heap_setCell_other _ ⟨b, 2, none⟩ w.heap.size _ i7]
                  exact K3 w.heap.size i5
                obtain ⟨q1, q2⟩ := five_set R3 G4 hne (Nat.le_refl _) (.string (bs nm)) (.int .i64 3) (.int .i64 0) (.int .i64 0) (.string ⟨#[]⟩)
                refine bodyPost_ret (v := (⟨nm, 3, 0, 0, []⟩ : Tst).one) (res5k rfl (five_blk (K4.trans HX.out.2.2.1) _ _ _ _ _)) rfl ⟨⟨⟨nm, 3, 0, 0, []⟩, rfl, fun y hy => by cases hy⟩, q1, q2⟩
            · have x44 : ((s[m].toNat : Int) != 44) = true := by rw [bne_iff_ne]; intro e; exact h44 (UInt8.toNat_inj.1 (by simpa using (show s[m].toNat = 44 by omega)))
              have x93 : ((s[m].toNat : Int) != 93) = true := by rw [bne_iff_ne]; intro e; exact h93 (UInt8.toNat_inj.1 (by simpa using (show s[m].toNat = 93 by omega)))
              have HN := Lib.hid (fun nq => HON.out nq false hlt (by simp [vw, h39, h44, h93]))
              clear h39 h44 h93
              go_wp2
              go_quiet (fail)
              obtain ⟨n2, hn2⟩ : ∃ n, n = nq := ⟨nq, rfl⟩
              subst hn2
              go_wp2
              go_quiet (fail)
              go_wp2
              go_roundw
              case rel => exact ⟨false, m + 1, rfl, (HN.out (n2 + nq)).1⟩
              case measure => have := (HN.out (n2 + nq)).2; simpa using this
    · have g1 : decide ((m : Int) < (s.size : Int)) = false := by simp; omega
      have HV := Lib.hid (vwk_stop hkm hms HI.out.eq (by rw [drop_end s m hlt]; cases q <;> rfl))
      have hsl : ∀ w, (Instr.slice 9 (.string s) (some (.int .i64 ((k : Int) + 1))) (some (.int .i64 (m : Int))) none).run Tryz.prog w = .ok (.string (bs (vw false q0.tail))) w := fun w => by
        have := slice_mid s (k + 1) m hkm hms w
        rw [HV.out.1, HQ.out] at this
        rw [show ((k : Int) + 1) = ((k + 1 : Nat) : Int) by omega]
        exact this
      have HD : Hid (s.data.toList.drop m = q0.tail.drop (vw false q0.tail).length) := by show _ = _; rw [HV.out.2, HQ.out]
      have cc0 := c0
      have cc1 := c1
      have hblr : b < wr.heap.size := cell_lt c0
      have CC := Lib.hid (And.intro c0 c1)
      clear cc0 cc1
      clear fb1 c2 HON HA
      go_wp2
      go_quiet (fail)
      have HBn : Hid (Below wr.heap.size wr (wr.drewN nq)) := b_drewK (Below.refl _ wr) nq
      have d0 : (wr.drewN nq).cell? ⟨b, 0, none⟩ = some (.string s) := c0
      have d1 : (wr.drewN nq).cell? ⟨b, 1, none⟩ = some (.int .i64 (m : Int)) := c1
      clear c0 c1
      obtain ⟨W0, hW0⟩ : ∃ W0, W0 = wr.drewN nq := ⟨_, rfl⟩
      have hsz0 : W0.heap.size = wr.heap.size := by rw [hW0]; rfl
      rw [← hW0] at d0 d1 HBn
      have dd0 := cell_old d0
      have dd1 := cell_old d1
      have hnb : ¬ b = wr.heap.size := Nat.ne_of_lt hblr
      have hnb' : ¬ wr.heap.size = b := fun e => hnb e.symm
      go_upto_region 20 with fail
      rw [← hW0]
      clear hW0
      go_cut [8, 9] (fun s8 s9 wx => ∃ g8, KtC b s nm 3 W1.heap.size w.heap.size w m 0 0 ⟨#[]⟩ z s8 s9 g8 wx)
      case first =>
        first | (go_region_held3 (fun w' => w'.cell? ⟨b, 0, none⟩ = some (.string s) ∧ w'.cell? ⟨b, 1, none⟩ = some (.int .i64 (m : Int))) (go_keep) (first | (go_at_call 57; refine (cR _).mono ?_; rintro e W2 ⟨rfl, hB2'⟩; have hb2 : Hid (Below wr.heap.size wr W2) := on1K (by first | exact b_drw HBn.out | exact b_allocK (b_drw HBn.out) (Nat.le_refl _) _) hB2' (Nat.le_refl _); (try (have kb : W2.heap[wr.heap.size]? = some (.cells #[.int .i64 0, .int .i64 0, .string ⟨#[]⟩] 31 (0, 0)) := (hB2'.block _ (by simp [hsz0])).trans (by have := new_block W0.drew #[.int .i64 0, .int .i64 0, .string ⟨#[]⟩] 31; rw [show W0.drew.heap.size = wr.heap.size from hsz0] at this; exact this); have y5 : W2.cell? ⟨wr.heap.size, 0, none⟩ = some (.int .i64 0) := cell_at kb rfl; have y6 : W2.cell? ⟨wr.heap.size, 1, none⟩ = some (.int .i64 0) := cell_at kb rfl; have y7 : W2.cell? ⟨wr.heap.size, 2, none⟩ = some (.string ⟨#[]⟩) := cell_at kb rfl; have f5 : W2.frozen? ⟨wr.heap.size, 0, none⟩ = false := frz_at kb; have f6 : W2.frozen? ⟨wr.heap.size, 1, none⟩ = false := frz_at kb; have f7 : W2.frozen? ⟨wr.heap.size, 2, none⟩ = false := frz_at kb; replace kb := Lib.hid kb)); have k0 : W2.cell? ⟨b, 0, none⟩ = some (.string s) := (hb2.out.cell hblr).trans CC.out.1; have k1 : W2.cell? ⟨b, 1, none⟩ = some (.int .i64 (m : Int)) := (hb2.out.cell hblr).trans CC.out.2; have kk0 := cell_old k0; have kk1 := cell_old k1; clear hB2'))) | fail
        all_goals
          go_wp2
          go_meet
          first
            | exact ⟨_, ktC_alloc HI.out hb2.out _ _ _ _⟩
            | exact ⟨_, ktC_set HI.out hb2.out kb.out (Nat.le_refl _) _ _ _ _⟩
      case rest =>
        obtain ⟨g8, ⟨rfl, rfl, r8, rb, r4, r0, gw⟩⟩ := hcut
        obtain ⟨u0, u1, u2, _, _, _, _, _, _, _, _, _⟩ := own3 r8
        obtain ⟨v0, v1, v2, v3, v4, m0, m1, m2, m3, m4⟩ := own5 r4
        obtain ⟨x0, x1, x2, x3, x4, o0, o1, o2, o3, o4⟩ := own5 r0
        have cb1 : wc.cell? ⟨b, 1, none⟩ = some (.int .i64 (m : Int)) := cell_at rb rfl
        have cb2 : wc.cell? ⟨b, 2, none⟩ = some (.bool false) := cell_at rb rfl
        have fb1 : wc.frozen? ⟨b, 1, none⟩ = false := frz_at rb
        have fb2 : wc.frozen? ⟨b, 2, none⟩ = false := frz_at rb
        have i1 : ¬ g8 = W1.heap.size := blk_ne r8 r4 (by decide)
        have i2 : ¬ g8 = w.heap.size := blk_ne r8 r0 (by decide)
        have i3 : ¬ W1.heap.size = g8 := fun e => i1 e.symm
        have i4 : ¬ w.heap.size = g8 := fun e => i2 e.symm
        have i5 : ¬ w.heap.size = W1.heap.size := fun e => hne4 e.symm
        have i6 : ¬ b = w.heap.size := hne
        have i7 : ¬ w.heap.size = b := hgt0
        have HX := Lib.hid (And.intro rb (And.intro r4 (And.intro r0 gw)))
        clear rb r4 r0 gw r8 d0 d1 dd0 dd1
        go_wp2
        have K3 : ∀ g, g ≠ W1.heap.size → (((wc.setCell ⟨W1.heap.size, 2, none⟩ (.int .i64 0)).setCell ⟨W1.heap.size, 3, none⟩ (.int .i64 0)).setCell ⟨W1.heap.size, 4, none⟩ (.string ⟨#[]⟩)).heap[g]? = wc.heap[g]? := fun g hg => by
          rw [heap_setCell_other _ ⟨W1.heap.size, 4, none⟩ g _ hg, heap_setCell_other _ ⟨W1.heap.size, 3, none⟩ g _ hg, heap_setCell_other _ ⟨W1.heap.size, 2, none⟩ g _ hg]
        have G3 : Gw b w (((wc.setCell ⟨W1.heap.size, 2, none⟩ (.int .i64 0)).setCell ⟨W1.heap.size, 3, none⟩ (.int .i64 0)).setCell ⟨W1.heap.size, 4, none⟩ (.string ⟨#[]⟩)) := ((HX.out.2.2.2.setO hle4 2 _).setO hle4 3 _).setO hle4 4 _
        have R3 : Rk b s (q0.tail, true) (((((wc.setCell ⟨W1.heap.size, 2, none⟩ (.int .i64 0)).setCell ⟨W1.heap.size, 3, none⟩ (.int .i64 0)).setCell ⟨W1.heap.size, 4, none⟩ (.string ⟨#[]⟩)).setCell ⟨b, 2, none⟩ (.bool true)).setCell ⟨b, 1, none⟩ (.int .i64 ((k : Int) + 1))) := ⟨k + 1, by omega, HQ.out, rk_put (rk_bad ((K3 b hneb).trans HX.out.1) true) _⟩
        have G4 : Gw b w (((((wc.setCell ⟨W1.heap.size, 2, none⟩ (.int .i64 0)).setCell ⟨W1.heap.size, 3, none⟩ (.int .i64 0)).setCell ⟨W1.heap.size, 4, none⟩ (.string ⟨#[]⟩)).setCell ⟨b, 2, none⟩ (.bool true)).setCell ⟨b, 1, none⟩ (.int .i64 ((k : Int) + 1))) := (G3.set 2 _).set 1 _
        have K4 : (((((wc.setCell ⟨W1.heap.size, 2, none⟩ (.int .i64 0)).setCell ⟨W1.heap.size, 3, none⟩ (.int .i64 0)).setCell ⟨W1.heap.size, 4, none⟩ (.string ⟨#[]⟩)).setCell ⟨b, 2, none⟩ (.bool true)).setCell ⟨b, 1, none⟩ (.int .i64 ((k : Int) + 1))).heap[w.heap.size]? = wc.heap[w.heap.size]? := by
          rw [heap_setCell_other _ ⟨b, 1, none⟩ w.heap.size _ i7, heap_setCell_other _ ⟨b, 2, none⟩ w.heap.size _ i7]
          exact K3 w.heap.size i5
        obtain ⟨q1, q2⟩ := five_set R3 G4 hne (Nat.le_refl _) (.string (bs nm)) (.int .i64 3) (.int .i64 0) (.int .i64 0) (.string ⟨#[]⟩)
        refine bodyPost_ret (v := (⟨nm, 3, 0, 0, []⟩ : Tst).one) (res5k rfl (five_blk (K4.trans HX.out.2.2.1) _ _ _ _ _)) rfl ⟨⟨⟨nm, 3, 0, 0, []⟩, rfl, fun y hy => by cases hy⟩, q1, q2⟩
end Go.Proofs.YtmgkdghkenpmbaaGreatDoor
