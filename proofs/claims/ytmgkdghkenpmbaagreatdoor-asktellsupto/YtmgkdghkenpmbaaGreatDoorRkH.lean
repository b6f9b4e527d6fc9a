/-
  The walk of the document's reader: a step with a bond, forth.
-/
import Derived.Test.YtmgkdghkenpmbaaGreatDoorRkG
namespace Go.Proofs.YtmgkdghkenpmbaaGreatDoor
open Go.RowKit
set_option linter.unusedVariables false
set_option linter.unusedSimpArgs false

set_option maxHeartbeats 8000000 in
set_option maxRecDepth 100000 in
theorem kstep_false {b : Nat} {s : ByteArray} {r : Nm} {w : World} (h : Rk b s (r, false) w) (hs : s.size ≤ 10000000) (hbk : bBk r = false) :
    Calls Tryz.prog 22 #[rp b, .bool false] w fun e w' => KsAns w w' e (pStep false r).2 ∧ Rk b s ((pStep false r).1, (pStep false r).2.isNone) w' ∧ Gw b w w' := by
  have hbl := h.lt
  have hs' : s.size ≤ maxLen := by unfold maxLen; omega
  have hs2 : s.size ≤ 140737488355328 := by omega
  have HP : Hid (KsP b s (r, false) (w.heap.size + 1) w.heap.size w [] false [] (.slice none 0 0) ((w.alloc (.cells #[.string ⟨#[]⟩, .bool false, .string ⟨#[]⟩, .slice none 0 0] 29)).alloc (.cells #[.string ⟨#[]⟩, .bool false, .string ⟨#[]⟩, .slice none 0 0] 29))) := by
    have n2 := new_block (w.alloc (.cells #[.string ⟨#[]⟩, .bool false, .string ⟨#[]⟩, .slice none 0 0] 29)) #[.string ⟨#[]⟩, .bool false, .string ⟨#[]⟩, .slice none 0 0] 29
    rw [World.size_alloc] at n2
    exact ⟨(h.alloc _).alloc _, n2, old_block (new_block w _ 29) _, ((Gw.refl b w).alloc _).alloc _, by omega, by omega, by omega, by omega, Nat.le_refl _⟩
  have h50 : ¬ w.heap.size + 1 = w.heap.size := by omega
  have h05 : ¬ w.heap.size = w.heap.size + 1 := by omega
  have hb5 : ¬ b = w.heap.size + 1 := by omega
  have hb5' : ¬ w.heap.size + 1 = b := by omega
  have hb0 : ¬ b = w.heap.size := by omega
  have hb0' : ¬ w.heap.size = b := by omega
  obtain ⟨hY, hV⟩ : ndS 32 (ndS 62 (ndS 45 (nmS (ndS 45 (ndS 32 (r, false)))))) = ((pBond r).1, (pBond r).2.isNone) ∧ ∀ n c, (pBond r).2 = some (n, c) → nmV (ndS 45 (ndS 32 (r, false))) = n ∧ false = c := by
    have := bond_same r
    unfold bS7 bS3 at this
    rw [hbk] at this
    exact this
  have HDir : Hid ((!(ndS 32 (r, false)).2 && seesB (ndS 32 (r, false)).1 60) = false) := hbk
  clear hbk
  rcases hp : pBond r with ⟨r1, _ | ⟨n, c⟩⟩
  · have hpS : pStep false r = (r1, none) := by unfold pStep; rw [if_neg (by decide), hp]
    rw [hpS]
    rw [hp] at hY
    have HY := Lib.hid hY
    obtain ⟨n0, hn0⟩ : ∃ n0, nmV (ndS 45 (ndS 32 (r, false))) = n0 := ⟨_, rfl⟩
    have HV := Lib.hid hn0
    have HQ : Hid (nmS (r1, true) = (r1, true) ∧ nmV (r1, true) = []) := nmS_bad r1
    clear h hp hpS hY hV hn0
    go_enter Tryz.func22, Tryz.ntmps22
    go_wp2_with (go_at_call 37; refine (need_any HP.out.rk 32 hs').mono ?_; rintro e U1 ⟨rfl, hR, hG⟩; refine Hid.out ?_)
    refine Lib.hid ?_
    have B1 := Lib.hid (HP.out.call hR hG)
    clear hR hG
    have cI := is_any B1.out.rk 60 hs'
    rw [HDir.out] at cI
    obtain ⟨a0, a1, a2, a3, f0, f1, f2, f3⟩ := own4 B1.out.r5
    go_wp2_with (go_at_call 38; refine cI.mono ?_; rintro e W3 ⟨rfl, nq, rfl⟩)
    have B2 := Lib.hid ((B1.out.drewN nq).set1 false)
    go_wp2_with (go_at_call 37; refine (need_any B2.out.rk 45 hs').mono ?_; rintro e U3 ⟨rfl, hR, hG⟩; refine Hid.out ?_)
    refine Lib.hid ?_
    have B4 := Lib.hid (B2.out.call hR hG)
    clear hR hG
    clear a0 a1 a2 a3 f0 f1 f2 f3 cI
    have cM := kname_any B4.out.rk hs'
    rw [HV.out] at cM
    go_wp2_with (go_at_call 39; refine cM.mono ?_; rintro e U4 ⟨rfl, hR, hG⟩; refine Hid.out ?_)
    refine Lib.hid ?_
    have B5 := Lib.hid (B4.out.call hR hG)
    obtain ⟨a0, a1, a2, a3, f0, f1, f2, f3⟩ := own4 B5.out.r5
    have B6 := Lib.hid (B5.out.set0 n0)
    clear hR hG cM
    go_wp2_with (go_at_call 37; refine (need_any B6.out.rk 45 hs').mono ?_; rintro e U5 ⟨rfl, hR, hG⟩; refine Hid.out ?_)
    refine Lib.hid ?_
    have B7 := Lib.hid (B6.out.call hR hG)
    clear hR hG
    clear a0 a1 a2 a3 f0 f1 f2 f3
    obtain ⟨a0, a1, a2, a3, f0, f1, f2, f3⟩ := own4 B7.out.r5
    go_wp2_with (go_at_call 37; refine (need_any B7.out.rk 62 hs').mono ?_; rintro e U6 ⟨rfl, hR, hG⟩; refine Hid.out ?_)
    refine Lib.hid ?_
    have B8 := Lib.hid (B7.out.call hR hG)
    clear hR hG
    go_wp2_with (go_at_call 37; refine (need_any B8.out.rk 32 hs').mono ?_; rintro e U7 ⟨rfl, hR, hG⟩; refine Hid.out ?_)
    refine Lib.hid ?_
    have B9 := Lib.hid (B8.out.call hR hG)
    clear hR hG
    clear a0 a1 a2 a3 f0 f1 f2 f3
    have HN : Hid (KsP b s (r1, true) (w.heap.size + 1) w.heap.size w n0 false [] (.slice none 0 0) U7) := by
      have := B9.out
      rw [HY.out] at this
      exact this
    clear B1 B2 B4 B5 B6 B7 B9 HP
    have cN := kname_any HN.out.rk hs'
    rw [HQ.out.1, HQ.out.2] at cN
    go_wp2_with (go_at_call 39; refine cN.mono ?_; rintro e V1 ⟨rfl, hR, hG⟩; refine Hid.out ?_)
    refine Lib.hid ?_
    have H1 := Lib.hid (HN.out.call hR hG)
    obtain ⟨a0, a1, a2, a3, f0, f1, f2, f3⟩ := own4 H1.out.r5
    obtain ⟨e0, e1, e2, e3, p0, p1, p2, p3⟩ := own4 H1.out.r0
    have H2 := Lib.hid (H1.out.set2 [])
    have cI := is_any H2.out.rk 91 hs'
    clear hR hG
    rw [show ((!(r1, true).2) && seesB (r1, true).1 91) = false from rfl] at cI
    go_wp2_with (go_at_call 38; refine cI.mono ?_; rintro e W3 ⟨rfl, nq, rfl⟩)
    obtain ⟨Q1, Q2⟩ := (H2.out.drewN nq).done (.string (bs n0)) (.bool false) (.string (bs [])) (.slice none 0 0)
    refine bodyPost_ret (v := .agg #[.string (bs n0), .bool false, .string (bs []), .slice none 0 0]) (res4k rfl (four_blk (H2.out.drewN nq).r0 _ _ _ _)) rfl ⟨⟨⟨⟨n0, false, [], []⟩, .slice none 0 0⟩, ⟨_, _, _, rfl⟩, rfl, fun p hp => by cases hp⟩, Q1, Q2⟩
  · rw [hp] at hY hV
    obtain ⟨hv, rfl⟩ := hV n c rfl
    have hpS : pStep false r = pKind n false r1 := by unfold pStep; rw [if_neg (by decide), hp]
    rw [hpS]
    have HY := Lib.hid hY
    have HV := Lib.hid hv
    clear hp hpS hY hV hv
    by_cases hn : nameT r1 = []
    · rw [pKind_no hn]
      have HQ : Hid (nmS (r1, false) = (r1, true) ∧ nmV (r1, false) = []) := nmS_no hn
      clear h hn
      go_enter Tryz.func22, Tryz.ntmps22
      go_wp2_with (go_at_call 37; refine (need_any HP.out.rk 32 hs').mono ?_; rintro e U1 ⟨rfl, hR, hG⟩; refine Hid.out ?_)
      refine Lib.hid ?_
      have B1 := Lib.hid (HP.out.call hR hG)
      clear hR hG
      have cI := is_any B1.out.rk 60 hs'
      rw [HDir.out] at cI
      obtain ⟨a0, a1, a2, a3, f0, f1, f2, f3⟩ := own4 B1.out.r5
      go_wp2_with (go_at_call 38; refine cI.mono ?_; rintro e W3 ⟨rfl, nq, rfl⟩)
      have B2 := Lib.hid ((B1.out.drewN nq).set1 false)
      go_wp2_with (go_at_call 37; refine (need_any B2.out.rk 45 hs').mono ?_; rintro e U3 ⟨rfl, hR, hG⟩; refine Hid.out ?_)
      refine Lib.hid ?_
      have B4 := Lib.hid (B2.out.call hR hG)
      clear hR hG
      clear a0 a1 a2 a3 f0 f1 f2 f3 cI
      have cM := kname_any B4.out.rk hs'
      rw [HV.out] at cM
      go_wp2_with (go_at_call 39; refine cM.mono ?_; rintro e U4 ⟨rfl, hR, hG⟩; refine Hid.out ?_)
      refine Lib.hid ?_
      have B5 := Lib.hid (B4.out.call hR hG)
      obtain ⟨a0, a1, a2, a3, f0, f1, f2, f3⟩ := own4 B5.out.r5
      have B6 := Lib.hid (B5.out.set0 n)
      clear hR hG cM
      go_wp2_with (go_at_call 37; refine (need_any B6.out.rk 45 hs').mono ?_; rintro e U5 ⟨rfl, hR, hG⟩; refine Hid.out ?_)
      refine Lib.hid ?_
      have B7 := Lib.hid (B6.out.call hR hG)
      clear hR hG
      clear a0 a1 a2 a3 f0 f1 f2 f3
      obtain ⟨a0, a1, a2, a3, f0, f1, f2, f3⟩ := own4 B7.out.r5
      go_wp2_with (go_at_call 37; refine (need_any B7.out.rk 62 hs').mono ?_; rintro e U6 ⟨rfl, hR, hG⟩; refine Hid.out ?_)
      refine Lib.hid ?_
      have B8 := Lib.hid (B7.out.call hR hG)
      clear hR hG
      go_wp2_with (go_at_call 37; refine (need_any B8.out.rk 32 hs').mono ?_; rintro e U7 ⟨rfl, hR, hG⟩; refine Hid.out ?_)
      refine Lib.hid ?_
      have B9 := Lib.hid (B8.out.call hR hG)
      clear hR hG
      clear a0 a1 a2 a3 f0 f1 f2 f3
      have HN : Hid (KsP b s (r1, false) (w.heap.size + 1) w.heap.size w n false [] (.slice none 0 0) U7) := by
        have := B9.out
        rw [HY.out] at this
        exact this
      clear B1 B2 B4 B5 B6 B7 B9 HP
      have cN := kname_any HN.out.rk hs'
      rw [HQ.out.1, HQ.out.2] at cN
      go_wp2_with (go_at_call 39; refine cN.mono ?_; rintro e V1 ⟨rfl, hR, hG⟩; refine Hid.out ?_)
      refine Lib.hid ?_
      have H1 := Lib.hid (HN.out.call hR hG)
      obtain ⟨a0, a1, a2, a3, f0, f1, f2, f3⟩ := own4 H1.out.r5
      obtain ⟨e0, e1, e2, e3, p0, p1, p2, p3⟩ := own4 H1.out.r0
      have H2 := Lib.hid (H1.out.set2 [])
      have cI := is_any H2.out.rk 91 hs'
      clear hR hG
      rw [show ((!(r1, true).2) && seesB (r1, true).1 91) = false from rfl] at cI
      go_wp2_with (go_at_call 38; refine cI.mono ?_; rintro e W3 ⟨rfl, nq, rfl⟩)
      obtain ⟨Q1, Q2⟩ := (H2.out.drewN nq).done (.string (bs n)) (.bool false) (.string (bs [])) (.slice none 0 0)
      refine bodyPost_ret (v := .agg #[.string (bs n), .bool false, .string (bs []), .slice none 0 0]) (res4k rfl (four_blk (H2.out.drewN nq).r0 _ _ _ _)) rfl ⟨⟨⟨⟨n, false, [], []⟩, .slice none 0 0⟩, ⟨_, _, _, rfl⟩, rfl, fun p hp => by cases hp⟩, Q1, Q2⟩
    · rw [pKind_yes hn]
      have HQ : Hid (nmS (r1, false) = (nameD r1, false) ∧ nmV (r1, false) = nameT r1) := nmS_ok hn
      generalize nameT r1 = kd at HQ ⊢
      generalize nameD r1 = q at HQ ⊢
      clear h hn
      by_cases h91 : seesB q 91 = true
      · have hpt : pTests q = testsR q.tail := by unfold pTests; rw [if_pos h91]
        rw [hpt]
        clear hpt
        have H91 := Lib.hid h91
        clear h91
        go_enter Tryz.func22, Tryz.ntmps22
        go_wp2_with (go_at_call 37; refine (need_any HP.out.rk 32 hs').mono ?_; rintro e U1 ⟨rfl, hR, hG⟩; refine Hid.out ?_)
        refine Lib.hid ?_
        have B1 := Lib.hid (HP.out.call hR hG)
        clear hR hG
        have cI := is_any B1.out.rk 60 hs'
        rw [HDir.out] at cI
        obtain ⟨a0, a1, a2, a3, f0, f1, f2, f3⟩ := own4 B1.out.r5
        go_wp2_with (go_at_call 38; refine cI.mono ?_; rintro e W3 ⟨rfl, nq, rfl⟩)
        have B2 := Lib.hid ((B1.out.drewN nq).set1 false)
        go_wp2_with (go_at_call 37; refine (need_any B2.out.rk 45 hs').mono ?_; rintro e U3 ⟨rfl, hR, hG⟩; refine Hid.out ?_)
        refine Lib.hid ?_
        have B4 := Lib.hid (B2.out.call hR hG)
        clear hR hG
        clear a0 a1 a2 a3 f0 f1 f2 f3 cI
        have cM := kname_any B4.out.rk hs'
        rw [HV.out] at cM
        go_wp2_with (go_at_call 39; refine cM.mono ?_; rintro e U4 ⟨rfl, hR, hG⟩; refine Hid.out ?_)
        refine Lib.hid ?_
        have B5 := Lib.hid (B4.out.call hR hG)
        obtain ⟨a0, a1, a2, a3, f0, f1, f2, f3⟩ := own4 B5.out.r5
        have B6 := Lib.hid (B5.out.set0 n)
        clear hR hG cM
        go_wp2_with (go_at_call 37; refine (need_any B6.out.rk 45 hs').mono ?_; rintro e U5 ⟨rfl, hR, hG⟩; refine Hid.out ?_)
        refine Lib.hid ?_
        have B7 := Lib.hid (B6.out.call hR hG)
        clear hR hG
        clear a0 a1 a2 a3 f0 f1 f2 f3
        obtain ⟨a0, a1, a2, a3, f0, f1, f2, f3⟩ := own4 B7.out.r5
        go_wp2_with (go_at_call 37; refine (need_any B7.out.rk 62 hs').mono ?_; rintro e U6 ⟨rfl, hR, hG⟩; refine Hid.out ?_)
        refine Lib.hid ?_
        have B8 := Lib.hid (B7.out.call hR hG)
        clear hR hG
        go_wp2_with (go_at_call 37; refine (need_any B8.out.rk 32 hs').mono ?_; rintro e U7 ⟨rfl, hR, hG⟩; refine Hid.out ?_)
        refine Lib.hid ?_
        have B9 := Lib.hid (B8.out.call hR hG)
        clear hR hG
        clear a0 a1 a2 a3 f0 f1 f2 f3
        have HN : Hid (KsP b s (r1, false) (w.heap.size + 1) w.heap.size w n false [] (.slice none 0 0) U7) := by
          have := B9.out
          rw [HY.out] at this
          exact this
        clear B1 B2 B4 B5 B6 B7 B9 HP
        have cN := kname_any HN.out.rk hs'
        rw [HQ.out.1, HQ.out.2] at cN
        have h91 := H91.out
        go_wp2_with (go_at_call 39; refine cN.mono ?_; rintro e V1 ⟨rfl, hR, hG⟩; refine Hid.out ?_)
        refine Lib.hid ?_
        have H1 := Lib.hid (HN.out.call hR hG)
        obtain ⟨a0, a1, a2, a3, f0, f1, f2, f3⟩ := own4 H1.out.r5
        obtain ⟨e0, e1, e2, e3, p0, p1, p2, p3⟩ := own4 H1.out.r0
        have H2 := Lib.hid (H1.out.set2 kd)
        have cI := is_any H2.out.rk 91 hs'
        clear hR hG
        rw [show ((!(q, false).2) && seesB (q, false).1 91) = true from h91] at cI
        obtain ⟨k, hk, hr, hbb⟩ := H2.out.rk
        simp only at hr hbb
        obtain ⟨hk1, hr1⟩ := rd_next hr h91
        have HBB := Lib.hid hbb
        have d1 : (V1.setCell ⟨w.heap.size + 1, 2, none⟩ (.string (bs kd))).cell? ⟨b, 1, none⟩ = some (.int .i64 (k : Int)) := cell_at hbb rfl
        have df : (V1.setCell ⟨w.heap.size + 1, 2, none⟩ (.string (bs kd))).frozen? ⟨b, 1, none⟩ = false := frz_at hbb
        have hql : q.tail.length ≤ s.size := by have := List.length_tail (l := q); have := H2.out.rk.atOf.2; simp only at this; omega
        have HL0 : Hid (∀ nq : Nat, KlI b s q.tail (w.heap.size + 1) w.heap.size w n false kd true (q.tail, false) [] (.slice none 0 0) (((V1.setCell ⟨w.heap.size + 1, 2, none⟩ (.string (bs kd))).drewN nq).setCell ⟨b, 1, none⟩ (.int .i64 ((k : Int) + 1)))) := fun nq =>
          ⟨(H2.out.drewN nq).call ⟨k + 1, by omega, hr1, rk_put (w := (V1.setCell ⟨w.heap.size + 1, 2, none⟩ (.string (bs kd))).drewN nq) HBB.out _⟩ ((Gw.refl _ _).set _ _), World.ownsRow_nil _ _ _ _, fun _ => ⟨rfl, by simp, by simpa using hql⟩, fun h => by cases h⟩
        clear hr hbb hr1
        go_wp2_with (go_at_call 38; refine cI.mono ?_; rintro e W3 ⟨rfl, nq, rfl⟩)
        have HL0 := Lib.hid (HL0.out nq)
        clear a0 a1 a2 a3 f0 f1 f2 f3 e0 e1 e2 e3 p0 p1 p2 p3 d1 df h91 cI
        obtain ⟨i0, hi0, hz0, hz1, hz2⟩ := info_parts infoT
        go_loopw [9] (fun v9 wr => ∃ (again : Bool) (σ : Nm × Bool) (acc : List Tst) (v : Value), v9 = .bool again ∧ KlI b s q.tail (w.heap.size + 1) w.heap.size w n false kd again σ acc v wr) (fun v9 wr => mK v9 b s.size wr)
        case atStart => exact ⟨true, _, [], _, rfl, HL0.out⟩
        case round =>
          obtain ⟨again, σ, acc, v, rfl, hI⟩ := hrel
          clear HL0
          obtain ⟨av, cv, ev⟩ := own_slice hI.own
          subst ev
          have HI := Lib.hid hI
          cases again with
          | false =>
            have HF := Lib.hid (hI.off rfl)
            obtain ⟨a0, a1, a2, a3, f0, f1, f2, f3⟩ := own4 hI.kp.r5
            obtain ⟨e0, e1, e2, e3, p0, p1, p2, p3⟩ := own4 hI.kp.r0
            clear hI
            go_wp2
            obtain ⟨Q1, Q2⟩ := HI.out.kp.done (.string (bs n)) (.bool false) (.string (bs kd)) (.slice av acc.length cv)
            refine bodyPost_ret (v := .agg #[.string (bs n), .bool false, .string (bs kd), .slice av acc.length cv]) (res4k rfl (four_blk HI.out.kp.r0 _ _ _ _)) rfl ⟨⟨⟨⟨n, false, kd, acc⟩, .slice av acc.length cv⟩, ⟨_, _, _, rfl⟩, rfl, fun p hp => ?_⟩, ?_, Q2⟩
            · obtain ⟨ts, hts, rfl⟩ := Option.map_eq_some_iff.1 hp
              have := HF.out.2 ts hts
              subst this
              exact ⟨rfl, own_kt HI.out.own (four_kt HI.out.kp.r0 _ _ _ _)⟩
            · have e := HF.out.1
              rw [e] at Q1
              have e2 : ((testsR q.tail).2.map fun ts => (⟨n, false, kd, ts⟩ : St)).isNone = (testsR q.tail).2.isNone := by cases (testsR q.tail).2 <;> rfl
              rw [e2]
              exact Q1
          | true =>
            obtain ⟨hb0, heq, hln⟩ := hI.on rfl
            obtain ⟨q1, bad⟩ := σ
            simp only at hb0
            subst hb0
            have cX := ktest_any hI.kp.rk hs2
            have hA := hI.kp.rk.atOf
            have HA := Lib.hid hA
            simp only at heq hln
            have HEQ := Lib.hid heq
            have HM : Hid (acc.length + 1 ≤ maxLen ∧ (acc.length + 1) * 56 ≤ 140737488355328) := by unfold maxLen; exact ⟨by omega, by omega⟩
            have cb2 : wr.cell? ⟨b, 2, none⟩ = some (.bool false) := by obtain ⟨kk, _, _, hb⟩ := hI.kp.rk; exact cell_at hb rfl
            clear hI hA heq
            rcases hx0 : (pTest q1).2 with _ | y
            · rw [hx0] at cX
              have HT : Hid (testsR q.tail = ((pTest q1).1, none)) := by show _ = _; rw [HEQ.out, testsR_no hx0]; rfl
              simp only [Option.isNone_none] at cX
              go_wp2_with (first | (go_at_call 40; refine cX.mono ?_; rintro e W1 ⟨⟨x, rfl, hx⟩, hR1, hG1⟩; have HR1 := Lib.hid hR1; have HG1 := Lib.hid hG1; have k1 := HI.out.kp.call hR1 hG1; have aa := cell_old (cell_at (i := 3) k1.r5 rfl); have HO1 := Lib.hid (((own_ktG HI.out.own HI.out.kp.rk hG1).alloc (boxT x)).alloc (boxT x)); have HZ := Lib.hid (Nat.le_trans (HI.out.kp.gw.trans hG1).size (Nat.le_of_lt (by simp; omega) : W1.heap.size ≤ ((W1.alloc (boxT x)).alloc (boxT x)).heap.size)); have hnw : Hid (∀ j u, x.cells[j]? = some u → ((W1.alloc (boxT x)).alloc (boxT x)).cell? ((⟨W1.heap.size + 1, 0, none⟩ : Addr).add j) = some u) := (by have := new_at (W1.alloc (boxT x)) x.cells 33; rw [World.size_alloc] at this; exact this); clear hR1 hG1 k1) | (at_builtin; refine wpList_append_own _ rfl (.tmp 64) (.tmp 66) 27 rfl w.heap.size 33 i0 _ 5 56 Tryz.underlying27 hi0 hz0 hz1 hz2 rfl (by decide) (.slice av acc.length cv) acc.length (cellsT acc) rfl HO1.out ⟨W1.heap.size + 1, 0, none⟩ 1 1 x.cells rfl rfl hnw.out (by simp [Tst.cells, Value.oneCell']) HM.out.1 HM.out.2 HZ.out ?_; intro v1 W2 hown1 hgrow1 _; obtain ⟨a1, d1, ev⟩ := own_slice hown1; subst ev; obtain ⟨k2, k3, k4⟩ := klI_app HI.out HR1.out HG1.out hown1 hgrow1; have t3 : W2.cell? ⟨w.heap.size + 1, 3, none⟩ = some (.slice av acc.length cv) := cell_at k2.r5 rfl; have tf3 : W2.frozen? ⟨w.heap.size + 1, 3, none⟩ = false := frz_at k2.r5; have HK := Lib.hid (And.intro k3 k4); have cI := is_any k3.rk 44 hs'; clear k2 k3 k4 hown1 hgrow1; refine Hid.out ?_))
              refine Lib.hid ?_

              rw [show ((!((pTest q1).1, true).2) && seesB ((pTest q1).1, true).1 44) = false from rfl] at cI
              have cN := fun n => need_any (HK.out.1.drewN n).rk 93 hs'
              rw [ndS_bad] at cN
              go_wp2_with (first | (go_at_call 38; refine cI.mono ?_; rintro e W3 ⟨rfl, nq, rfl⟩) | (go_at_call 37; refine (cN _).mono ?_; rintro e W4 ⟨rfl, hR4, hG4⟩))
              go_roundw
              case rel =>
                refine ⟨false, _, _, _, rfl, (HK.out.1.drewN nq).call hR4 hG4, own_ktD HK.out.2 (HK.out.1.drewN nq).rk hG4, fun h => (by cases h), fun _ => ⟨?_, fun ts h => ?_⟩⟩
                · rw [HT.out]; rfl
                · rw [HT.out] at h; cases h
              case measure => simp [mK]
            · rw [hx0] at cX
              have hlt := tail_lt hx0
              have hle := pTest_len (r := q1) (by rw [hx0]; rfl)
              have HLT := Lib.hid hlt
              have HLE := Lib.hid hle
              have HLN := Lib.hid hln
              simp only [Option.isNone_some] at cX
              clear hlt hle hln
              by_cases h44 : seesB (pTest q1).1 44 = true
              · have HT : Hid (testsR q.tail = ((testsR (pTest q1).1.tail).1, (testsR (pTest q1).1.tail).2.map ((acc ++ [y]) ++ ·))) := by
                  show _ = _
                  rw [HEQ.out, testsR_on hx0 h44]
                  simp only [Option.map_map]
                  congr 2; funext l; simp
                go_wp2_with (first | (go_at_call 40; refine cX.mono ?_; rintro e W1 ⟨⟨x, rfl, hx⟩, hR1, hG1⟩; have hxy := hx _ rfl; clear hx; subst hxy; have HR1 := Lib.hid hR1; have HG1 := Lib.hid hG1; have k1 := HI.out.kp.call hR1 hG1; have aa := cell_old (cell_at (i := 3) k1.r5 rfl); have HO1 := Lib.hid (((own_ktG HI.out.own HI.out.kp.rk hG1).alloc (boxT x)).alloc (boxT x)); have HZ := Lib.hid (Nat.le_trans (HI.out.kp.gw.trans hG1).size (Nat.le_of_lt (by simp; omega) : W1.heap.size ≤ ((W1.alloc (boxT x)).alloc (boxT x)).heap.size)); have hnw : Hid (∀ j u, x.cells[j]? = some u → ((W1.alloc (boxT x)).alloc (boxT x)).cell? ((⟨W1.heap.size + 1, 0, none⟩ : Addr).add j) = some u) := (by have := new_at (W1.alloc (boxT x)) x.cells 33; rw [World.size_alloc] at this; exact this); clear hR1 hG1 k1) | (at_builtin; refine wpList_append_own _ rfl (.tmp 64) (.tmp 66) 27 rfl w.heap.size 33 i0 _ 5 56 Tryz.underlying27 hi0 hz0 hz1 hz2 rfl (by decide) (.slice av acc.length cv) acc.length (cellsT acc) rfl HO1.out ⟨W1.heap.size + 1, 0, none⟩ 1 1 x.cells rfl rfl hnw.out (by simp [Tst.cells, Value.oneCell']) HM.out.1 HM.out.2 HZ.out ?_; intro v1 W2 hown1 hgrow1 _; obtain ⟨a1, d1, ev⟩ := own_slice hown1; subst ev; obtain ⟨k2, k3, k4⟩ := klI_app HI.out HR1.out HG1.out hown1 hgrow1; have t3 : W2.cell? ⟨w.heap.size + 1, 3, none⟩ = some (.slice av acc.length cv) := cell_at k2.r5 rfl; have tf3 : W2.frozen? ⟨w.heap.size + 1, 3, none⟩ = false := frz_at k2.r5; have HK := Lib.hid (And.intro k3 k4); have cI := is_any k3.rk 44 hs'; clear k2 k3 k4 hown1 hgrow1; refine Hid.out ?_))
                refine Lib.hid ?_

                rw [show ((!((pTest q1).1, false).2) && seesB ((pTest q1).1, false).1 44) = true from h44] at cI
                obtain ⟨k, hk, hr, hbb⟩ := HK.out.1.rk
                simp only at hr hbb
                obtain ⟨hk1, hr1⟩ := rd_next hr h44
                have HBB := Lib.hid hbb
                have HRR := Lib.hid hr1
                have b1 : (W2.setCell ⟨w.heap.size + 1, 3, none⟩ (.slice a1 (acc.length + 1) d1)).cell? ⟨b, 1, none⟩ = some (.int .i64 (k : Int)) := cell_at hbb rfl
                have bf : (W2.setCell ⟨w.heap.size + 1, 3, none⟩ (.slice a1 (acc.length + 1) d1)).frozen? ⟨b, 1, none⟩ = false := frz_at hbb
                clear hr hbb hr1 h44
                go_wp2_with (first | (go_at_call 38; refine cI.mono ?_; rintro e W3 ⟨rfl, nq, rfl⟩))
                have hR5 : Rk b s ((pTest q1).1.tail, false) (((W2.setCell ⟨w.heap.size + 1, 3, none⟩ (.slice a1 (acc.length + 1) d1)).drewN nq).setCell ⟨b, 1, none⟩ (.int .i64 ((k : Int) + 1))) := ⟨k + 1, by omega, HRR.out, rk_put (w := (W2.setCell ⟨w.heap.size + 1, 3, none⟩ (.slice a1 (acc.length + 1) d1)).drewN nq) HBB.out _⟩
                have hG5 : Gw b ((W2.setCell ⟨w.heap.size + 1, 3, none⟩ (.slice a1 (acc.length + 1) d1)).drewN nq) (((W2.setCell ⟨w.heap.size + 1, 3, none⟩ (.slice a1 (acc.length + 1) d1)).drewN nq).setCell ⟨b, 1, none⟩ (.int .i64 ((k : Int) + 1))) := (Gw.refl _ _).set _ _
                go_roundw
                case rel =>
                  refine ⟨true, _, _, _, rfl, (HK.out.1.drewN nq).call hR5 hG5, own_ktD HK.out.2 (HK.out.1.drewN nq).rk hG5, fun _ => ⟨rfl, HT.out, ?_⟩, fun h => (by cases h)⟩
                  have := HLN.out; have := HLE.out; have := HLT.out
                  have := List.length_tail (l := (pTest q1).1)
                  simp only [List.length_append, List.length_cons, List.length_nil]
                  omega
                case measure =>
                  have e1 := HA.out
                  have e2 := hR5.atOf
                  have := HLE.out; have := HLT.out
                  have := List.length_tail (l := (pTest q1).1)
                  simp only [mK] at e1 e2 ⊢
                  omega
              · have h44 : seesB (pTest q1).1 44 = false := by simpa using h44
                by_cases h93 : seesB (pTest q1).1 93 = true
                · have HT : Hid (testsR q.tail = ((pTest q1).1.tail, some (acc ++ [y]))) := by
                    show _ = _
                    rw [HEQ.out, testsR_shut hx0 h44 h93]; rfl
                  go_wp2_with (first | (go_at_call 40; refine cX.mono ?_; rintro e W1 ⟨⟨x, rfl, hx⟩, hR1, hG1⟩; have hxy := hx _ rfl; clear hx; subst hxy; have HR1 := Lib.hid hR1; have HG1 := Lib.hid hG1; have k1 := HI.out.kp.call hR1 hG1; have aa := cell_old (cell_at (i := 3) k1.r5 rfl); have HO1 := Lib.hid (((own_ktG HI.out.own HI.out.kp.rk hG1).alloc (boxT x)).alloc (boxT x)); have HZ := Lib.hid (Nat.le_trans (HI.out.kp.gw.trans hG1).size (Nat.le_of_lt (by simp; omega) : W1.heap.size ≤ ((W1.alloc (boxT x)).alloc (boxT x)).heap.size)); have hnw : Hid (∀ j u, x.cells[j]? = some u → ((W1.alloc (boxT x)).alloc (boxT x)).cell? ((⟨W1.heap.size + 1, 0, none⟩ : Addr).add j) = some u) := (by have := new_at (W1.alloc (boxT x)) x.cells 33; rw [World.size_alloc] at this; exact this); clear hR1 hG1 k1) | (at_builtin; refine wpList_append_own _ rfl (.tmp 64) (.tmp 66) 27 rfl w.heap.size 33 i0 _ 5 56 Tryz.underlying27 hi0 hz0 hz1 hz2 rfl (by decide) (.slice av acc.length cv) acc.length (cellsT acc) rfl HO1.out ⟨W1.heap.size + 1, 0, none⟩ 1 1 x.cells rfl rfl hnw.out (by simp [Tst.cells, Value.oneCell']) HM.out.1 HM.out.2 HZ.out ?_; intro v1 W2 hown1 hgrow1 _; obtain ⟨a1, d1, ev⟩ := own_slice hown1; subst ev; obtain ⟨k2, k3, k4⟩ := klI_app HI.out HR1.out HG1.out hown1 hgrow1; have t3 : W2.cell? ⟨w.heap.size + 1, 3, none⟩ = some (.slice av acc.length cv) := cell_at k2.r5 rfl; have tf3 : W2.frozen? ⟨w.heap.size + 1, 3, none⟩ = false := frz_at k2.r5; have HK := Lib.hid (And.intro k3 k4); have cI := is_any k3.rk 44 hs'; clear k2 k3 k4 hown1 hgrow1; refine Hid.out ?_))
                  refine Lib.hid ?_

                  rw [show ((!((pTest q1).1, false).2) && seesB ((pTest q1).1, false).1 44) = false from h44] at cI
                  have cN := fun n => need_any (HK.out.1.drewN n).rk 93 hs'
                  rw [ndS_93 h93] at cN
                  clear h44 h93
                  go_wp2_with (first | (go_at_call 38; refine cI.mono ?_; rintro e W3 ⟨rfl, nq, rfl⟩) | (go_at_call 37; refine (cN _).mono ?_; rintro e W4 ⟨rfl, hR4, hG4⟩))
                  go_roundw
                  case rel =>
                    refine ⟨false, _, _, _, rfl, (HK.out.1.drewN nq).call hR4 hG4, own_ktD HK.out.2 (HK.out.1.drewN nq).rk hG4, fun h => (by cases h), fun _ => ⟨?_, fun ts h => ?_⟩⟩
                    · rw [HT.out]; rfl
                    · rw [HT.out] at h; injection h with h; exact h.symm
                  case measure => simp [mK]
                · have h93 : seesB (pTest q1).1 93 = false := by simpa using h93
                  have HT : Hid (testsR q.tail = ((pTest q1).1, none)) := by
                    show _ = _
                    rw [HEQ.out, testsR_bad hx0 h44 h93]; rfl
                  go_wp2_with (first | (go_at_call 40; refine cX.mono ?_; rintro e W1 ⟨⟨x, rfl, hx⟩, hR1, hG1⟩; have hxy := hx _ rfl; clear hx; subst hxy; have HR1 := Lib.hid hR1; have HG1 := Lib.hid hG1; have k1 := HI.out.kp.call hR1 hG1; have aa := cell_old (cell_at (i := 3) k1.r5 rfl); have HO1 := Lib.hid (((own_ktG HI.out.own HI.out.kp.rk hG1).alloc (boxT x)).alloc (boxT x)); have HZ := Lib.hid (Nat.le_trans (HI.out.kp.gw.trans hG1).size (Nat.le_of_lt (by simp; omega) : W1.heap.size ≤ ((W1.alloc (boxT x)).alloc (boxT x)).heap.size)); have hnw : Hid (∀ j u, x.cells[j]? = some u → ((W1.alloc (boxT x)).alloc (boxT x)).cell? ((⟨W1.heap.size + 1, 0, none⟩ : Addr).add j) = some u) := (by have := new_at (W1.alloc (boxT x)) x.cells 33; rw [World.size_alloc] at this; exact this); clear hR1 hG1 k1) | (at_builtin; refine wpList_append_own _ rfl (.tmp 64) (.tmp 66) 27 rfl w.heap.size 33 i0 _ 5 56 Tryz.underlying27 hi0 hz0 hz1 hz2 rfl (by decide) (.slice av acc.length cv) acc.length (cellsT acc) rfl HO1.out ⟨W1.heap.size + 1, 0, none⟩ 1 1 x.cells rfl rfl hnw.out (by simp [Tst.cells, Value.oneCell']) HM.out.1 HM.out.2 HZ.out ?_; intro v1 W2 hown1 hgrow1 _; obtain ⟨a1, d1, ev⟩ := own_slice hown1; subst ev; obtain ⟨k2, k3, k4⟩ := klI_app HI.out HR1.out HG1.out hown1 hgrow1; have t3 : W2.cell? ⟨w.heap.size + 1, 3, none⟩ = some (.slice av acc.length cv) := cell_at k2.r5 rfl; have tf3 : W2.frozen? ⟨w.heap.size + 1, 3, none⟩ = false := frz_at k2.r5; have HK := Lib.hid (And.intro k3 k4); have cI := is_any k3.rk 44 hs'; clear k2 k3 k4 hown1 hgrow1; refine Hid.out ?_))
                  refine Lib.hid ?_

                  rw [show ((!((pTest q1).1, false).2) && seesB ((pTest q1).1, false).1 44) = false from h44] at cI
                  have cN := fun n => need_any (HK.out.1.drewN n).rk 93 hs'
                  rw [ndS_93n h93] at cN
                  clear h44 h93
                  go_wp2_with (first | (go_at_call 38; refine cI.mono ?_; rintro e W3 ⟨rfl, nq, rfl⟩) | (go_at_call 37; refine (cN _).mono ?_; rintro e W4 ⟨rfl, hR4, hG4⟩))
                  go_roundw
                  case rel =>
                    refine ⟨false, _, _, _, rfl, (HK.out.1.drewN nq).call hR4 hG4, own_ktD HK.out.2 (HK.out.1.drewN nq).rk hG4, fun h => (by cases h), fun _ => ⟨?_, fun ts h => ?_⟩⟩
                    · rw [HT.out]; rfl
                    · rw [HT.out] at h; cases h
                  case measure => simp [mK]
      · have h91 : seesB q 91 = false := by simpa using h91
        have hpt : pTests q = (q, some []) := by unfold pTests; rw [if_neg (by rw [h91]; simp)]
        rw [hpt]
        simp only [Option.map_some, Option.isNone_some]
        clear hpt
        have H91 := Lib.hid h91
        clear h91
        go_enter Tryz.func22, Tryz.ntmps22
        go_wp2_with (go_at_call 37; refine (need_any HP.out.rk 32 hs').mono ?_; rintro e U1 ⟨rfl, hR, hG⟩; refine Hid.out ?_)
        refine Lib.hid ?_
        have B1 := Lib.hid (HP.out.call hR hG)
        clear hR hG
        have cI := is_any B1.out.rk 60 hs'
        rw [HDir.out] at cI
        obtain ⟨a0, a1, a2, a3, f0, f1, f2, f3⟩ := own4 B1.out.r5
        go_wp2_with (go_at_call 38; refine cI.mono ?_; rintro e W3 ⟨rfl, nq, rfl⟩)
        have B2 := Lib.hid ((B1.out.drewN nq).set1 false)
        go_wp2_with (go_at_call 37; refine (need_any B2.out.rk 45 hs').mono ?_; rintro e U3 ⟨rfl, hR, hG⟩; refine Hid.out ?_)
        refine Lib.hid ?_
        have B4 := Lib.hid (B2.out.call hR hG)
        clear hR hG
        clear a0 a1 a2 a3 f0 f1 f2 f3 cI
        have cM := kname_any B4.out.rk hs'
        rw [HV.out] at cM
        go_wp2_with (go_at_call 39; refine cM.mono ?_; rintro e U4 ⟨rfl, hR, hG⟩; refine Hid.out ?_)
        refine Lib.hid ?_
        have B5 := Lib.hid (B4.out.call hR hG)
        obtain ⟨a0, a1, a2, a3, f0, f1, f2, f3⟩ := own4 B5.out.r5
        have B6 := Lib.hid (B5.out.set0 n)
        clear hR hG cM
        go_wp2_with (go_at_call 37; refine (need_any B6.out.rk 45 hs').mono ?_; rintro e U5 ⟨rfl, hR, hG⟩; refine Hid.out ?_)
        refine Lib.hid ?_
        have B7 := Lib.hid (B6.out.call hR hG)
        clear hR hG
        clear a0 a1 a2 a3 f0 f1 f2 f3
        obtain ⟨a0, a1, a2, a3, f0, f1, f2, f3⟩ := own4 B7.out.r5
        go_wp2_with (go_at_call 37; refine (need_any B7.out.rk 62 hs').mono ?_; rintro e U6 ⟨rfl, hR, hG⟩; refine Hid.out ?_)
        refine Lib.hid ?_
        have B8 := Lib.hid (B7.out.call hR hG)
        clear hR hG
        go_wp2_with (go_at_call 37; refine (need_any B8.out.rk 32 hs').mono ?_; rintro e U7 ⟨rfl, hR, hG⟩; refine Hid.out ?_)
        refine Lib.hid ?_
        have B9 := Lib.hid (B8.out.call hR hG)
        clear hR hG
        clear a0 a1 a2 a3 f0 f1 f2 f3
        have HN : Hid (KsP b s (r1, false) (w.heap.size + 1) w.heap.size w n false [] (.slice none 0 0) U7) := by
          have := B9.out
          rw [HY.out] at this
          exact this
        clear B1 B2 B4 B5 B6 B7 B9 HP
        have cN := kname_any HN.out.rk hs'
        rw [HQ.out.1, HQ.out.2] at cN
        have h91 := H91.out
        go_wp2_with (go_at_call 39; refine cN.mono ?_; rintro e V1 ⟨rfl, hR, hG⟩; refine Hid.out ?_)
        refine Lib.hid ?_
        have H1 := Lib.hid (HN.out.call hR hG)
        obtain ⟨a0, a1, a2, a3, f0, f1, f2, f3⟩ := own4 H1.out.r5
        obtain ⟨e0, e1, e2, e3, p0, p1, p2, p3⟩ := own4 H1.out.r0
        have H2 := Lib.hid (H1.out.set2 kd)
        have cI := is_any H2.out.rk 91 hs'
        clear hR hG
        rw [show ((!(q, false).2) && seesB (q, false).1 91) = false from h91] at cI
        go_wp2_with (go_at_call 38; refine cI.mono ?_; rintro e W3 ⟨rfl, nq, rfl⟩)
        obtain ⟨Q1, Q2⟩ := (H2.out.drewN nq).done (.string (bs n)) (.bool false) (.string (bs kd)) (.slice none 0 0)
        refine bodyPost_ret (v := .agg #[.string (bs n), .bool false, .string (bs kd), .slice none 0 0]) (res4k rfl (four_blk (H2.out.drewN nq).r0 _ _ _ _)) rfl ⟨⟨⟨⟨n, false, kd, []⟩, .slice none 0 0⟩, ⟨_, _, _, rfl⟩, rfl, fun p hp => ?_⟩, Q1, Q2⟩
        injection hp with hp
        subst hp
        exact ⟨rfl, World.ownsRow_nil _ _ _ _⟩
end Go.Proofs.YtmgkdghkenpmbaaGreatDoor
