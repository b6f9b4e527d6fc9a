/-
  The walk of the law IndexHolds: where there is an index, twenty or fewer ops, and such kind.
-/
import Derived.Test.YtjnjbajnmclmjaaGreatDoorM45
namespace Go.Proofs.YtjnjbajnmclmjaaGreatDoor
open Go.RowKit
set_option linter.unusedVariables false
set_option linter.unusedSimpArgs false

set_option maxHeartbeats 32000000 in
set_option maxRecDepth 100000 in
theorem holds_le_some {vs vg vl : Value} {L : List Kd} {B : List Bd} {N : List Nd} {T : List Te} {O : List Opx} {w : World} (hs : IsSc w vs L B) (hg : IsG w vg N T) (hl : IsO w vl O) (zl : ∀ o ∈ O, OpSz o) (lO : O.length ≤ maxLen) {nm fd : Nm} (hnm : nm.length ≤ maxLen) (hfd : fd.length ≤ maxLen) (hH : Hnd w) (hcf : cfE L B N T = 0) (hO : O.length ≤ 20) {pp : Hp} (hq : hpO L L (bs nm) = some pp) :
    Calls Tryz.prog 3 #[vs, vg, vl, .string (bs nm), .string (bs fd)] w fun e w' => e = .returned (.bool true) ∧ Below w.heap.size w w' := by
  have HP : Hid (IsSc w vs L B ∧ IsG w vg N T ∧ IsO w vl O) := ⟨hs, hg, hl⟩
  have HZ : Hid (SzK L ∧ SzB B) := by
    obtain ⟨vk, vb, _, _, _, hz, _, hzb⟩ := hs
    exact ⟨hz, hzb⟩
  obtain ⟨a1, n1, c1, b1, m1, d1, rfl⟩ := isSc_slH hs
  obtain ⟨a2, n2, c2, b2, m2, d2, rfl⟩ := isG_slH hg
  obtain ⟨ao, co, hvl, _⟩ := id hl
  subst hvl
  obtain ⟨W0, hW0⟩ : ∃ W0, W0 = box2 w #[.slice a1 n1 c1, .slice b1 m1 d1] 25 #[.slice a2 n2 c2, .slice b2 m2 d2] 29 := ⟨_, rfl⟩
  have HB0 : Hid (Below w.heap.size w W0) := by rw [hW0]; exact box2_below _ _ _ _ _
  have x0 : W0.cell? ⟨w.heap.size, 0, none⟩ = some (.slice a1 n1 c1) := by rw [hW0]; exact box2_a _ _ _ _ _ rfl
  have x1 : W0.cell? ⟨w.heap.size, 1, none⟩ = some (.slice b1 m1 d1) := by rw [hW0]; exact box2_a _ _ _ _ _ rfl
  have x2 : W0.cell? ⟨w.heap.size + 1, 0, none⟩ = some (.slice a2 n2 c2) := by rw [hW0]; exact box2_b _ _ _ _ _ rfl
  have x3 : W0.cell? ⟨w.heap.size + 1, 1, none⟩ = some (.slice b2 m2 d2) := by rw [hW0]; exact box2_b _ _ _ _ _ rfl
  have hs0 : W0.heap.size = w.heap.size + 2 := by rw [hW0]; exact box2_size _ _ _ _ _
  have HC : Hid (∀ W, Below W0.heap.size W0 W → Below w.heap.size w W ∧ (W.cell? ⟨w.heap.size, 0, none⟩ = some (.slice a1 n1 c1) ∧ W.cell? ⟨w.heap.size, 1, none⟩ = some (.slice b1 m1 d1)) ∧ W.cell? ⟨w.heap.size + 1, 0, none⟩ = some (.slice a2 n2 c2) ∧ W.cell? ⟨w.heap.size + 1, 1, none⟩ = some (.slice b2 m2 d2)) := fun W hB =>
    ⟨on1K HB0.out hB (Nat.le_refl _), ⟨(hB.cell (p := ⟨w.heap.size, 0, none⟩) (by show w.heap.size < _; omega)).trans x0, (hB.cell (p := ⟨w.heap.size, 1, none⟩) (by show w.heap.size < _; omega)).trans x1⟩, (hB.cell (p := ⟨w.heap.size + 1, 0, none⟩) (by show w.heap.size + 1 < _; omega)).trans x2, (hB.cell (p := ⟨w.heap.size + 1, 1, none⟩) (by show w.heap.size + 1 < _; omega)).trans x3⟩
  obtain ⟨W8, hW8⟩ : ∃ W8, W8 = fcW W0 := ⟨_, rfl⟩
  have hF : Fct W8 W0.heap.size := by rw [hW8]; exact fcW_fct W0
  have hB8 : Below W0.heap.size W0 W8 := by rw [hW8]; exact fcW_below W0
  rw [hs0] at hF
  have e0 : W8.cell? ⟨w.heap.size + 1 + 1 + 1 + 1, 0, none⟩ = some (.slice (some ⟨w.heap.size + 1 + 1 + 1, 0, none⟩) 1 1) := cell_at hF.s rfl
  have e1 : W8.cell? ⟨w.heap.size + 1 + 1 + 1 + 1, 1, none⟩ = some (.slice none 0 0) := cell_at hF.s rfl
  have e2 : W8.cell? ⟨w.heap.size + 1 + 1 + 1 + 1 + 1 + 1 + 1, 0, none⟩ = some (.slice (some ⟨w.heap.size + 1 + 1 + 1 + 1 + 1 + 1, 0, none⟩) 1 1) := cell_at hF.g rfl
  have e3 : W8.cell? ⟨w.heap.size + 1 + 1 + 1 + 1 + 1 + 1 + 1, 1, none⟩ = some (.slice none 0 0) := cell_at hF.g rfl
  have cN1 := new_yes hF.sc hF.isg (cf_7 _ _ _)
  have HK7 : Hid (∀ (W : World) (base b : Nat) (vo vf rv : Value), Ix W base b [kdA vo vf] [] (cN [nd7 rv]) [] → Calls Tryz.prog 6 #[.pointer (some ⟨b, 0, none⟩), .string ⟨#[97]⟩, .string ⟨#[107]⟩, .agg #[.int .i64 1, .int .i64 5, .string ⟨#[]⟩]] W fun e w' => e = .returned (.tuple #[.int .i64 7, .nilIface]) ∧ Below W.heap.size W w') := fun W base b vo vf rv h => by
    have c := ix_key h (hpO_ok (sErr_good.1 (sErr_one vo vf)).1 (fun k hk => by
      obtain rfl := List.mem_singleton.1 hk
      refine ⟨by show (1 : Nat) ≤ maxLen; decide, fun f hf => ?_⟩
      obtain rfl := List.mem_singleton.1 hf
      show (1 : Nat) ≤ maxLen
      decide)) (nm := ⟨#[97]⟩) (st := ⟨#[]⟩) (fd := [107]) (t := 1) (n := 5) (by decide) (by decide) (by decide) (in64_of (by omega) (by omega)) (in64_of (by omega) (by omega))
    rw [keyA_7] at c
    exact c
  have H8 := Lib.hid hB8
  clear hs hg hl hF hB8
  have HN2 : Hid (∀ W, Below w.heap.size w W → Calls Tryz.prog 5 #[.agg #[.slice a1 n1 c1, .slice b1 m1 d1], .agg #[.slice a2 n2 c2, .slice b2 m2 d2]] W fun e w' => ∃ b, e = .returned (.tuple #[.pointer (some ⟨b, 0, none⟩), .nilIface]) ∧ HoI W W.heap.size b L B w') := fun W hB => (new_yes (HP.out.1.on hB) (HP.out.2.1.on hB) hcf).mono fun e w' h => by
    obtain ⟨b, rfl, hx, hB'⟩ := h
    exact ⟨b, rfl, _, _, hx, by rw [cfE_c]; exact hcf, hB', Nat.le_refl _⟩
  clear hcf
  go_enter Tryz.func3, Tryz.ntmps3
  go_upto_region 1 with fail
  unfold box2 at hW0
  rw [← hW0]
  clear hW0
  unfold fcW at hW8
  rw [hs0] at hW8
  go_upto_region 3 with fail
  rw [← hW8]
  clear hW8
  go_wp2_with (first | (go_at_call 5; refine cN1.mono ?_; rintro e W9 ⟨b7, rfl, hx9, hB9⟩; refine Hid.out ?_))
  refine Lib.hid ?_
  have cK := HK7.out W9 _ b7 _ _ _ hx9
  have H9 : Hid (Below W0.heap.size W0 W9) := on1K H8.out hB9 (Nat.le_refl _)
  clear hx9 hB9 cN1 e0 e1 e2 e3 x0 x1 x2 x3
  go_wp2_with (first | (go_at_call 6; refine cK.mono ?_; rintro e W10 ⟨rfl, hB10⟩; refine Hid.out ?_))
  refine Lib.hid ?_
  have hB010 := on1K H9.out hB10 (Nat.le_refl _)
  obtain ⟨hbw, ⟨y0, y1⟩, y2, y3⟩ := HC.out W10 hB010
  have cN2 := HN2.out W10 hbw
  have H10 := Lib.hid (And.intro hbw (And.intro H9.out hB10))
  clear hB010 hbw cK hB10
  go_wp2_with (first | (go_at_call 5; refine cN2.mono ?_; rintro e W11 ⟨b, rfl, hI⟩; refine Hid.out ?_))
  refine Lib.hid ?_
  have HI11 := Lib.hid hI
  clear hI cN2 y0 y1 y2 y3
  have hlO : O.length ≤ 9223372036854775807 := by unfold maxLen at lO; omega
  go_wp2
  go_loopw [19] (fun i wr => ∃ k : Nat, k ≤ O.length ∧ k ≤ 20 ∧ i = .int .i64 k ∧ HoI W10 W10.heap.size b L B wr) (fun i _ => O.length - (intOf i).toNat)
  case atStart => exact ⟨0, Nat.zero_le _, Nat.zero_le _, rfl, HI11.out⟩
  case round =>
    obtain ⟨k, hk, hk20, rfl, hI⟩ := hrel
    obtain ⟨N1, T1, hx, hcf1, hB1, hbs⟩ := hI
    have hbw : Below w.heap.size w wr := on1K H10.out.1 hB1 (Nat.le_refl _)
    have hbsz : W10.heap.size ≤ wr.heap.size := hB1.size
    by_cases hlt : k < O.length ∧ k < 20
    · obtain ⟨hlt1, hlt2⟩ := hlt
      obtain ⟨o, ho⟩ : ∃ o, O[k]? = some o := ⟨O[k], by simp [hlt1]⟩
      have hom := List.mem_of_getElem? ho
      obtain ⟨ao1, co1, hv, hco, hLl⟩ := HP.out.2.2
      injection hv with hv1 hv2 hv3
      subst hv1 hv3
      clear hv2
      rcases hLl with h0 | ⟨bo, off, hao, hbo, hLO⟩
      · rw [h0] at hlt1; exact absurd hlt1 (by simp)
      subst hao
      obtain ⟨hc, hR⟩ := hLO k o ho
      have d : ∀ i u, o.cells[i]? = some u → wr.cell? ⟨bo, off + k * 11 + i, none⟩ = some u := fun i u hu => (hbw.cell hbo).trans (hc i u hu)
      have f0 := d 0 _ rfl
      have f1 := d 1 _ rfl
      have f2 := d 2 _ rfl
      have f3 := d 3 _ rfl
      have f4 := d 4 _ rfl
      have f5 := d 5 _ rfl
      have f6 := d 6 _ rfl
      have f7 := d 7 _ rfl
      have f8 := d 8 _ rfl
      have f9 := d 9 _ rfl
      have f10 := d 10 _ rfl
      simp only [Nat.add_zero] at f0
      have cD := ido_any hx (Nat.le_trans hbs hbsz) hcf1 HZ.out.1 HZ.out.2 (hR.on hbw) (zl o hom)
      have HF : Hid (∀ W N' T', Ix W W10.heap.size b L B N' T' → cfE L B N' T' = 0 → Below W10.heap.size wr W → HoI W10 W10.heap.size b L B W) := fun W N' T' h1 h2 h3 => ⟨N', T', h1, h2, hB1.trans h3, Nat.le_refl _⟩
      obtain ⟨av, lv, cv, hv⟩ := hR.sl
      clear d hc hLO hx hcf1 hB1 hbs hbw hR ho hom hk
      obtain ⟨wh, ⟨id, kd, rv, rc⟩, ⟨pn, pt, px, ps⟩, ⟨bd, fr, tt⟩⟩ := o
      simp only at hv f0 f1 f2 f3 f4 f5 f6 f7 f8 f9 f10
      subst hv
      go_wp2_with (first | (go_at_call 7; refine cD.mono ?_; rintro e W' ⟨v, N', T', rfl, hx', hcf', hB'⟩))
      go_roundw
      case rel => exact ⟨k + 1, by omega, by omega, by go_num, HF.out W' N' T' hx' hcf' hB'⟩
      case measure => simp [intOf]; omega
    · obtain ⟨Wg, hWg⟩ : ∃ W, W = wr := ⟨wr, rfl⟩
      subst hWg
      obtain ⟨hs0', hg0, hcb⟩ := cfE_zero hcf1
      obtain ⟨hk0, hGB, hb12⟩ := sErr_good.1 hs0'
      have hHp := hpO_ok hk0 HZ.out.1
      have cG := ix_graph hx hg0
      have HV : Hid (∀ W, Below Wg.heap.size Wg W → Below w.heap.size w W ∧ W.cell? ⟨w.heap.size, 0, none⟩ = some (.slice a1 n1 c1) ∧ W.cell? ⟨w.heap.size, 1, none⟩ = some (.slice b1 m1 d1) ∧ Ix W W10.heap.size b L B N1 T1 ∧ Hnd W) := fun W hB => by
        have h1 : Below W0.heap.size W0 W := on1K (on1K (on1K H10.out.2.1 H10.out.2.2 (Nat.le_refl _)) hB1 (Nat.le_refl _)) hB (Nat.le_refl _)
        obtain ⟨g1, ⟨g2, g3⟩, _, _⟩ := HC.out W h1
        exact ⟨g1, g2, g3, hx.on hB, hH.onH g1⟩
      have HCf : Hid (∀ W un ut M, Below Wg.heap.size Wg W → IsN W un M → IsT W ut T1 → cN M = N1 → Calls Tryz.prog 9 #[.agg #[.slice a1 n1 c1, .slice b1 m1 d1], .agg #[un, ut]] W fun e w' => e = .returned (.tuple #[.bool true, .nilIface]) ∧ Below W.heap.size W w') := fun W un ut M hB q1 q2 q3 => by
        have hgM : gErr M T1 = 0 := by rw [← gErr_c, q3]; exact hg0
        obtain ⟨z1, z2⟩ := gErr_sz hgM
        obtain ⟨l1, l2, _⟩ := gErr_lens hgM
        have c := conforms_any (HP.out.1.on (HV.out W hB).1) (N := M) (T := T1) (vg := .agg #[un, ut]) ⟨_, _, rfl, q1, q2, z1, z2, by unfold maxLen; omega, by unfold maxLen; omega⟩
        have hcM : cfE L B M T1 = 0 := by rw [← cfE_c, q3]; exact hcf1
        have hiM : inE L B M T1 = 0 := by unfold inE; rw [if_pos hs0']; exact hgM
        rw [(cfE_zero hcM).2.2, hiM, errV_0] at c
        exact c
      have hq1 : ¬ k < O.length := by omega
      obtain ⟨ids, hids⟩ : ∃ ids, ids = rowK (tabK (hpO L L) N1) nm := ⟨_, rfl⟩
      have hidl : ids.length ≤ 60000 := by
        have := tabK_len hHp N1 (fun _ => none, fun _ => none) 0 (fun _ => Nat.le_refl _) (bs nm)
        have h60 := (gErr_lens hg0).1
        rw [hids]
        unfold rowK tabK
        omega
      have HKy : Hid (∀ W, Below Wg.heap.size Wg W → Calls Tryz.prog 10 #[.pointer (some ⟨b, 0, none⟩), .string (bs nm)] W fun e w' => ∃ a c, e = .returned (.tuple #[.slice a ids.length c, .nilIface]) ∧ w'.ownsRow W.heap.size 3 1 (.slice a ids.length c) ids.length (cellsI ids) ∧ Below W.heap.size W w') := fun W hB => by rw [hids]; exact ix_kind_yes (HV.out W hB).2.2.2.1 hcf1 HZ.out.1 hnm hq
      have HCn : Hid (∀ W un ut M, Below Wg.heap.size Wg W → IsN W un M → IsT W ut T1 → cN M = N1 → Calls Tryz.prog 12 #[.agg #[.slice a1 n1 c1, .slice b1 m1 d1], .agg #[un, ut], .string (bs nm)] W fun e w' => e = .returned (.tuple #[.int .i64 (ids.length : Int), .nilIface]) ∧ Below W.heap.size W w') := fun W un ut M hB q1 q2 q3 => by
        have hgM : gErr M T1 = 0 := by rw [← gErr_c, q3]; exact hg0
        obtain ⟨z1, z2⟩ := gErr_sz hgM
        obtain ⟨l1, l2, _⟩ := gErr_lens hgM
        have hcM : cfE L B M T1 = 0 := by rw [← cfE_c, q3]; exact hcf1
        have c := count_any (HP.out.1.on (HV.out W hB).1) (N := M) (T := T1) (vg := .agg #[un, ut]) ⟨_, _, rfl, q1, q2, z1, z2, by unfold maxLen; omega, by unfold maxLen; omega⟩ hs0' hgM hnm (by rw [sh_some, hq]; rfl)
        rw [(row_cnt hcM nm).2, ← tabK_c, q3, ← hids] at c
        exact c
      have HNd : Hid (∀ W un ut M id, IsN W un M → IsT W ut T1 → cN M = N1 → id ∈ ids → Calls Tryz.prog 13 #[.agg #[un, ut], .int .i64 id] W fun e w' => ∃ kd a l c rc, e = .returned (.tuple #[.agg #[.int .i64 id, .string (bs kd), .slice a l c], .nilIface]) ∧ (OwnRc w' 0 (.slice a l c) rc ∧ RdOk L N1 nm fd id kd rc) ∧ Below W.heap.size W w') := fun W un ut M id q1 q2 q3 q4 => inode_any hcf1 q3 fd (by rw [← hids]; exact q4) q1 q2
      have HIs : Hid (∀ W kd, Below Wg.heap.size Wg W → isErr L kd nm = 0 → isKin L kd nm = true → Calls Tryz.prog 14 #[.slice a1 n1 c1, .string (bs kd), .string (bs nm)] W fun e w' => e = .returned (.tuple #[.bool true, .nilIface]) ∧ Below W.heap.size W w') := fun W kd hB q1 q2 => by
        obtain ⟨vk, vb, e, hK, hPt, hz, _, _⟩ := HP.out.1
        injection e with e
        obtain ⟨rfl, rfl⟩ : Value.slice a1 n1 c1 = vk ∧ Value.slice b1 m1 d1 = vb := by simpa using e
        have hw := (HV.out W hB).1
        have c := kis_any (hK.on hw) (hPt.on hw) hz kd nm
        rw [q1, q2, errV_0] at c
        exact c
      have HKe : Hid (∀ W t x s, Below Wg.heap.size Wg W → in64 t → in64 x → s.size ≤ maxLen → Calls Tryz.prog 6 #[.pointer (some ⟨b, 0, none⟩), .string (bs nm), .string (bs fd), .agg #[.int .i64 t, .int .i64 x, .string s]] W fun e w' => e = .returned (.tuple #[.int .i64 (keyA (hpO L L) (tabK (hpO L L) N1).2 (bs nm) fd t x s).1, errV (keyA (hpO L L) (tabK (hpO L L) N1).2 (bs nm) fd t x s).2]) ∧ Below W.heap.size W w') := fun W t x s hB q1 q2 q3 => ix_key (HV.out W hB).2.2.2.1 hHp (by rw [bs_size]; exact hnm) (by rw [bs_size]; exact hfd) q3 q1 q2
      clear hx hcf1 hB1 hbs hbw hbsz hs0' hg0 hcb hk0 hGB hb12 hHp hlt hk hk20 hq hids
      go_wp2_with (first | (go_at_call 8; refine cG.mono ?_; rintro e W12 ⟨p1, p2, p3, p4, p5, p6, M, rfl, hM, hB12⟩; refine Hid.out ?_))
      refine Lib.hid ?_
      obtain ⟨W13, hW13⟩ : ∃ W13, W13 = W12.alloc (.cells #[.slice p1 p2 p3, .slice p4 p5 p6] 29) := ⟨_, rfl⟩
      have hB13 : Below W12.heap.size W12 W13 := by rw [hW13]; exact b_alloc (Below.refl _ _) _
      have n13 : W13.heap[W12.heap.size]? = some (.cells #[.slice p1 p2 p3, .slice p4 p5 p6] 29 (0, 0)) := by rw [hW13]; exact heap_alloc_new W12 _
      have hB013 := on1K hB12 hB13 (Nat.le_refl _)
      obtain ⟨_, y0, y1, _, _⟩ := HV.out W13 hB013
      have t0 : W13.cell? ⟨W12.heap.size, 0, none⟩ = some (.slice p1 p2 p3) := cell_at n13 rfl
      have t1 : W13.cell? ⟨W12.heap.size, 1, none⟩ = some (.slice p4 p5 p6) := cell_at n13 rfl
      have cC := HCf.out W13 _ _ M hB013 ((hM.2.1.kt (.of_below hB13) (.of_below hB13)).isN) ((hM.2.2.kt (.of_below hB13)).isT) hM.1
      have hne : ¬ w.heap.size = W12.heap.size := by have := hB12.size; have := (HV.out Wg (Below.refl _ _)).1.size; have := cell_lt (HV.out Wg (Below.refl _ _)).2.1; simp at this; omega
      have H13 := Lib.hid hB013
      have HG13 : Hid (OwnNs W13 Wg.heap.size (.slice p1 p2 p3) M ∧ OwnTs W13 Wg.heap.size (.slice p4 p5 p6) T1 ∧ cN M = N1 ∧ W13.heap[W12.heap.size]? = some (.cells #[.slice p1 p2 p3, .slice p4 p5 p6] 29 (0, 0))) := ⟨hM.2.1.kt (.of_below hB13) (.of_below hB13), hM.2.2.kt (.of_below hB13), hM.1, n13⟩
      clear hB12 hB13 hB013 hM cG n13
      go_upto_region 17 with fail
      rw [← hW13]
      clear hW13
      go_wp2_with (first | (go_at_call 9; refine cC.mono ?_; rintro e W14 ⟨rfl, hB14⟩; refine Hid.out ?_))
      refine Lib.hid ?_
      have hB014 := on1K H13.out hB14 (Nat.le_refl _)
      have cK := HKy.out W14 hB014
      have H14 := Lib.hid (And.intro hB014 hB14)
      clear hB14 hB014 cC y0 y1 t0 t1
      go_wp2_with (first | (go_at_call 10; refine cK.mono ?_; rintro e W15 ⟨ai, ci, rfl, hown, hB15⟩; refine Hid.out ?_))
      refine Lib.hid ?_
      have hB1315 := on1K H14.out.2 hB15 (Nat.le_refl _)
      have hB015 := on1K H13.out hB1315 (Nat.le_refl _)
      obtain ⟨g1, g2, g3, g4⟩ := HG13.out
      have n15 := (hB1315.block _ (Array.getElem?_eq_some_iff.1 g4).1).trans g4
      obtain ⟨_, y0, y1, _, _⟩ := HV.out W15 hB015
      have t0 : W15.cell? ⟨W12.heap.size, 0, none⟩ = some (.slice p1 p2 p3) := cell_at n15 rfl
      have t1 : W15.cell? ⟨W12.heap.size, 1, none⟩ = some (.slice p4 p5 p6) := cell_at n15 rfl
      have cCn := HCn.out W15 _ _ M hB015 ((g1.kt (.of_below hB1315) (.of_below hB1315)).isN) ((g2.kt (.of_below hB1315)).isT) g3
      have H15 := Lib.hid (And.intro hB015 (And.intro hown n15))
      have HG15 : Hid (OwnNs W15 Wg.heap.size (.slice p1 p2 p3) M ∧ OwnTs W15 Wg.heap.size (.slice p4 p5 p6) T1 ∧ cN M = N1) := ⟨g1.kt (.of_below hB1315) (.of_below hB1315), g2.kt (.of_below hB1315), g3⟩
      clear cK hB15 hB1315 hB015 g1 g2 g3 g4 n15 hown
      go_wp2_with (first | (go_at_call 12; refine cCn.mono ?_; rintro e W16 ⟨rfl, hB16⟩; refine Hid.out ?_))
      refine Lib.hid ?_
      have H16 := Lib.hid hB16
      clear hB16 cCn y0 y1 t0 t1
      go_wp2
      go_loopw [26] (fun i wr => ∃ j : Nat, j ≤ ids.length ∧ i = .int .i64 j ∧ Below W15.heap.size W15 wr) (fun i _ => ids.length - (intOf i).toNat)
      case atStart => exact ⟨0, Nat.zero_le _, rfl, H16.out⟩
      case round =>
        obtain ⟨j, hj, rfl, hBr⟩ := hrel
        have hBg := on1K H15.out.1 hBr (Nat.le_refl _)
        by_cases hjl : j < ids.length
        · obtain ⟨id, hid⟩ : ∃ id, ids[j]? = some id := ⟨ids[j], by simp [hjl]⟩
          have himem := List.mem_of_getElem? hid
          obtain ⟨ao2, co2, hv, hcase⟩ := own_hasC H15.out.2.1
          injection hv with hv1 hv2 hv3
          subst hv1 hv3
          clear hv2
          rcases hcase with ⟨h0, _⟩ | ⟨gb, off, hai, hgb, hcl⟩
          · omega
          subst hai
          have hid15 : W15.cell? ⟨gb, off + j, none⟩ = some (.int .i64 id) := by
            have := hcl j (.int .i64 id) (by unfold cellsI; rw [List.getElem?_map, hid]; rfl)
            rwa [Addr.add_lit] at this
          have HID : Hid (∀ W, Below W15.heap.size W15 W → W.cell? ⟨gb, off + j, none⟩ = some (.int .i64 id) ∧ W.cell? ⟨W12.heap.size, 0, none⟩ = some (.slice p1 p2 p3) ∧ W.cell? ⟨W12.heap.size, 1, none⟩ = some (.slice p4 p5 p6) ∧ Below Wg.heap.size Wg W) := fun W hB => by
            have h2 := (hB.block _ (Array.getElem?_eq_some_iff.1 H15.out.2.2).1).trans H15.out.2.2
            exact ⟨(hB.cell (p := ⟨gb, off + j, none⟩) hgb).trans hid15, cell_at h2 rfl, cell_at h2 rfl, on1K H15.out.1 hB (Nat.le_refl _)⟩
          have HNW : Hid (∀ W, Below W15.heap.size W15 W → Calls Tryz.prog 13 #[.agg #[.slice p1 p2 p3, .slice p4 p5 p6], .int .i64 id] W fun e w' => ∃ kd a l c rc, e = .returned (.tuple #[.agg #[.int .i64 id, .string (bs kd), .slice a l c], .nilIface]) ∧ (OwnRc w' 0 (.slice a l c) rc ∧ RdOk L N1 nm fd id kd rc) ∧ Below W.heap.size W w' ∧ Below W15.heap.size W15 w') := fun W hB => (HNd.out W _ _ M id ((HG15.out.1.kt (.of_below hB) (.of_below hB)).isN) ((HG15.out.2.1.kt (.of_below hB)).isT) HG15.out.2.2 himem).mono fun e w' h => by
            obtain ⟨kd, a, l, c, rc, rfl, q1, q2⟩ := h
            exact ⟨kd, a, l, c, rc, rfl, q1, q2, on1K hB q2 (Nat.le_refl _)⟩
          obtain ⟨z0, z1, z2, _⟩ := HID.out wr hBr
          have HBr := Lib.hid hBr
          have hgw : ¬ gb = wr.heap.size := by have := hBr.size; omega
          have hww : ¬ W12.heap.size = wr.heap.size := by have := cell_lt z1; simp at this; omega
          have q0 := cell_old z0
          have q1 := cell_old z1
          have q2 := cell_old z2
          clear hid15 hcl hgb hBg hBr himem hid
          go_upto_region 29 with fail
          go_cut [27, 28] (fun s27 s28 wx => NdC W15 L N1 nm fd id s27 s28 wx)
          case first =>
            go_region_law (first | (go_simp; go_at_call 13; refine (HNW.out _ (by first | exact b_drew HBr.out | exact b_alloc (b_drew HBr.out) _)).mono ?_; rintro e W17 ⟨kd, a3, l3, c3, rc, rfl, hO, hB17, hb17⟩; have HO := Lib.hid (And.intro hO hb17); (try (have kb : W17.heap[wr.heap.size]? = some (.cells #[.int .i64 0, .string ⟨#[]⟩, .slice none 0 0] 44 (0, 0)) := (hB17.block _ (by simp)).trans (heap_alloc_new wr.drew _); have y5 : W17.cell? ⟨wr.heap.size, 0, none⟩ = some (.int .i64 0) := cell_at kb rfl; have y6 : W17.cell? ⟨wr.heap.size, 1, none⟩ = some (.string ⟨#[]⟩) := cell_at kb rfl; have y7 : W17.cell? ⟨wr.heap.size, 2, none⟩ = some (.slice none 0 0) := cell_at kb rfl; have f5 : W17.frozen? ⟨wr.heap.size, 0, none⟩ = false := frz_at kb; have f6 : W17.frozen? ⟨wr.heap.size, 1, none⟩ = false := frz_at kb; have f7 : W17.frozen? ⟨wr.heap.size, 2, none⟩ = false := frz_at kb; replace kb := Lib.hid kb)); clear hO hB17 hb17))
            all_goals
              go_wp2
              go_meet
              first
                | exact ndC_alloc HO.out.1.1 HO.out.1.2 HO.out.2
                | exact ndC_set kb.out HBr.out.size HO.out.1.1 HO.out.1.2 HO.out.2
          case rest =>
          obtain ⟨q, kd, a3, l3, c3, rc, rfl, rfl, nq, hR, hRd, hBc⟩ := hcut
          obtain ⟨⟨sz, rE, vo, ln⟩, k1, k2, k3⟩ := hRd
          obtain ⟨_, _, _, hBgc⟩ := HID.out wc hBc
          obtain ⟨_, y0, y1, _, _⟩ := HV.out wc hBgc
          have u1 : wc.cell? ⟨q, 1, none⟩ = some (.string (bs kd)) := cell_at nq rfl
          have cI := HIs.out wc kd hBgc k1 k2
          have Hc := Lib.hid (And.intro hBc (And.intro nq hR))
          obtain ⟨t, x, st, hgv, ⟨i1, i2, i3⟩, hpp⟩ := getV_form rE vo fd
          have HGt : Hid (∀ W, Below wc.heap.size wc W → Calls Tryz.prog 15 #[.slice a3 l3 c3, .string (bs fd)] W fun e w' => e = .returned (.tuple #[.agg #[.int .i64 t, .int .i64 x, .string st], errV (rfErr fd rc)]) ∧ Below W.heap.size W w') := fun W hB => by
            have c := get_any (hR.on hB) sz ln (bs fd)
            rw [bs_toList, hgv] at c
            exact c
          have HK3 : Hid (∀ W, Below Wg.heap.size Wg W → Calls Tryz.prog 6 #[.pointer (some ⟨b, 0, none⟩), .string (bs nm), .string (bs fd), .agg #[.int .i64 t, .int .i64 x, .string st]] W fun e w' => e = .returned (.tuple #[.int .i64 (keyA (hpO L L) (tabK (hpO L L) N1).2 (bs nm) fd t x st).1, errV (keyA (hpO L L) (tabK (hpO L L) N1).2 (bs nm) fd t x st).2]) ∧ Below W.heap.size W w') := fun W hB => HKe.out W t x st hB i1 i2 i3
          have hk3 : rfErr fd rc = 0 → (keyA (hpO L L) (tabK (hpO L L) N1).2 (bs nm) fd t x st).2 = 0 → (keyA (hpO L L) (tabK (hpO L L) N1).2 (bs nm) fd t x st).1 = id := fun h1 h2 => k3 t x st (hpp h1) h2
          generalize (keyA (hpO L L) (tabK (hpO L L) N1).2 (bs nm) fd t x st).1 = ka1 at HK3 hk3
          generalize (keyA (hpO L L) (tabK (hpO L L) N1).2 (bs nm) fd t x st).2 = ka2 at HK3 hk3
          generalize rfErr fd rc = re at HGt hk3
          have h3 : (∃ z, errV re = .iface 92 (.int .i64 z)) ∨ (errV re = .nilIface ∧ ∃ z, errV ka2 = .iface 92 (.int .i64 z)) ∨ (errV re = .nilIface ∧ errV ka2 = .nilIface ∧ ka1 = id) := by
            by_cases r0 : re = 0
            · by_cases r1 : ka2 = 0
              · exact .inr (.inr ⟨by rw [r0, errV_0], by rw [r1, errV_0], hk3 r0 r1⟩)
              · exact .inr (.inl ⟨by rw [r0, errV_0], _, errV_ne r1⟩)
            · exact .inl ⟨_, errV_ne r0⟩
          clear hBc nq hR sz rE vo ln k1 k2 k3 hBgc hgv i1 i2 i3 hpp hk3 z0 z1 z2 q0 q1 q2 hgw hww HNW HBr
          go_wp2_with (first | (go_at_call 14; refine cI.mono ?_; rintro e W18 ⟨rfl, hB18⟩; refine Hid.out ?_))
          refine Lib.hid ?_
          have n18 := (hB18.block _ (Array.getElem?_eq_some_iff.1 Hc.out.2.1).1).trans Hc.out.2.1
          have u2 : W18.cell? ⟨q, 2, none⟩ = some (.slice a3 l3 c3) := cell_at n18 rfl
          have cGt := HGt.out W18 hB18
          have H18 := Lib.hid (on1K Hc.out.1 hB18 (Nat.le_refl _))
          clear cI hB18 n18 y0 y1 u1
          rcases h3 with ⟨z, hz1⟩ | ⟨hz1, z, hz2⟩ | ⟨hz1, hz2, hz3⟩
          · rw [hz1] at cGt
            clear hz1
            go_wp2_with (first | (go_at_call 15; refine cGt.mono ?_; rintro e W19 ⟨rfl, hB19⟩; refine Hid.out ?_))
            refine Lib.hid ?_
            obtain ⟨W20, hW20⟩ : ∃ W20, W20 = W19.alloc (.cells #[.int .i64 t, .int .i64 x, .string st] 38) := ⟨_, rfl⟩
            have hB20 : Below W19.heap.size W19 W20 := by rw [hW20]; exact b_alloc (Below.refl _ _) _
            have n20 : W20.heap[W19.heap.size]? = some (.cells #[.int .i64 t, .int .i64 x, .string st] 38 (0, 0)) := by rw [hW20]; exact heap_alloc_new W19 _
            have hB1520 := on1K (on1K H18.out hB19 (Nat.le_refl _)) hB20 (Nat.le_refl _)
            have r0 : W20.cell? ⟨W19.heap.size, 0, none⟩ = some (.int .i64 t) := cell_at n20 rfl
            have r1 : W20.cell? ⟨W19.heap.size, 1, none⟩ = some (.int .i64 x) := cell_at n20 rfl
            have r2 : W20.cell? ⟨W19.heap.size, 2, none⟩ = some (.string st) := cell_at n20 rfl
            have cK3 := HK3.out W20 (HID.out W20 hB1520).2.2.2
            have H20 := Lib.hid hB1520
            clear hB19 hB20 n20 hB1520 cGt u2
            go_upto_region 34 with fail
            rw [← hW20]
            clear hW20
            go_wp2_with (first | (go_at_call 6; refine cK3.mono ?_; rintro e W21 ⟨rfl, hB21⟩; have H21 := Lib.hid (on1K H20.out hB21 (Nat.le_refl _)); clear hB21))
            refine ⟨?_, ?_⟩
            · first | exact ⟨j + 1, by omega, by go_num, H21.out⟩ | ((repeat apply Exists.intro); refine ⟨?_, rfl⟩; exact ⟨j + 1, by omega, by go_num, H21.out⟩)
            · simp [intOf]
              try omega
          · rw [hz1] at cGt
            clear hz1
            go_wp2_with (first | (go_at_call 15; refine cGt.mono ?_; rintro e W19 ⟨rfl, hB19⟩; refine Hid.out ?_))
            refine Lib.hid ?_
            obtain ⟨W20, hW20⟩ : ∃ W20, W20 = W19.alloc (.cells #[.int .i64 t, .int .i64 x, .string st] 38) := ⟨_, rfl⟩
            have hB20 : Below W19.heap.size W19 W20 := by rw [hW20]; exact b_alloc (Below.refl _ _) _
            have n20 : W20.heap[W19.heap.size]? = some (.cells #[.int .i64 t, .int .i64 x, .string st] 38 (0, 0)) := by rw [hW20]; exact heap_alloc_new W19 _
            have hB1520 := on1K (on1K H18.out hB19 (Nat.le_refl _)) hB20 (Nat.le_refl _)
            have r0 : W20.cell? ⟨W19.heap.size, 0, none⟩ = some (.int .i64 t) := cell_at n20 rfl
            have r1 : W20.cell? ⟨W19.heap.size, 1, none⟩ = some (.int .i64 x) := cell_at n20 rfl
            have r2 : W20.cell? ⟨W19.heap.size, 2, none⟩ = some (.string st) := cell_at n20 rfl
            have cK3 := HK3.out W20 (HID.out W20 hB1520).2.2.2
            rw [hz2] at cK3
            clear hz2
            have H20 := Lib.hid hB1520
            clear hB19 hB20 n20 hB1520 cGt u2
            go_upto_region 34 with fail
            rw [← hW20]
            clear hW20
            go_wp2_with (first | (go_at_call 6; refine cK3.mono ?_; rintro e W21 ⟨rfl, hB21⟩; have H21 := Lib.hid (on1K H20.out hB21 (Nat.le_refl _)); clear hB21))
            refine ⟨?_, ?_⟩
            · first | exact ⟨j + 1, by omega, by go_num, H21.out⟩ | ((repeat apply Exists.intro); refine ⟨?_, rfl⟩; exact ⟨j + 1, by omega, by go_num, H21.out⟩)
            · simp [intOf]
              try omega
          · rw [hz1] at cGt
            clear hz1
            go_wp2_with (first | (go_at_call 15; refine cGt.mono ?_; rintro e W19 ⟨rfl, hB19⟩; refine Hid.out ?_))
            refine Lib.hid ?_
            obtain ⟨W20, hW20⟩ : ∃ W20, W20 = W19.alloc (.cells #[.int .i64 t, .int .i64 x, .string st] 38) := ⟨_, rfl⟩
            have hB20 : Below W19.heap.size W19 W20 := by rw [hW20]; exact b_alloc (Below.refl _ _) _
            have n20 : W20.heap[W19.heap.size]? = some (.cells #[.int .i64 t, .int .i64 x, .string st] 38 (0, 0)) := by rw [hW20]; exact heap_alloc_new W19 _
            have hB1520 := on1K (on1K H18.out hB19 (Nat.le_refl _)) hB20 (Nat.le_refl _)
            have r0 : W20.cell? ⟨W19.heap.size, 0, none⟩ = some (.int .i64 t) := cell_at n20 rfl
            have r1 : W20.cell? ⟨W19.heap.size, 1, none⟩ = some (.int .i64 x) := cell_at n20 rfl
            have r2 : W20.cell? ⟨W19.heap.size, 2, none⟩ = some (.string st) := cell_at n20 rfl
            have cK3 := HK3.out W20 (HID.out W20 hB1520).2.2.2
            rw [hz2] at cK3
            clear hz2
            rw [hz3] at cK3
            clear hz3
            have H20 := Lib.hid hB1520
            clear hB19 hB20 n20 hB1520 cGt u2
            go_upto_region 34 with fail
            rw [← hW20]
            clear hW20
            go_wp2_with (first | (go_at_call 6; refine cK3.mono ?_; rintro e W21 ⟨rfl, hB21⟩; have hB1521 := on1K H20.out hB21 (Nat.le_refl _); obtain ⟨v0, _, _, _⟩ := HID.out W21 hB1521; have H21 := Lib.hid hB1521; clear hB21 hB1521))
            refine ⟨?_, ?_⟩
            · first | exact ⟨j + 1, by omega, by go_num, H21.out⟩ | ((repeat apply Exists.intro); refine ⟨?_, rfl⟩; exact ⟨j + 1, by omega, by go_num, H21.out⟩)
            · simp [intOf]
              try omega
        · obtain ⟨hbw, _⟩ := HV.out wr hBg
          have HBw := Lib.hid hbw
          clear hbw hBg hBr
          go_wp2
          go_ret
          exact ⟨rfl, HBw.out⟩
end Go.Proofs.YtjnjbajnmclmjaaGreatDoor
