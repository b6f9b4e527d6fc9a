/-
  The walk of the law RecordBack.
-/
import Derived.Test.YtghlncdnnmpikaaGreatDoorLawA
namespace Go.Proofs.YtghlncdnnmpikaaGreatDoor
open Go.RowKit
set_option linter.unusedVariables false
set_option linter.unusedSimpArgs false

/-- The law's own property is as it was boxed, and nothing that was there has turned. -/
def OwnP (w : World) (p : Pr) (W : World) : Prop :=
  (W.cell? ⟨w.heap.size, 0, none⟩ = some (.string p.nm) ∧ W.cell? ⟨w.heap.size, 1, none⟩ = some (.int .i64 p.t) ∧ W.cell? ⟨w.heap.size, 2, none⟩ = some (.int .i64 p.n) ∧ W.cell? ⟨w.heap.size, 3, none⟩ = some (.string p.s)) ∧ w.heap.size < W.heap.size ∧ Below w.heap.size w W
theorem OwnP.next {w : World} {p : Pr} {W W' : World} (h : OwnP w p W) (hB : Below W.heap.size W W') : OwnP w p W' := by
  obtain ⟨⟨h0, h1, h2, h3⟩, hl, hb⟩ := h
  exact ⟨⟨(hB.cell (p := ⟨w.heap.size, 0, none⟩) hl).trans h0, (hB.cell (p := ⟨w.heap.size, 1, none⟩) hl).trans h1, (hB.cell (p := ⟨w.heap.size, 2, none⟩) hl).trans h2, (hB.cell (p := ⟨w.heap.size, 3, none⟩) hl).trans h3⟩, Nat.lt_of_lt_of_le hl hB.size, on1 hb hB⟩
theorem kept3 {w W1 : World} {v0 v1 v2 : Value} {t : TypeId} (hB : Below (w.alloc (.cells #[v0, v1, v2] t)).heap.size (w.alloc (.cells #[v0, v1, v2] t)) W1) :
    w.heap.size < W1.heap.size ∧ W1.cell? ⟨w.heap.size, 0, none⟩ = some v0 ∧ W1.cell? ⟨w.heap.size, 1, none⟩ = some v1 ∧ W1.cell? ⟨w.heap.size, 2, none⟩ = some v2 := by
  refine ⟨Nat.lt_of_lt_of_le (by simp) hB.size, ?_, ?_, ?_⟩
  · rw [hB.cell (p := ⟨w.heap.size, 0, none⟩) (by simp)]; simp
  · rw [hB.cell (p := ⟨w.heap.size, 1, none⟩) (by simp)]; simp
  · rw [hB.cell (p := ⟨w.heap.size, 2, none⟩) (by simp)]; simp
theorem readR_sz {t : List UInt8} {M : List Pr} (ht : t.length ≤ 140737488355328) (h : readR t = some M) : Sz M := by
  unfold readR at h
  split at h
  · obtain rfl := Option.some.inj h
    intro q hq; simp at hq
  · exact prs_sz _ _ _ _ ht h (fun q hq => by simp at hq)

set_option maxHeartbeats 16000000 in
set_option maxRecDepth 100000 in
theorem back_walk (v : Value) (L : List Pr) (p : Pr) (nm s : ByteArray) (w : World) (hI : IsRec w v L) (hsz : Sz L) (hm : L.length ≤ maxLen) (hsp : Sz [p]) (hs : s.size ≤ 140737488355328) (hT : Tab w) (hg : Hnd w) :
    Calls Tryz.prog 4 #[v, p.one, .string nm, .string s] w fun e w' => e = .returned (.bool true) ∧ Below w.heap.size w w' := by
  have hBA : Below w.heap.size w ((w.alloc (.cells #[.string p.nm, .int .i64 p.t, .int .i64 p.n, .string p.s] 27)).alloc (.cells #[.string ⟨#[97]⟩, .int .i64 1, .int .i64 3, .string ⟨#[]⟩] 27)) := b_alloc (b_alloc (Below.refl _ _) _) _
  have cf := fact_one ((w.alloc (.cells #[.string p.nm, .int .i64 p.t, .int .i64 p.n, .string p.s] 27)).alloc (.cells #[.string ⟨#[97]⟩, .int .i64 1, .int .i64 3, .string ⟨#[]⟩] 27))
  have HI : Hid (IsRec w v L ∧ Sz L ∧ L.length ≤ maxLen ∧ Sz [p] ∧ s.size ≤ 140737488355328 ∧ Tab w ∧ Hnd w) := ⟨hI, hsz, hm, hsp, hs, hT, hg⟩
  clear hI hsz hm hsp hs hT hg
  go_enter Tryz.func4, Tryz.ntmps4
  go_wp2_with (go_at_call 11; refine cf.mono ?_; rintro e W1 ⟨b, off, cp, rfl, hb, hl, hB1⟩; refine Hid.out ?_)
  refine Lib.hid ?_
  obtain ⟨⟨p0, p1, p2, p3⟩, ⟨o0, o1, o2, o3⟩, hlt⟩ := kept8 hB1
  obtain ⟨c0, c1, c2, c3⟩ := hl 0 onePr rfl
  simp only [Nat.zero_mul, Nat.add_zero, onePr] at c0 c1 c2 c3
  have HB1 : Hid (Below ((w.alloc (.cells #[.string p.nm, .int .i64 p.t, .int .i64 p.n, .string p.s] 27)).alloc (.cells #[.string ⟨#[97]⟩, .int .i64 1, .int .i64 3, .string ⟨#[]⟩] 27)).heap.size ((w.alloc (.cells #[.string p.nm, .int .i64 p.t, .int .i64 p.n, .string p.s] 27)).alloc (.cells #[.string ⟨#[97]⟩, .int .i64 1, .int .i64 3, .string ⟨#[]⟩] 27)) W1) := hB1
  clear cf hl hB1
  go_upto_region 3 with fail
  go_cut [50] (fun s50 wx => s50 = .bool false ∧ ∃ n, wx = W1.drewN n)
  case first =>
    go_quiet (fail)
    go_wp2
    go_meet
    exact ⟨rfl, _, rfl⟩
  case rest =>
  obtain ⟨rfl, n1, rfl⟩ := hcut
  have HO : Hid (OwnP w p (W1.drewN n1)) := ⟨⟨p0, p1, p2, p3⟩, by show w.heap.size < W1.heap.size; omega, hBA.trans ((b_drewN HB1.out n1).mono hBA.size)⟩
  generalize W1.drewN n1 = W2 at HO ⊢
  have cpr := rprint_all (HI.out.1.on HO.out.2.2) HI.out.2.1 HI.out.2.2.1 (tabOn HI.out.2.2.2.2.2.1 HO.out.2.2)
  clear p0 p1 p2 p3 o0 o1 o2 o3 c0 c1 c2 c3 HB1 hBA hlt hb
  go_wp2_with (go_at_call 17; refine cpr.mono ?_; rintro e W3 ⟨S, E, rfl, hB3, hd⟩; refine Hid.out ?_)
  refine Lib.hid ?_
  have HD : Hid ((rErr L = 0 ∧ S = ⟨(showR L).toArray⟩ ∧ E = .nilIface) ∨ (¬ rErr L = 0 ∧ E = .iface 53 (.int .i64 (rErr L)))) := hd
  have HO3 : Hid (OwnP w p W3) := HO.out.next hB3
  clear hd cpr HO hB3
  go_upto_region 6 with fail
  go_cut [57] (fun s57 wx => wx = W3 ∧ s57 = .bool (decide (rErr L = 0)))
  case first =>
    rcases HD.out with ⟨h, -, hE⟩ | ⟨h, hE⟩
    · subst hE
      have H : Hid (decide (rErr L = 0) = true) := by show _ = _; simp [h]
      clear h HD
      go_wp2
      go_meet
      exact ⟨rfl, by rw [H.out]⟩
    · subst hE
      have H : Hid (decide (rErr L = 0) = false) := by show _ = _; simp [h]
      clear h HD
      go_wp2
      go_meet
      exact ⟨rfl, by rw [H.out]⟩
  case rest =>
  obtain ⟨rfl, rfl⟩ := hcut
  go_upto_if 57 with fail
  go_cut [] (fun wx => Below wc.heap.size wc wx)
  case first =>
    rcases HD.out with ⟨h, hS, -⟩ | ⟨h, -⟩
    · have hd : decide (rErr L = 0) = true := by simp [h]
      rw [hd]
      subst hS
      have c1 := rparse_shown h wc (showR_len h)
      have hn8 := rErr_len h
      clear HD h hd
      go_wp2_with (go_at_call 19; refine c1.mono ?_; rintro e W4 ⟨V, rfl, hV, hB4⟩; refine Hid.out ?_)
      refine Lib.hid ?_
      have c2 := same_any hV ((HI.out.1.on HO3.out.2.2).on hB4) hn8
      clear c1 hV
      go_wp2_with (go_at_call 12; refine c2.mono ?_; rintro e W5 ⟨rfl, hB5⟩)
      go_meet
      exact on1 hB4 hB5
    · have hd : decide (rErr L = 0) = false := by simp [h]
      rw [hd]
      clear HD h hd
      go_wp2
      go_meet
      exact Below.refl _ _
  case rest =>
  have HO4 : Hid (OwnP w p wc) := HO3.out.next hcut
  clear hcut HO3 HD
  have cps := rparse_all s wc HI.out.2.2.2.2.1
  go_wp2_with (go_at_call 19; refine cps.mono ?_; rintro e W5 ⟨V, E2, rfl, hB5, hd⟩; refine Hid.out ?_)
  refine Lib.hid ?_
  have HD : Hid ((∃ M, readR s.data.toList = some M ∧ rErr M = 0 ∧ IsRec W5 V M ∧ E2 = .nilIface) ∨ (∃ ee : Int, E2 = .iface 53 (.int .i64 ee))) := hd
  have HO5 : Hid (OwnP w p W5) := HO4.out.next hB5
  clear hd cps HO4 hB5
  go_upto_region 12 with fail
  go_cut [78] (fun s78 wx => wx = W5 ∧ ((s78 = .bool true ∧ ∃ M, readR s.data.toList = some M ∧ rErr M = 0 ∧ IsRec W5 V M) ∨ s78 = .bool false))
  case first =>
    rcases HD.out with ⟨M, h1, h2, h3, hE⟩ | ⟨ee, hE⟩
    · subst hE
      have H : Hid (∃ M, readR s.data.toList = some M ∧ rErr M = 0 ∧ IsRec W5 V M) := ⟨M, h1, h2, h3⟩
      clear h1 h2 h3 HD
      go_wp2
      go_meet
      exact ⟨rfl, .inl ⟨rfl, H.out⟩⟩
    · subst hE
      clear HD
      go_wp2
      go_meet
      exact ⟨rfl, .inr rfl⟩
  case rest =>
  obtain ⟨rfl, hcut⟩ := hcut
  have HE : Hid _ := hcut
  clear hcut HD
  go_upto_if 78 with fail
  go_cut [] (fun wx => Below wc.heap.size wc wx)
  case first =>
    rcases HE.out with ⟨h, M, h1, h2, h3⟩ | h
    · subst h
      have c1 := rprint_ok h3 (readR_sz (by rw [← size_len]; exact HI.out.2.2.2.2.1) h1) h2 (tabOn HI.out.2.2.2.2.2.1 HO5.out.2.2)
      have e1 : (⟨(showR M).toArray⟩ : ByteArray) = s := by rw [show_read h1 h2]
      rw [e1] at c1
      clear h1 h2 h3 e1 HE
      go_wp2_with (go_at_call 17; refine c1.mono ?_; rintro e W6 ⟨rfl, hB6⟩)
      go_meet
      exact hB6
    · subst h
      clear HE
      go_wp2
      go_meet
      exact Below.refl _ _
  case rest =>
  have HO6 : Hid (OwnP w p wc) := HO5.out.next hcut
  clear hcut HO5 HE
  by_cases he : sErr p L = 0
  · obtain ⟨hL0, hM0, hM8, hlk, hoth, j, hj, hjl, hR0, hRn⟩ := set_facts he
    obtain ⟨m, hm⟩ : ∃ m, (ins p L).length = m + 1 := ⟨(ins p L).length - 1, by omega⟩
    have cs := set_ok (HI.out.1.on HO6.out.2.2) HI.out.2.1 HI.out.2.2.1 p HI.out.2.2.2.1 he hm
    have szM := ins_sz HI.out.2.1 HI.out.2.2.2.1
    have szR : Sz ((ins p L).take j ++ (ins p L).drop (j + 1)) := fun q hq => szM q (by
      rcases List.mem_append.1 hq with h | h
      · exact List.mem_of_mem_take h
      · exact List.mem_of_mem_drop h)
    have HF : Hid (rErr L = 0 ∧ rErr (ins p L) = 0 ∧ look p.nm.toList (ins p L) = some p ∧ (∀ nm, ¬ p.nm.toList = nm → look nm (ins p L) = look nm L) ∧ idx p.nm.toList (ins p L) 0 = ((j : Nat) : Int) ∧ j < (ins p L).length ∧ rErr ((ins p L).take j ++ (ins p L).drop (j + 1)) = 0 ∧ look p.nm.toList ((ins p L).take j ++ (ins p L).drop (j + 1)) = none ∧ (ins p L).length = m + 1 ∧ Sz (ins p L) ∧ Sz ((ins p L).take j ++ (ins p L).drop (j + 1))) := ⟨hL0, hM0, hlk, hoth, hj, hjl, hR0, hRn, hm, szM, szR⟩
    have hm7 : m ≤ 7 := by omega
    obtain ⟨⟨p0, p1, p2, p3⟩, hlt, -⟩ := HO6.out
    clear hL0 hM0 hM8 hlk hoth hj hjl hR0 hRn hm szM szR he
    go_wp2_with (go_at_call 11; refine cs.mono ?_; rintro e W7 ⟨ao, cx, rfl, hX, hB7⟩; refine Hid.out ?_)
    refine Lib.hid ?_
    have HX : Hid (IsRec W7 (.slice ao (m + 1) cx) (ins p L)) := hX
    have HO7 : Hid (OwnP w p W7) := HO6.out.next hB7
    clear p0 p1 p2 p3 hlt cs hX hB7 HO6
    obtain ⟨⟨p0, p1, p2, p3⟩, hlt, -⟩ := HO7.out
    have cg := get_any HX.out HF.out.2.2.2.2.2.2.2.2.2.1 (by rw [HF.out.2.2.2.2.2.2.2.2.1]; unfold maxLen; omega) p.nm
    rw [(get_look HF.out.2.1).1, (get_look HF.out.2.1).2, HF.out.2.2.1] at cg
    simp only [lookV, Option.isSome_some, if_true, errV_0] at cg
    go_wp2_with (go_at_call 9; refine cg.mono ?_; rintro e W8 ⟨rfl, hB8⟩; refine Hid.out ?_)
    refine Lib.hid ?_
    have HO8 : Hid (OwnP w p W8) := HO7.out.next hB8
    have HX8 : Hid (IsRec W8 (.slice ao (m + 1) cx) (ins p L)) := HX.out.on hB8
    clear p0 p1 p2 p3 hlt cg hB8 HO7 HX
    obtain ⟨⟨p0, p1, p2, p3⟩, hlt, -⟩ := HO8.out
    have hA8 : Below W8.heap.size W8 (W8.alloc (.cells #[.int .i64 p.t, .int .i64 p.n, .string p.s] 25)) := b_alloc (Below.refl _ _) _
    have ck := rcheck_any (HX8.out.on hA8) HF.out.2.2.2.2.2.2.2.2.2.1 (by rw [HF.out.2.2.2.2.2.2.2.2.1]; unfold maxLen; omega)
    rw [HF.out.2.1, errV_0] at ck
    go_wp2_with (go_at_call 7; refine ck.mono ?_; rintro e W9 ⟨rfl, hB9⟩; refine Hid.out ?_)
    refine Lib.hid ?_
    have HO9 : Hid (OwnP w p W9) := HO8.out.next (on1 hA8 hB9)
    have HX9 : Hid (IsRec W9 (.slice ao (m + 1) cx) (ins p L)) := HX8.out.on (on1 hA8 hB9)
    clear p0 p1 p2 p3 hlt ck hB9 hA8 HO8 HX8
    have c1 := get_any (HI.out.1.on HO9.out.2.2) HI.out.2.1 HI.out.2.2.1 nm
    rw [(get_look HF.out.1).1, (get_look HF.out.1).2] at c1
    have hbn : (∃ (x : Bool) (A E1 B E2 : Value), True) := ⟨true, v, v, v, v, trivial⟩
    clear hbn
    cases hq : look nm.toList L with
    | none =>
      rw [hq] at c1
      simp only [lookV, Option.isSome_some, Option.isSome_none, if_true, if_false, Bool.false_eq_true, errV_0, errV_5] at c1
      by_cases hnm : p.nm.toList = nm.toList
      · have h2 : look nm.toList (ins p L) = some p := by rw [← hnm]; exact HF.out.2.2.1
        have hb1 : (nm.toList == p.nm.toList) = true := by simpa using hnm.symm
        have hb2 : (nm.toList != p.nm.toList) = false := by simpa using hnm.symm
        clear hnm hq
        go_wp2_with (go_at_call 9; refine c1.mono ?_; rintro e W10 ⟨rfl, hB10⟩; refine Hid.out ?_)
        refine Lib.hid ?_
        have hA10 : Below W9.heap.size W9 (W10.alloc (.cells #[.int .i64 0, .int .i64 0, .string ⟨#[]⟩] 25)) := b_alloc hB10 _
        have HO10 : Hid (OwnP w p (W10.alloc (.cells #[.int .i64 0, .int .i64 0, .string ⟨#[]⟩] 25))) := HO9.out.next hA10
        have HX10 : Hid (IsRec (W10.alloc (.cells #[.int .i64 0, .int .i64 0, .string ⟨#[]⟩] 25)) (.slice ao (m + 1) cx) (ins p L)) := HX9.out.on hA10
        have c2 := get_any HX10.out HF.out.2.2.2.2.2.2.2.2.2.1 (by rw [HF.out.2.2.2.2.2.2.2.2.1]; unfold maxLen; omega) nm
        rw [(get_look HF.out.2.1).1, (get_look HF.out.2.1).2, h2] at c2
        simp only [lookV, Option.isSome_some, Option.isSome_none, if_true, if_false, Bool.false_eq_true, errV_0, errV_5] at c2
        clear c1 hB10 hA10 HO9 HX9 h2
        go_wp2_with (go_at_call 9; refine c2.mono ?_; rintro e W11 ⟨rfl, hB11⟩; refine Hid.out ?_)
        refine Lib.hid ?_
        obtain ⟨hz, g0, g1, g2⟩ := kept3 hB11
        have HO11 : Hid (OwnP w p W11) := HO10.out.next hB11
        have HX11 : Hid (IsRec W11 (.slice ao (m + 1) cx) (ins p L)) := HX10.out.on hB11
        clear c2 hB11 HO10 HX10
        obtain ⟨⟨p0, p1, p2, p3⟩, hlt, -⟩ := HO11.out
        go_upto_region 24 with fail
        go_cut [146] (fun s146 wx => s146 = .bool false ∧ ∃ n, wx = (W11.alloc (.cells #[.int .i64 p.t, .int .i64 p.n, .string p.s] 25)).drewN n)
        case first =>
          go_quiet (fail)
          go_wp2
          go_meet
          exact ⟨rfl, _, rfl⟩
        case rest =>
        obtain ⟨rfl, n2, rfl⟩ := hcut
        have hA11 : Below W11.heap.size W11 ((W11.alloc (.cells #[.int .i64 p.t, .int .i64 p.n, .string p.s] 25)).drewN n2) := b_drewN (b_alloc (Below.refl _ _) _) _
        have HO12 : Hid (OwnP w p ((W11.alloc (.cells #[.int .i64 p.t, .int .i64 p.n, .string p.s] 25)).drewN n2)) := HO11.out.next hA11
        have HX12 : Hid (IsRec ((W11.alloc (.cells #[.int .i64 p.t, .int .i64 p.n, .string p.s] 25)).drewN n2) (.slice ao (m + 1) cx) (ins p L)) := HX11.out.on hA11
        generalize (W11.alloc (.cells #[.int .i64 p.t, .int .i64 p.n, .string p.s] 25)).drewN n2 = W12 at HO12 HX12 ⊢
        clear p0 p1 p2 p3 hlt g0 g1 g2 hz hA11 HO11 HX11 hb1 hb2
        have cu := unset_any HX12.out HF.out.2.2.2.2.2.2.2.2.2.1 p.nm HF.out.2.1 j HF.out.2.2.2.2.1 HF.out.2.2.2.2.2.1
        rw [HF.out.2.2.2.2.2.2.2.2.1, Nat.add_sub_cancel] at cu
        obtain ⟨⟨p0, p1, p2, p3⟩, hlt, -⟩ := HO12.out
        go_wp2_with (go_at_call 14; refine cu.mono ?_; rintro e W13 ⟨ay, cy, rfl, hY, hB13⟩; refine Hid.out ?_)
        refine Lib.hid ?_
        have HO13 : Hid (OwnP w p W13) := HO12.out.next hB13
        clear p0 p1 p2 p3 hlt cu hB13 HO12 HX12
        obtain ⟨⟨p0, p1, p2, p3⟩, hlt, -⟩ := HO13.out
        have cy2 := get_any hY HF.out.2.2.2.2.2.2.2.2.2.2 (by have := rErr_len HF.out.2.2.2.2.2.2.1; unfold maxLen; omega) p.nm
        rw [(get_look HF.out.2.2.2.2.2.2.1).1, (get_look HF.out.2.2.2.2.2.2.1).2, HF.out.2.2.2.2.2.2.2.1] at cy2
        simp only [lookV, Option.isSome_none, if_false, Bool.false_eq_true, errV_5] at cy2
        clear hY
        go_wp2_with (go_at_call 9; refine cy2.mono ?_; rintro e W14 ⟨rfl, hB14⟩; refine Hid.out ?_)
        refine Lib.hid ?_
        have hA14 : Below W13.heap.size W13 (W14.alloc (.cells #[.int .i64 0, .int .i64 0, .string ⟨#[]⟩] 25)) := b_alloc hB14 _
        have HO14 : Hid (OwnP w p (W14.alloc (.cells #[.int .i64 0, .int .i64 0, .string ⟨#[]⟩] 25))) := HO13.out.next hA14
        have ce := error_any 5 (W14.alloc (.cells #[.int .i64 0, .int .i64 0, .string ⟨#[]⟩] 25)) (hndOn HI.out.2.2.2.2.2.2 HO14.out.2.2)
        rw [errV_5] at ce
        clear p0 p1 p2 p3 hlt cy2 hB14 hA14 HO13
        go_wp2_with (go_at_call 6; refine ce.mono ?_; rintro e W15 ⟨rfl, hB15⟩)
        go_ret
        exact ⟨ret_bool (by simp), on1 HO14.out.2.2 hB15⟩
      · have h2 : look nm.toList (ins p L) = look nm.toList L := HF.out.2.2.2.1 _ hnm
        rw [hq] at h2
        have hb1 : (nm.toList == p.nm.toList) = false := by simpa using fun e => hnm e.symm
        have hb2 : (nm.toList != p.nm.toList) = true := by simpa using fun e => hnm e.symm
        clear hnm hq
        go_wp2_with (go_at_call 9; refine c1.mono ?_; rintro e W10 ⟨rfl, hB10⟩; refine Hid.out ?_)
        refine Lib.hid ?_
        have hA10 : Below W9.heap.size W9 (W10.alloc (.cells #[.int .i64 0, .int .i64 0, .string ⟨#[]⟩] 25)) := b_alloc hB10 _
        have HO10 : Hid (OwnP w p (W10.alloc (.cells #[.int .i64 0, .int .i64 0, .string ⟨#[]⟩] 25))) := HO9.out.next hA10
        have HX10 : Hid (IsRec (W10.alloc (.cells #[.int .i64 0, .int .i64 0, .string ⟨#[]⟩] 25)) (.slice ao (m + 1) cx) (ins p L)) := HX9.out.on hA10
        have c2 := get_any HX10.out HF.out.2.2.2.2.2.2.2.2.2.1 (by rw [HF.out.2.2.2.2.2.2.2.2.1]; unfold maxLen; omega) nm
        rw [(get_look HF.out.2.1).1, (get_look HF.out.2.1).2, h2] at c2
        simp only [lookV, Option.isSome_some, Option.isSome_none, if_true, if_false, Bool.false_eq_true, errV_0, errV_5] at c2
        clear c1 hB10 hA10 HO9 HX9 h2
        go_wp2_with (go_at_call 9; refine c2.mono ?_; rintro e W11 ⟨rfl, hB11⟩; refine Hid.out ?_)
        refine Lib.hid ?_
        obtain ⟨hz, g0, g1, g2⟩ := kept3 hB11
        have HO11 : Hid (OwnP w p W11) := HO10.out.next hB11
        have HX11 : Hid (IsRec W11 (.slice ao (m + 1) cx) (ins p L)) := HX10.out.on hB11
        clear c2 hB11 HO10 HX10
        obtain ⟨⟨p0, p1, p2, p3⟩, hlt, -⟩ := HO11.out
        go_upto_region 24 with fail
        go_cut [146] (fun s146 wx => s146 = .bool false ∧ ∃ n, wx = (W11.alloc (.cells #[.int .i64 0, .int .i64 0, .string ⟨#[]⟩] 25)).drewN n)
        case first =>
          go_quiet (fail)
          go_wp2
          go_meet
          exact ⟨rfl, _, rfl⟩
        case rest =>
        obtain ⟨rfl, n2, rfl⟩ := hcut
        have hA11 : Below W11.heap.size W11 ((W11.alloc (.cells #[.int .i64 0, .int .i64 0, .string ⟨#[]⟩] 25)).drewN n2) := b_drewN (b_alloc (Below.refl _ _) _) _
        have HO12 : Hid (OwnP w p ((W11.alloc (.cells #[.int .i64 0, .int .i64 0, .string ⟨#[]⟩] 25)).drewN n2)) := HO11.out.next hA11
        have HX12 : Hid (IsRec ((W11.alloc (.cells #[.int .i64 0, .int .i64 0, .string ⟨#[]⟩] 25)).drewN n2) (.slice ao (m + 1) cx) (ins p L)) := HX11.out.on hA11
        generalize (W11.alloc (.cells #[.int .i64 0, .int .i64 0, .string ⟨#[]⟩] 25)).drewN n2 = W12 at HO12 HX12 ⊢
        clear p0 p1 p2 p3 hlt g0 g1 g2 hz hA11 HO11 HX11 hb1 hb2
        have cu := unset_any HX12.out HF.out.2.2.2.2.2.2.2.2.2.1 p.nm HF.out.2.1 j HF.out.2.2.2.2.1 HF.out.2.2.2.2.2.1
        rw [HF.out.2.2.2.2.2.2.2.2.1, Nat.add_sub_cancel] at cu
        obtain ⟨⟨p0, p1, p2, p3⟩, hlt, -⟩ := HO12.out
        go_wp2_with (go_at_call 14; refine cu.mono ?_; rintro e W13 ⟨ay, cy, rfl, hY, hB13⟩; refine Hid.out ?_)
        refine Lib.hid ?_
        have HO13 : Hid (OwnP w p W13) := HO12.out.next hB13
        clear p0 p1 p2 p3 hlt cu hB13 HO12 HX12
        obtain ⟨⟨p0, p1, p2, p3⟩, hlt, -⟩ := HO13.out
        have cy2 := get_any hY HF.out.2.2.2.2.2.2.2.2.2.2 (by have := rErr_len HF.out.2.2.2.2.2.2.1; unfold maxLen; omega) p.nm
        rw [(get_look HF.out.2.2.2.2.2.2.1).1, (get_look HF.out.2.2.2.2.2.2.1).2, HF.out.2.2.2.2.2.2.2.1] at cy2
        simp only [lookV, Option.isSome_none, if_false, Bool.false_eq_true, errV_5] at cy2
        clear hY
        go_wp2_with (go_at_call 9; refine cy2.mono ?_; rintro e W14 ⟨rfl, hB14⟩; refine Hid.out ?_)
        refine Lib.hid ?_
        have hA14 : Below W13.heap.size W13 (W14.alloc (.cells #[.int .i64 0, .int .i64 0, .string ⟨#[]⟩] 25)) := b_alloc hB14 _
        have HO14 : Hid (OwnP w p (W14.alloc (.cells #[.int .i64 0, .int .i64 0, .string ⟨#[]⟩] 25))) := HO13.out.next hA14
        have ce := error_any 5 (W14.alloc (.cells #[.int .i64 0, .int .i64 0, .string ⟨#[]⟩] 25)) (hndOn HI.out.2.2.2.2.2.2 HO14.out.2.2)
        rw [errV_5] at ce
        clear p0 p1 p2 p3 hlt cy2 hB14 hA14 HO13
        go_wp2_with (go_at_call 6; refine ce.mono ?_; rintro e W15 ⟨rfl, hB15⟩)
        go_ret
        exact ⟨ret_bool (by simp), on1 HO14.out.2.2 hB15⟩
    | some q =>
      rw [hq] at c1
      simp only [lookV, Option.isSome_some, Option.isSome_none, if_true, if_false, Bool.false_eq_true, errV_0, errV_5] at c1
      by_cases hnm : p.nm.toList = nm.toList
      · have h2 : look nm.toList (ins p L) = some p := by rw [← hnm]; exact HF.out.2.2.1
        have hb1 : (nm.toList == p.nm.toList) = true := by simpa using hnm.symm
        have hb2 : (nm.toList != p.nm.toList) = false := by simpa using hnm.symm
        clear hnm hq
        go_wp2_with (go_at_call 9; refine c1.mono ?_; rintro e W10 ⟨rfl, hB10⟩; refine Hid.out ?_)
        refine Lib.hid ?_
        have hA10 : Below W9.heap.size W9 (W10.alloc (.cells #[.int .i64 q.t, .int .i64 q.n, .string q.s] 25)) := b_alloc hB10 _
        have HO10 : Hid (OwnP w p (W10.alloc (.cells #[.int .i64 q.t, .int .i64 q.n, .string q.s] 25))) := HO9.out.next hA10
        have HX10 : Hid (IsRec (W10.alloc (.cells #[.int .i64 q.t, .int .i64 q.n, .string q.s] 25)) (.slice ao (m + 1) cx) (ins p L)) := HX9.out.on hA10
        have c2 := get_any HX10.out HF.out.2.2.2.2.2.2.2.2.2.1 (by rw [HF.out.2.2.2.2.2.2.2.2.1]; unfold maxLen; omega) nm
        rw [(get_look HF.out.2.1).1, (get_look HF.out.2.1).2, h2] at c2
        simp only [lookV, Option.isSome_some, Option.isSome_none, if_true, if_false, Bool.false_eq_true, errV_0, errV_5] at c2
        clear c1 hB10 hA10 HO9 HX9 h2
        go_wp2_with (go_at_call 9; refine c2.mono ?_; rintro e W11 ⟨rfl, hB11⟩; refine Hid.out ?_)
        refine Lib.hid ?_
        obtain ⟨hz, g0, g1, g2⟩ := kept3 hB11
        have HO11 : Hid (OwnP w p W11) := HO10.out.next hB11
        have HX11 : Hid (IsRec W11 (.slice ao (m + 1) cx) (ins p L)) := HX10.out.on hB11
        clear c2 hB11 HO10 HX10
        obtain ⟨⟨p0, p1, p2, p3⟩, hlt, -⟩ := HO11.out
        go_upto_region 24 with fail
        go_cut [146] (fun s146 wx => s146 = .bool false ∧ ∃ n, wx = (W11.alloc (.cells #[.int .i64 p.t, .int .i64 p.n, .string p.s] 25)).drewN n)
        case first =>
          go_quiet (fail)
          go_wp2
          go_meet
          exact ⟨rfl, _, rfl⟩
        case rest =>
        obtain ⟨rfl, n2, rfl⟩ := hcut
        have hA11 : Below W11.heap.size W11 ((W11.alloc (.cells #[.int .i64 p.t, .int .i64 p.n, .string p.s] 25)).drewN n2) := b_drewN (b_alloc (Below.refl _ _) _) _
        have HO12 : Hid (OwnP w p ((W11.alloc (.cells #[.int .i64 p.t, .int .i64 p.n, .string p.s] 25)).drewN n2)) := HO11.out.next hA11
        have HX12 : Hid (IsRec ((W11.alloc (.cells #[.int .i64 p.t, .int .i64 p.n, .string p.s] 25)).drewN n2) (.slice ao (m + 1) cx) (ins p L)) := HX11.out.on hA11
        generalize (W11.alloc (.cells #[.int .i64 p.t, .int .i64 p.n, .string p.s] 25)).drewN n2 = W12 at HO12 HX12 ⊢
        clear p0 p1 p2 p3 hlt g0 g1 g2 hz hA11 HO11 HX11 hb1 hb2
        have cu := unset_any HX12.out HF.out.2.2.2.2.2.2.2.2.2.1 p.nm HF.out.2.1 j HF.out.2.2.2.2.1 HF.out.2.2.2.2.2.1
        rw [HF.out.2.2.2.2.2.2.2.2.1, Nat.add_sub_cancel] at cu
        obtain ⟨⟨p0, p1, p2, p3⟩, hlt, -⟩ := HO12.out
        go_wp2_with (go_at_call 14; refine cu.mono ?_; rintro e W13 ⟨ay, cy, rfl, hY, hB13⟩; refine Hid.out ?_)
        refine Lib.hid ?_
        have HO13 : Hid (OwnP w p W13) := HO12.out.next hB13
        clear p0 p1 p2 p3 hlt cu hB13 HO12 HX12
        obtain ⟨⟨p0, p1, p2, p3⟩, hlt, -⟩ := HO13.out
        have cy2 := get_any hY HF.out.2.2.2.2.2.2.2.2.2.2 (by have := rErr_len HF.out.2.2.2.2.2.2.1; unfold maxLen; omega) p.nm
        rw [(get_look HF.out.2.2.2.2.2.2.1).1, (get_look HF.out.2.2.2.2.2.2.1).2, HF.out.2.2.2.2.2.2.2.1] at cy2
        simp only [lookV, Option.isSome_none, if_false, Bool.false_eq_true, errV_5] at cy2
        clear hY
        go_wp2_with (go_at_call 9; refine cy2.mono ?_; rintro e W14 ⟨rfl, hB14⟩; refine Hid.out ?_)
        refine Lib.hid ?_
        have hA14 : Below W13.heap.size W13 (W14.alloc (.cells #[.int .i64 0, .int .i64 0, .string ⟨#[]⟩] 25)) := b_alloc hB14 _
        have HO14 : Hid (OwnP w p (W14.alloc (.cells #[.int .i64 0, .int .i64 0, .string ⟨#[]⟩] 25))) := HO13.out.next hA14
        have ce := error_any 5 (W14.alloc (.cells #[.int .i64 0, .int .i64 0, .string ⟨#[]⟩] 25)) (hndOn HI.out.2.2.2.2.2.2 HO14.out.2.2)
        rw [errV_5] at ce
        clear p0 p1 p2 p3 hlt cy2 hB14 hA14 HO13
        go_wp2_with (go_at_call 6; refine ce.mono ?_; rintro e W15 ⟨rfl, hB15⟩)
        go_ret
        exact ⟨ret_bool (by simp), on1 HO14.out.2.2 hB15⟩
      · have h2 : look nm.toList (ins p L) = look nm.toList L := HF.out.2.2.2.1 _ hnm
        rw [hq] at h2
        have hb1 : (nm.toList == p.nm.toList) = false := by simpa using fun e => hnm e.symm
        have hb2 : (nm.toList != p.nm.toList) = true := by simpa using fun e => hnm e.symm
        clear hnm hq
        go_wp2_with (go_at_call 9; refine c1.mono ?_; rintro e W10 ⟨rfl, hB10⟩; refine Hid.out ?_)
        refine Lib.hid ?_
        have hA10 : Below W9.heap.size W9 (W10.alloc (.cells #[.int .i64 q.t, .int .i64 q.n, .string q.s] 25)) := b_alloc hB10 _
        have HO10 : Hid (OwnP w p (W10.alloc (.cells #[.int .i64 q.t, .int .i64 q.n, .string q.s] 25))) := HO9.out.next hA10
        have HX10 : Hid (IsRec (W10.alloc (.cells #[.int .i64 q.t, .int .i64 q.n, .string q.s] 25)) (.slice ao (m + 1) cx) (ins p L)) := HX9.out.on hA10
        have c2 := get_any HX10.out HF.out.2.2.2.2.2.2.2.2.2.1 (by rw [HF.out.2.2.2.2.2.2.2.2.1]; unfold maxLen; omega) nm
        rw [(get_look HF.out.2.1).1, (get_look HF.out.2.1).2, h2] at c2
        simp only [lookV, Option.isSome_some, Option.isSome_none, if_true, if_false, Bool.false_eq_true, errV_0, errV_5] at c2
        clear c1 hB10 hA10 HO9 HX9 h2
        go_wp2_with (go_at_call 9; refine c2.mono ?_; rintro e W11 ⟨rfl, hB11⟩; refine Hid.out ?_)
        refine Lib.hid ?_
        obtain ⟨hz, g0, g1, g2⟩ := kept3 hB11
        have HO11 : Hid (OwnP w p W11) := HO10.out.next hB11
        have HX11 : Hid (IsRec W11 (.slice ao (m + 1) cx) (ins p L)) := HX10.out.on hB11
        clear c2 hB11 HO10 HX10
        obtain ⟨⟨p0, p1, p2, p3⟩, hlt, -⟩ := HO11.out
        go_upto_region 24 with fail
        go_cut [146] (fun s146 wx => s146 = .bool false ∧ ∃ n, wx = (W11.alloc (.cells #[.int .i64 q.t, .int .i64 q.n, .string q.s] 25)).drewN n)
        case first =>
          go_quiet (fail)
          go_wp2
          go_meet
          exact ⟨rfl, _, rfl⟩
        case rest =>
        obtain ⟨rfl, n2, rfl⟩ := hcut
        have hA11 : Below W11.heap.size W11 ((W11.alloc (.cells #[.int .i64 q.t, .int .i64 q.n, .string q.s] 25)).drewN n2) := b_drewN (b_alloc (Below.refl _ _) _) _
        have HO12 : Hid (OwnP w p ((W11.alloc (.cells #[.int .i64 q.t, .int .i64 q.n, .string q.s] 25)).drewN n2)) := HO11.out.next hA11
        have HX12 : Hid (IsRec ((W11.alloc (.cells #[.int .i64 q.t, .int .i64 q.n, .string q.s] 25)).drewN n2) (.slice ao (m + 1) cx) (ins p L)) := HX11.out.on hA11
        generalize (W11.alloc (.cells #[.int .i64 q.t, .int .i64 q.n, .string q.s] 25)).drewN n2 = W12 at HO12 HX12 ⊢
        clear p0 p1 p2 p3 hlt g0 g1 g2 hz hA11 HO11 HX11 hb1 hb2
        have cu := unset_any HX12.out HF.out.2.2.2.2.2.2.2.2.2.1 p.nm HF.out.2.1 j HF.out.2.2.2.2.1 HF.out.2.2.2.2.2.1
        rw [HF.out.2.2.2.2.2.2.2.2.1, Nat.add_sub_cancel] at cu
        obtain ⟨⟨p0, p1, p2, p3⟩, hlt, -⟩ := HO12.out
        go_wp2_with (go_at_call 14; refine cu.mono ?_; rintro e W13 ⟨ay, cy, rfl, hY, hB13⟩; refine Hid.out ?_)
        refine Lib.hid ?_
        have HO13 : Hid (OwnP w p W13) := HO12.out.next hB13
        clear p0 p1 p2 p3 hlt cu hB13 HO12 HX12
        obtain ⟨⟨p0, p1, p2, p3⟩, hlt, -⟩ := HO13.out
        have cy2 := get_any hY HF.out.2.2.2.2.2.2.2.2.2.2 (by have := rErr_len HF.out.2.2.2.2.2.2.1; unfold maxLen; omega) p.nm
        rw [(get_look HF.out.2.2.2.2.2.2.1).1, (get_look HF.out.2.2.2.2.2.2.1).2, HF.out.2.2.2.2.2.2.2.1] at cy2
        simp only [lookV, Option.isSome_none, if_false, Bool.false_eq_true, errV_5] at cy2
        clear hY
        go_wp2_with (go_at_call 9; refine cy2.mono ?_; rintro e W14 ⟨rfl, hB14⟩; refine Hid.out ?_)
        refine Lib.hid ?_
        have hA14 : Below W13.heap.size W13 (W14.alloc (.cells #[.int .i64 0, .int .i64 0, .string ⟨#[]⟩] 25)) := b_alloc hB14 _
        have HO14 : Hid (OwnP w p (W14.alloc (.cells #[.int .i64 0, .int .i64 0, .string ⟨#[]⟩] 25))) := HO13.out.next hA14
        have ce := error_any 5 (W14.alloc (.cells #[.int .i64 0, .int .i64 0, .string ⟨#[]⟩] 25)) (hndOn HI.out.2.2.2.2.2.2 HO14.out.2.2)
        rw [errV_5] at ce
        clear p0 p1 p2 p3 hlt cy2 hB14 hA14 HO13
        go_wp2_with (go_at_call 6; refine ce.mono ?_; rintro e W15 ⟨rfl, hB15⟩)
        go_ret
        exact ⟨ret_bool (by simp), on1 HO14.out.2.2 hB15⟩
  · have c1 := set_no (HI.out.1.on HO6.out.2.2) HI.out.2.1 HI.out.2.2.1 p HI.out.2.2.2.1 he
    generalize sErr p L = ee at c1
    obtain ⟨⟨p0, p1, p2, p3⟩, hlt, _⟩ := HO6.out
    clear he
    go_wp2_with (go_at_call 11; refine c1.mono ?_; rintro e W7 ⟨rfl, hB7⟩)
    go_ret
    exact ⟨rfl, on1 HO6.out.2.2 hB7⟩
end Go.Proofs.YtghlncdnnmpikaaGreatDoor
