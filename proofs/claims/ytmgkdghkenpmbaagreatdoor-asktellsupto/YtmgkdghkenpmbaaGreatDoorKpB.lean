/-
  The document's own look at a path: all of it.
-/
import Derived.Test.YtmgkdghkenpmbaaGreatDoorKpA
import Derived.Test.YtmgkdghkenpmbaaGreatDoorAskY
namespace Go.Proofs.YtmgkdghkenpmbaaGreatDoor
open Go.RowKit
set_option linter.unusedVariables false
set_option linter.unusedSimpArgs false

theorem stP8 {f : Bool} {p : St} (h1 : nErr p.kd = 0) (h2 : bdP f p = 0) (h3 : 8 < p.ts.length) : stP f p = 4 := by unfold stP; rw [if_pos h1, if_pos h2, if_pos h3]

set_option maxHeartbeats 8000000 in
set_option maxRecDepth 100000 in
theorem kask_any {v : Value} {M : List Sp} {w : World} (h : IsSp w v M) (hz : ∀ p ∈ M, SpSz p.st) (hM : M.length ≤ maxLen) :
    Calls Tryz.prog 8 #[v] w fun e w' => e = .returned (.int .i64 (askE (M.map Sp.st))) ∧ Below w.heap.size w w' := by
  obtain ⟨av, cv, rfl, hcells⟩ := h
  unfold maxLen at hM
  by_cases h0 : M = []
  · subst h0
    clear hcells
    rw [show askE (([] : List Sp).map Sp.st) = 5 from rfl]
    go_enter Tryz.func8, Tryz.ntmps8
    go_wp2
    go_ret
    exact ⟨rfl, Below.refl _ _⟩
  have hn0 : ¬ ((M.length : Int)) = 0 := fun e => h0 (List.eq_nil_of_length_eq_zero (by omega))
  have hn1 : ((M.length : Int) == 0) = false := by rw [beq_eq_false_iff_ne]; exact hn0
  have hne : ¬ M.map Sp.st = [] := by simpa using h0
  by_cases h6 : 6 < M.length
  · have he : askE (M.map Sp.st) = 4 := by unfold askE; rw [if_neg hne, if_pos (by simpa using h6)]
    rw [he]
    clear he hcells
    go_enter Tryz.func8, Tryz.ntmps8
    go_wp2
    go_ret
    exact ⟨rfl, Below.refl _ _⟩
  · have he : askE (M.map Sp.st) = stsP true (M.map Sp.st) := by unfold askE; rw [if_neg hne, if_neg (by simpa using h6)]
    rw [he]
    obtain ⟨b, off, rfl, hbl, hL⟩ := hcells.resolve_left h0
    have HL := Lib.hid hL
    have HZ := Lib.hid hz
    clear he hL hne hn0 h0 hz hcells
    go_enter Tryz.func8, Tryz.ntmps8
    go_wp2
    go_loopw [3] (fun i wr => ∃ k : Nat, k ≤ M.length ∧ i = .int .i64 (k : Int) ∧ stsP true (M.map Sp.st) = stsP (decide (k = 0)) ((M.map Sp.st).drop k) ∧ Below w.heap.size w wr) (fun i wr => M.length - (intOf i).toNat)
    case atStart => exact ⟨0, Nat.zero_le _, rfl, rfl, Below.refl _ _⟩
    case round =>
      obtain ⟨k, hk, rfl, he, hB⟩ := hrel
      rename World => wo
      have HE := Lib.hid he
      have HB := Lib.hid hB
      clear he
      by_cases hlt : k < M.length
      · obtain ⟨x, hx⟩ : ∃ x, M[k]? = some x := ⟨_, List.getElem?_eq_getElem hlt⟩
        have hxs := HZ.out x (List.mem_of_getElem? hx)
        have hd := stsP_drop hx (decide (k = 0))
        obtain ⟨⟨l0, l1, l2, l3⟩, hT⟩ := (HL.out.on hbl hB) k x hx
        obtain ⟨ta, tc, et⟩ := hT.sl
        obtain ⟨xs, xv⟩ := x
        simp only at et l0 l1 l2 l3 hT hxs hd
        subst et
        have HT0 := Lib.hid hT
        have HT := Lib.hid (hT.on ((Below.refl _ wo).alloc (Nat.le_refl _) (boxP xs ta xs.ts.length tc)))
        have c1 := fun W => rnameB xs.kd hxs.2.1 W
        have c2 := fun W => rnameB xs.bd hxs.1 W
        have HXS := Lib.hid hxs
        have hm := hxs.2.2.1
        unfold maxLen at hm
        clear hT hB hx hxs
        by_cases hk0 : nErr xs.kd = 0
        · rw [hk0] at c1
          rcases Nat.eq_zero_or_pos k with hk1 | hk1
          · have hf : decide (k = 0) = true := by simpa using hk1
            rw [hf] at hd
            have kb1 : ((k : Int) == 0) = true := by rw [beq_iff_eq]; omega
            have kb2 : decide ((0 : Int) < (k : Int)) = false := by simp; omega
            have kb3 : ¬ 0 < k := by omega
            have kb4 : decide (0 < k) = false := by simp; omega
            have kb5 : ¬ (0 : Int) < (k : Int) := by omega
            clear c2 hk1
            by_cases hbd : xs.bd = []
            · by_cases hbk : xs.back = false
              · have hb0 : bdP true xs = 0 := by unfold bdP; rw [if_pos rfl, if_pos ⟨hbd, hbk⟩]
                rw [hbd] at l0
                rw [hbk] at l1
                replace l0 : wo.cell? ⟨b, off + k * 4, none⟩ = some (.string ⟨#[]⟩) := l0
                have HT := Lib.hid (HT0.out.on ((Below.refl _ wo).alloc (Nat.le_refl _) (.cells #[.string ⟨#[]⟩, .bool false, .string (bs xs.kd), .slice ta xs.ts.length tc] 29)))
                clear hbd hbk
                by_cases h8 : 8 < xs.ts.length
                · have HE2 : Hid (stsP true (M.map Sp.st) = 4) := by show _ = _; rw [HE.out, hf, hd, stP8 hk0 hb0 h8]; rfl
                  clear hd hk0 hb0
                  go_wp2_with (go_at_call 17; refine (c1 _).mono ?_; rintro e w' ⟨rfl, rfl⟩; refine Hid.out ?_)
                  refine Lib.hid ?_
                  clear c1
                  go_wp2
                  go_ret
                  exact ⟨ret_v (by rw [HE2.out]; rfl), b_alloc HB.out _⟩
                · have HE3 : Hid (stsP true (M.map Sp.st) = if tsP xs.ts = 0 then stsP false ((M.map Sp.st).drop (k + 1)) else tsP xs.ts) := by show _ = _; rw [HE.out, hf, hd, stP_ok hk0 hb0 h8]
                  clear hd hk0 hb0
                  go_wp2_with (go_at_call 17; refine (c1 _).mono ?_; rintro e w' ⟨rfl, rfl⟩; refine Hid.out ?_)
                  refine Lib.hid ?_
                  clear c1
                  go_wp2
                  go_loopw [5] (fun i wi => ∃ j : Nat, j ≤ xs.ts.length ∧ i = .int .i64 (j : Int) ∧ tsP xs.ts = tsP (xs.ts.drop j) ∧ Below (wo.alloc (.cells #[.string ⟨#[]⟩, .bool false, .string (bs xs.kd), .slice ta xs.ts.length tc] 29)).heap.size (wo.alloc (.cells #[.string ⟨#[]⟩, .bool false, .string (bs xs.kd), .slice ta xs.ts.length tc] 29)) wi) (fun i wi => xs.ts.length - (intOf i).toNat)
                  case atStart => exact ⟨0, Nat.zero_le _, rfl, rfl, Below.refl _ _⟩
                  case round =>
                    obtain ⟨j, hj, rfl, he, hB⟩ := hrel
                    have HF := Lib.hid he
                    have HBi := Lib.hid hB
                    have p3 : wr.cell? ⟨wo.heap.size, 3, none⟩ = some (.slice ta xs.ts.length tc) := cell_at ((hB.block wo.heap.size (by simp)).trans (new_block wo _ 29)) rfl
                    clear he
                    by_cases hjt : j < xs.ts.length
                    · obtain ⟨x, hx⟩ : ∃ x, xs.ts[j]? = some x := ⟨_, List.getElem?_eq_getElem hjt⟩
                      have hxs := HXS.out.2.2.2 x (List.mem_of_getElem? hx)
                      have cP := fun W => kplain_any x W hxs
                      have hd := tsP_drop hx
                      obtain ⟨ao, c', ee, h0 | ⟨bb, boff, rfl, hbbl, hLb⟩⟩ := HT.out.on hB
                      · rw [h0] at hjt; simp at hjt
                      injection ee with e1 e2 e3
                      subst e1
                      obtain ⟨m0, m1, m2, m3, m4⟩ := hLb j x hx
                      clear hLb hB e2 e3 hbbl
                      by_cases hz : tstP x = 0
                      · rw [hz] at cP
                        have HE2 : Hid (tsP xs.ts = tsP (xs.ts.drop (j + 1))) := by show _ = _; rw [HF.out, hd, tsP, if_pos hz]
                        clear hz hd hx hxs
                        go_wp2_with (go_at_call 18; refine (cP _).mono ?_; rintro e W2 ⟨rfl, hB2⟩)
                        go_roundw
                        case rel => exact ⟨j + 1, by omega, by go_num, HE2.out, on1 HBi.out hB2⟩
                        case measure => simp [intOf]; omega
                      · have HE2 : Hid (stsP true (M.map Sp.st) = tstP x) := by
                          have h1 : tsP xs.ts = tstP x := by rw [HF.out, hd, tsP, if_neg hz]
                          show _ = _; rw [HE3.out, h1, if_neg hz]
                        have hzb : (tstP x == 0) = false := by simpa using hz
                        generalize tstP x = z at cP hzb HE2 hz
                        clear hd hx hxs
                        go_wp2_with (go_at_call 18; refine (cP _).mono ?_; rintro e W2 ⟨rfl, hB2⟩)
                        go_ret
                        exact ⟨ret_v (by rw [HE2.out]; rfl), on2 HB.out (on1 HBi.out hB2)⟩
                    · have HE2 : Hid (stsP true (M.map Sp.st) = stsP (decide (k + 1 = 0)) ((M.map Sp.st).drop (k + 1))) := by
                        have h1 : tsP xs.ts = 0 := by rw [HF.out, List.drop_eq_nil_of_le (by omega)]; rfl
                        show _ = _; rw [HE3.out, h1, if_pos rfl]; rfl
                      clear hB
                      go_wp2
                      go_roundw
                      case rel => exact ⟨k + 1, by omega, by go_num, HE2.out, on2 HB.out HBi.out⟩
                      case measure => simp [intOf]; omega

              · have hbk : xs.back = true := by simpa using hbk
                have HE2 : Hid (stsP true (M.map Sp.st) = 3) := by
                  have h1 : bdP true xs = 3 := by unfold bdP; rw [if_pos rfl, if_neg (by rw [hbk]; simp)]
                  have h2 : stP true xs = 3 := by unfold stP; rw [if_pos hk0, h1, if_neg (by decide)]
                  show _ = _; rw [HE.out, hf, hd, h2]; rfl
                rw [hbd] at l0
                rw [hbk] at l1
                replace l0 : wo.cell? ⟨b, off + k * 4, none⟩ = some (.string ⟨#[]⟩) := l0
                clear hd hk0 hbd hbk
                go_wp2_with (first | (go_at_call 17; refine (c1 _).mono ?_; rintro e w' ⟨rfl, rfl⟩))
                go_ret
                exact ⟨ret_v (by rw [HE2.out]; rfl), b_alloc HB.out _⟩
            · have HE2 : Hid (stsP true (M.map Sp.st) = 3) := by
                have h1 : bdP true xs = 3 := by unfold bdP; rw [if_pos rfl, if_neg (fun h => hbd h.1)]
                have h2 : stP true xs = 3 := by unfold stP; rw [if_pos hk0, h1, if_neg (by decide)]
                show _ = _; rw [HE.out, hf, hd, h2]; rfl
              have g1 : ¬ (bs xs.bd).toList = [] := by rw [bs_toList]; exact hbd
              have g2 : (bs xs.bd).toList.isEmpty = false := by rw [bs_toList]; simpa using hbd
              generalize bs xs.bd = qb at g1 g2 l0
              clear hd hk0 hbd
              go_wp2_with (first | (go_at_call 17; refine (c1 _).mono ?_; rintro e w' ⟨rfl, rfl⟩))
              go_ret
              exact ⟨ret_v (by rw [HE2.out]; rfl), b_alloc HB.out _⟩
          · have hf : decide (k = 0) = false := by simp; omega
            rw [hf] at hd
            have kb1 : ((k : Int) == 0) = false := by rw [beq_eq_false_iff_ne]; omega
            have kb2 : decide ((0 : Int) < (k : Int)) = true := by simp; omega
            by_cases hb0 : nErr xs.bd = 0
            · rw [hb0] at c2
              have hb0 : bdP false xs = 0 := by unfold bdP; rw [if_neg (by decide)]; exact hb0
              by_cases h8 : 8 < xs.ts.length
              · have HE2 : Hid (stsP true (M.map Sp.st) = 4) := by show _ = _; rw [HE.out, hf, hd, stP8 hk0 hb0 h8]; rfl
                clear hd hk0 hb0
                go_wp2_with (go_at_call 17; refine (c1 _).mono ?_; rintro e w' ⟨rfl, rfl⟩; refine Hid.out ?_)
                refine Lib.hid ?_
                clear c1
                go_wp2_with (go_at_call 17; refine (c2 _).mono ?_; rintro e w' ⟨rfl, rfl⟩)
                go_ret
                exact ⟨ret_v (by rw [HE2.out]; rfl), b_alloc HB.out _⟩
              · have HE3 : Hid (stsP true (M.map Sp.st) = if tsP xs.ts = 0 then stsP false ((M.map Sp.st).drop (k + 1)) else tsP xs.ts) := by show _ = _; rw [HE.out, hf, hd, stP_ok hk0 hb0 h8]
                clear hd hk0 hb0
                go_wp2_with (go_at_call 17; refine (c1 _).mono ?_; rintro e w' ⟨rfl, rfl⟩; refine Hid.out ?_)
                refine Lib.hid ?_
                clear c1
                go_wp2_with (go_at_call 17; refine (c2 _).mono ?_; rintro e w' ⟨rfl, rfl⟩)
                go_loopw [5] (fun i wi => ∃ j : Nat, j ≤ xs.ts.length ∧ i = .int .i64 (j : Int) ∧ tsP xs.ts = tsP (xs.ts.drop j) ∧ Below (wo.alloc (boxP xs ta xs.ts.length tc)).heap.size (wo.alloc (boxP xs ta xs.ts.length tc)) wi) (fun i wi => xs.ts.length - (intOf i).toNat)
                case atStart => exact ⟨0, Nat.zero_le _, rfl, rfl, Below.refl _ _⟩
                case round =>
                  obtain ⟨j, hj, rfl, he, hB⟩ := hrel
                  have HF := Lib.hid he
                  have HBi := Lib.hid hB
                  have p3 : wr.cell? ⟨wo.heap.size, 3, none⟩ = some (.slice ta xs.ts.length tc) := cell_at ((hB.block wo.heap.size (by simp)).trans (new_block wo _ 29)) rfl
                  clear he
                  by_cases hjt : j < xs.ts.length
                  · obtain ⟨x, hx⟩ : ∃ x, xs.ts[j]? = some x := ⟨_, List.getElem?_eq_getElem hjt⟩
                    have hxs := HXS.out.2.2.2 x (List.mem_of_getElem? hx)
                    have cP := fun W => kplain_any x W hxs
                    have hd := tsP_drop hx
                    obtain ⟨ao, c', ee, h0 | ⟨bb, boff, rfl, hbbl, hLb⟩⟩ := HT.out.on hB
                    · rw [h0] at hjt; simp at hjt
                    injection ee with e1 e2 e3
                    subst e1
                    obtain ⟨m0, m1, m2, m3, m4⟩ := hLb j x hx
                    clear hLb hB e2 e3 hbbl
                    by_cases hz : tstP x = 0
                    · rw [hz] at cP
                      have HE2 : Hid (tsP xs.ts = tsP (xs.ts.drop (j + 1))) := by show _ = _; rw [HF.out, hd, tsP, if_pos hz]
                      clear hz hd hx hxs
                      go_wp2_with (go_at_call 18; refine (cP _).mono ?_; rintro e W2 ⟨rfl, hB2⟩)
                      go_roundw
                      case rel => exact ⟨j + 1, by omega, by go_num, HE2.out, on1 HBi.out hB2⟩
                      case measure => simp [intOf]; omega
                    · have HE2 : Hid (stsP true (M.map Sp.st) = tstP x) := by
                        have h1 : tsP xs.ts = tstP x := by rw [HF.out, hd, tsP, if_neg hz]
                        show _ = _; rw [HE3.out, h1, if_neg hz]
                      have hzb : (tstP x == 0) = false := by simpa using hz
                      generalize tstP x = z at cP hzb HE2 hz
                      clear hd hx hxs
                      go_wp2_with (go_at_call 18; refine (cP _).mono ?_; rintro e W2 ⟨rfl, hB2⟩)
                      go_ret
                      exact ⟨ret_v (by rw [HE2.out]; rfl), on2 HB.out (on1 HBi.out hB2)⟩
                  · have HE2 : Hid (stsP true (M.map Sp.st) = stsP (decide (k + 1 = 0)) ((M.map Sp.st).drop (k + 1))) := by
                      have h1 : tsP xs.ts = 0 := by rw [HF.out, List.drop_eq_nil_of_le (by omega)]; rfl
                      show _ = _; rw [HE3.out, h1, if_pos rfl]; rfl
                    clear hB
                    go_wp2
                    go_roundw
                    case rel => exact ⟨k + 1, by omega, by go_num, HE2.out, on2 HB.out HBi.out⟩
                    case measure => simp [intOf]; omega

            · have hb2 := nErr_2 hb0
              rw [hb2] at c2
              have HE2 : Hid (stsP true (M.map Sp.st) = 2) := by
                have h1 : stP false xs = 2 := by unfold stP; rw [if_pos hk0, if_neg (show ¬ bdP false xs = 0 from hb0)]; exact hb2
                show _ = _; rw [HE.out, hf, hd, h1]; rfl
              clear hd hk0 hb0 hb2
              go_wp2_with (go_at_call 17; refine (c1 _).mono ?_; rintro e w' ⟨rfl, rfl⟩; refine Hid.out ?_)
              refine Lib.hid ?_
              clear c1
              go_wp2_with (go_at_call 17; refine (c2 _).mono ?_; rintro e w' ⟨rfl, rfl⟩)
              go_ret
              exact ⟨ret_v (by rw [HE2.out]; rfl), b_alloc HB.out _⟩
        · have hk2 := nErr_2 hk0
          rw [hk2] at c1
          have HE2 : Hid (stsP true (M.map Sp.st) = 2) := by
            have h1 : stP (decide (k = 0)) xs = 2 := by unfold stP; rw [if_neg hk0]; exact hk2
            show _ = _; rw [HE.out, hd, h1]; rfl
          clear hd hk0 hk2 c2
          go_wp2_with (first | (go_at_call 17; refine (c1 _).mono ?_; rintro e w' ⟨rfl, rfl⟩))
          go_ret
          exact ⟨ret_v (by rw [HE2.out]; rfl), b_alloc HB.out _⟩
      · have HE2 : Hid (stsP true (M.map Sp.st) = 0) := by show _ = _; rw [HE.out, List.drop_eq_nil_of_le (by simp; omega)]; rfl
        clear hB
        go_wp2
        go_ret
        exact ⟨ret_v (by rw [HE2.out]; rfl), HB.out⟩
end Go.Proofs.YtmgkdghkenpmbaaGreatDoor
