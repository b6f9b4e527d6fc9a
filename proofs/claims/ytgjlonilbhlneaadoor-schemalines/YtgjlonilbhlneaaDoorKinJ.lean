/-
  The walk of kind.checkKind.
-/
import Derived.Test.YtgjlonilbhlneaaDoorKinI
namespace Go.Proofs.YtgjlonilbhlneaaDoor
open Go.RowKit
set_option linter.unusedVariables false
set_option linter.unusedSimpArgs false

theorem IsS.sln {w : World} {v : Value} {l : List Nm} (h : IsS w v l) : ∃ ao c, v = .slice ao l.length c ∧ l.length ≤ maxLen := by
  rcases h with ⟨ao, c, rfl, rfl, _⟩ | ⟨b, off, cap, rfl, h1, h2, _⟩
  · exact ⟨_, _, rfl, by unfold maxLen; simp⟩
  · exact ⟨_, _, rfl, by omega⟩
theorem IsF.sln {w : World} {v : Value} {l : List Fd} (h : IsF w v l) : ∃ ao c, v = .slice ao l.length c ∧ l.length ≤ maxLen := by
  rcases h with ⟨ao, c, rfl, rfl, _⟩ | ⟨b, off, cap, rfl, h1, h2, _⟩
  · exact ⟨_, _, rfl, by unfold maxLen; simp⟩
  · exact ⟨_, _, rfl, by omega⟩

set_option maxHeartbeats 8000000 in
set_option maxRecDepth 100000 in
theorem checkKind_some (b off cap : Nat) (A : List Kd) (k : Kd) (w : World) (hb : b < w.heap.size) (hL : LiesK w b off (A ++ [k])) (hP : Parts w (A ++ [k])) (hS : Small A) (hz : SzK (A ++ [k])) (hn : A.length < 12) (hc : A.length + 1 ≤ cap) (hcm : cap ≤ maxLen) :
    Calls Tryd.prog 17 #[.slice (some ⟨b, off, none⟩) (A.length + 1) cap] w fun e w' => e = .returned (errV (kErr A k)) ∧ Below w.heap.size w w' := by
  obtain ⟨c0, c1, c2⟩ := hL A.length k (by simp)
  have hkP := hP k (by simp)
  obtain ⟨ao, co, evo, hvl⟩ := hkP.1.sln
  obtain ⟨af, cf, evf, hfl⟩ := hkP.2.sln
  rw [evo] at c1
  rw [evf] at c2
  unfold maxLen at hcm hvl hfl
  have hA : IsK w (.slice (some ⟨b, off, none⟩) A.length cap) A := .inr ⟨b, off, cap, rfl, by omega, by unfold maxLen; omega, hb, by have := hL.take A.length; simpa using this⟩
  have ck := fun (W : World) (hB : Below w.heap.size w W) (hSk : Small (A ++ [k])) => kinOf_some b off cap (A ++ [k]) k W (by simp) (Nat.lt_of_lt_of_le hb hB.size) (hL.on hb hB) (hP.on hB) hSk (by simp; omega)
  simp only [List.length_append, List.length_cons, List.length_nil, Nat.zero_add] at ck
  have HH : Hid (IsK w (.slice (some ⟨b, off, none⟩) A.length cap) A ∧ Parts w (A ++ [k]) ∧ Small A ∧ SzK (A ++ [k]) ∧ A.length ≤ 12 ∧ IsS w (.slice ao k.of.length co) k.of ∧ IsF w (.slice af k.fs.length cf) k.fs) := ⟨hA, hP, hS, hz, by omega, by rw [← evo]; exact hkP.1, by rw [← evf]; exact hkP.2⟩
  have HCK : Hid (∀ (W : World) (hB : Below w.heap.size w W) (hSk : Small (A ++ [k])), Calls Tryd.prog 29 #[.slice (some ⟨b, off, none⟩) (A.length + 1) cap] W fun e w' => ∃ v, e = .returned v ∧ w'.ownsRow W.heap.size 33 3 v (kinOf (A ++ [k])).length (cellsK (kinOf (A ++ [k]))) ∧ Below W.heap.size W w') := ck
  have nm := fun w => name_any (bs k.nm) w (by rw [bs_size]; exact (hz k (by simp)).1)
  simp only [bs_data] at nm
  have hw1 : IntKind.i64.wrap ((A.length : Int)) = (A.length : Int) := by rw [IntKind.wrap_i64]; omega
  have hsub : ((A.length : Int) + 1) - 1 = (A.length : Int) := by omega
  have hc1 : (A.length : Int) ≤ (cap : Int) := by omega
  have hbn : ¬ b = w.heap.size := by omega
  have hB0 : Below w.heap.size w (w.alloc (.cells #[.string (bs k.nm), .slice ao k.of.length co, .slice af k.fs.length cf] 33)).drew := (b_alloc (Below.refl _ _) (Nat.le_refl _) _).drew
  have HB0 : Hid (Below w.heap.size w (w.alloc (.cells #[.string (bs k.nm), .slice ao k.of.length co, .slice af k.fs.length cf] 33)).drew) := hB0
  clear hA hP hS hz hL hkP ck hB0 evo evf
  by_cases h1 : nErr k.nm = 0
  · have nm' : ∀ w, Calls Tryd.prog 18 #[.string (bs k.nm)] w fun e w' => e = .returned .nilIface ∧ w' = w := fun w => by
      have := nm w; rw [h1] at this; exact this
    clear nm
    have c1 := index_any (HH.out.1.on HB0.out) HH.out.2.2.2.2.1 k.nm
    rcases idxK_spec k.nm A 0 with hx | ⟨j, q, hx, _, _⟩
    · rw [hx] at c1
      have HX : Hid (nErr k.nm = 0 ∧ idxK k.nm A 0 = -1) := ⟨h1, hx⟩
      clear h1 hx
      by_cases h4 : 4 < k.of.length ∨ 8 < k.fs.length
      · have H : Hid (kErr A k = 4) := by
          show _ = _
          unfold kErr; rw [if_pos HX.out.1, if_pos HX.out.2, if_pos h4]
        have h4' : 4 < k.of.length ∨ (¬ 4 < k.of.length ∧ 8 < k.fs.length) := by omega
        clear h4
        rcases h4' with h4 | ⟨h4, h8⟩
        all_goals
          go_enter Tryd.func17, Tryd.ntmps17
          go_wp2_with fail
          go_region
          go_wp2_with (first | (go_at_call 18; refine (nm' _).mono ?_; rintro e w' ⟨rfl, rfl⟩) | (go_at_call 25; refine c1.mono ?_; rintro e W1 ⟨rfl, hB1⟩; refine Hid.out ?_))
          refine Lib.hid ?_
          have g1 := hB1.cell (p := ⟨w.heap.size, 1, none⟩) (by simp)
          have g2 := hB1.cell (p := ⟨w.heap.size, 2, none⟩) (by simp)
          simp at g1 g2
          go_wp2
          go_ret
          exact ⟨ret_v (by rw [H.out]; rfl), on1 HB0.out hB1 (Nat.le_refl _)⟩
      · have h4a : k.of.length ≤ 4 := by omega
        have h4b : k.fs.length ≤ 8 := by omega
        have h4c : ¬ 4 < k.of.length := by omega
        have h4d : ¬ 8 < k.fs.length := by omega
        have hSk : Small (A ++ [k]) := fun x hx => by
          rcases List.mem_append.1 hx with hx | hx
          · exact HH.out.2.2.1 x hx
          · have : x = k := by simpa using hx
            subst this; exact ⟨h4a, h4b⟩
        have HSk : Hid (Small (A ++ [k]) ∧ ¬ (4 < k.of.length ∨ 8 < k.fs.length)) := ⟨hSk, h4⟩
        clear hSk h4
        go_enter Tryd.func17, Tryd.ntmps17
        go_wp2_with fail
        go_region
        go_wp2_with (first | (go_at_call 18; refine (nm' _).mono ?_; rintro e w' ⟨rfl, rfl⟩) | (go_at_call 25; refine c1.mono ?_; rintro e W1 ⟨rfl, hB1⟩; refine Hid.out ?_))
        refine Lib.hid ?_
        have g1 := hB1.cell (p := ⟨w.heap.size, 1, none⟩) (by simp)
        have g2 := hB1.cell (p := ⟨w.heap.size, 2, none⟩) (by simp)
        simp at g1 g2
        have hBw1 := on1 HB0.out hB1 (Nat.le_refl _)
        have hsz1 : w.heap.size < W1.heap.size := Nat.lt_of_lt_of_le (by simp) hB1.size
        have c2 := checkOf_any (HH.out.1.on hBw1) HH.out.2.2.2.2.1 (HH.out.2.2.2.2.2.1.on hBw1) h4a
        clear c1 nm'
        by_cases h5 : oChk A [] k.of = 0
        · rw [h5, errV_0] at c2
          go_wp2_with (go_at_call 26; refine c2.mono ?_; rintro e W2 ⟨rfl, hB2⟩; refine Hid.out ?_)
          refine Lib.hid ?_
          have hBw2 := on1 hBw1 hB2 (Nat.le_refl _)
          have f2 := (hB2.cell (p := ⟨w.heap.size, 2, none⟩) hsz1).trans g2
          have c3 := checkFields_any (HH.out.2.2.2.2.2.2.on hBw2) (HH.out.2.2.2.1 k (by simp)).2 h4b
          clear c2 g1 g2
          by_cases h6 : fChk none k.fs = 0
          · rw [h6, errV_0] at c3
            go_wp2_with (go_at_call 27; refine c3.mono ?_; rintro e W3 ⟨rfl, hB3⟩; refine Hid.out ?_)
            refine Lib.hid ?_
            have hBw3 := on1 hBw2 hB3 (Nat.le_refl _)
            have c4 := HCK.out W3 hBw3 HSk.out.1
            clear c3 f2
            go_wp2_with (go_at_call 29; refine c4.mono ?_; rintro e W4 ⟨v4, rfl, hown4, hB4⟩; refine Hid.out ?_)
            refine Lib.hid ?_
            have hBw4 := on1 hBw3 hB4 (Nat.le_refl _)
            have hsub4 := kinOf_sub (A ++ [k])
            have c5 := fieldsOf_any (own_isK hown4) ((HH.out.2.1.on hBw4).sub hsub4.1) (fun x hx => HSk.out.1 x (hsub4.1 x hx)) (by have := hsub4.2; simp at this; omega)
            have HE : Hid (kErr A k = aErr (fieldsOf (kinOf (A ++ [k])))) := by
              show _ = _
              unfold kErr; rw [if_pos HX.out.1, if_pos HX.out.2, if_neg HSk.out.2, if_pos h5, if_pos h6]
            clear c4 hown4 hsub4
            cases hF : fieldsOf (kinOf (A ++ [k])) with
            | none =>
              rw [hF] at c5 HE
              clear hF
              go_wp2_with (go_at_call 28; refine c5.mono ?_; rintro e W5 ⟨v5, rfl, hown5, hno5, hB5⟩; obtain rfl := hno5 rfl; refine Hid.out ?_)
              refine Lib.hid ?_
              have hBw5 := on1 hBw4 hB5 (Nat.le_refl _)
              rw [show errV (fErr none) = .iface 48 (.int .i64 7) from rfl]
              go_wp2
              go_ret
              exact ⟨ret_v (by rw [HE.out]; rfl), hBw5⟩
            | some l =>
              rw [hF] at c5 HE
              clear hF
              by_cases h8 : 8 < l.length
              · have HE2 : Hid (kErr A k = 4) := by
                  show _ = _
                  rw [HE.out]; unfold aErr; simp only; rw [if_pos h8]
                go_wp2_with (go_at_call 28; refine c5.mono ?_; rintro e W5 ⟨v5, rfl, hown5, hno5, hB5⟩; obtain ⟨a5, cp5, rfl⟩ := own_slice (hown5 l rfl); refine Hid.out ?_)
                refine Lib.hid ?_
                have hBw5 := on1 hBw4 hB5 (Nat.le_refl _)
                rw [show errV (fErr (some l)) = .nilIface from rfl]
                clear hown5 hno5 c5
                go_wp2
                go_ret
                exact ⟨ret_v (by rw [HE2.out]; rfl), hBw5⟩
              · have HE2 : Hid (kErr A k = 0) := by
                  show _ = _
                  rw [HE.out]; unfold aErr; simp only; rw [if_neg h8]
                go_wp2_with (go_at_call 28; refine c5.mono ?_; rintro e W5 ⟨v5, rfl, hown5, hno5, hB5⟩; obtain ⟨a5, cp5, rfl⟩ := own_slice (hown5 l rfl); refine Hid.out ?_)
                refine Lib.hid ?_
                have hBw5 := on1 hBw4 hB5 (Nat.le_refl _)
                rw [show errV (fErr (some l)) = .nilIface from rfl]
                clear hown5 hno5 c5
                go_wp2
                go_ret
                exact ⟨ret_v (by rw [HE2.out]; rfl), hBw5⟩
          · have H : Hid (kErr A k = fChk none k.fs ∧ ¬ fChk none k.fs = 0) := by
              refine ⟨?_, h6⟩
              unfold kErr; rw [if_pos HX.out.1, if_pos HX.out.2, if_neg HSk.out.2, if_pos h5, if_neg h6]
            rw [errV_ne h6] at c3
            clear h6
            go_wp2_with (go_at_call 27; refine c3.mono ?_; rintro e W3 ⟨rfl, hB3⟩)
            go_ret
            exact ⟨ret_v (by rw [H.out.1, errV_ne H.out.2]; rfl), on1 hBw2 hB3 (Nat.le_refl _)⟩
        · have H : Hid (kErr A k = oChk A [] k.of ∧ ¬ oChk A [] k.of = 0) := by
            refine ⟨?_, h5⟩
            unfold kErr; rw [if_pos HX.out.1, if_pos HX.out.2, if_neg HSk.out.2, if_neg h5]
          rw [errV_ne h5] at c2
          clear h5
          go_wp2_with (go_at_call 26; refine c2.mono ?_; rintro e W2 ⟨rfl, hB2⟩)
          go_ret
          exact ⟨ret_v (by rw [H.out.1, errV_ne H.out.2]; rfl), on1 hBw1 hB2 (Nat.le_refl _)⟩
    · have H : Hid (kErr A k = 7) := by
        show _ = _
        unfold kErr; rw [if_pos h1, if_neg (by omega)]
      rw [hx] at c1
      simp only [Nat.zero_add] at c1
      clear h1 hx
      go_enter Tryd.func17, Tryd.ntmps17
      go_wp2_with fail
      go_region
      go_wp2_with (first | (go_at_call 18; refine (nm' _).mono ?_; rintro e w' ⟨rfl, rfl⟩) | (go_at_call 25; refine c1.mono ?_; rintro e W1 ⟨rfl, hB1⟩))
      go_ret
      exact ⟨ret_v (by rw [H.out]; rfl), on1 HB0.out hB1 (Nat.le_refl _)⟩
  · have nm' : ∀ w, Calls Tryd.prog 18 #[.string (bs k.nm)] w fun e w' => e = .returned (.iface 48 (.int .i64 (nErr k.nm))) ∧ w' = w := fun w => by
      have := nm w; rw [errV_ne h1] at this; exact this
    have H : Hid (kErr A k = nErr k.nm ∧ ¬ nErr k.nm = 0) := by
      refine ⟨?_, h1⟩
      unfold kErr; rw [if_neg h1]
    clear nm h1
    go_enter Tryd.func17, Tryd.ntmps17
    go_wp2_with fail
    go_region
    go_wp2_with (go_at_call 18; refine (nm' _).mono ?_; rintro e w' ⟨rfl, rfl⟩)
    go_ret
    exact ⟨ret_v (by rw [H.out.1, errV_ne H.out.2]; rfl), HB0.out⟩
end Go.Proofs.YtgjlonilbhlneaaDoor
