/-
  The specification's Read and the program's Parse give the same.
-/
import Derived.Test.YtmgkdghkenpmbaaGreatDoorTellsG
namespace Go.Proofs.YtmgkdghkenpmbaaGreatDoor
open Go.RowKit
set_option linter.unusedVariables false
set_option linter.unusedSimpArgs false

theorem dec_zero {d : List UInt8} (h : isNum d = true) (h0 : dec d = 0) : d = [48] := by
  cases d with
  | nil => simp [isNum] at h
  | cons c r =>
    simp only [isNum, Bool.and_eq_true, Bool.not_eq_true', Bool.or_eq_true, decide_eq_true_eq, decide_eq_false_iff_not] at h
    obtain ⟨⟨h8, hz⟩, hd⟩ := h
    obtain ⟨m, hm⟩ := dec_of (c :: r) 0 hd
    have hz' : ¬ c = 48 ∨ r = [] := by
      rcases hz with hz | hz
      · exact Or.inl hz
      · exact Or.inr (by simpa using hz)
    have hdec : dec (c :: r) = (m : Int) := by unfold dec; rw [hm]; rfl
    have hdm := dd_of r c m hd hz' hm
    have : m = 0 := by omega
    subst this
    rw [dd_zero] at hdm
    exact hdm.symm
theorem dec_48 : dec [48] = 0 := by decide

theorem rd_text_eq (l : List UInt8) : rdV (rdErr (rdT l)) 3 0 ⟨((rdT l).getD []).toArray⟩ = rdV (ptErr (unqL (39 :: l))) 3 0 ⟨((unqL (39 :: l)).getD []).toArray⟩ := by
  rw [unqL_cons, rdT_eq]
  cases hu : unU l with
  | none => rfl
  | some r =>
    by_cases hb : hasP badB r = true
    · have e1 : prn (some r) = none := by simp [prn, hb]
      have e2 : ptErr (some r) = 2 := by simp [ptErr, hb]
      rw [e1, e2, rdV_ne (by decide), rdV_ne (by decide)]; rfl
    · have e1 : prn (some r) = some r := by simp [prn, hb]
      have e2 : ptErr (some r) = rdErr (some r) := by simp [ptErr, hb, tErr, rdErr]
      rw [e1, e2]

theorem vErr_1_in {n : Int} (h1 : -1000000 ≤ n) (h2 : n ≤ 1000000) : vErr 1 n [] = 0 := by unfold vErr inR; simp; omega
theorem vErr_1_out {n : Int} (h : n < -1000000 ∨ 1000000 < n) : vErr 1 n [] = 1 := by unfold vErr inR; simp; omega

theorem read_any (s : ByteArray) (hs : s.size ≤ 140737488355328) : Gives 57 #[.string s] (rdV (parseL s.data.toList).1 (parseL s.data.toList).2.1 (parseL s.data.toList).2.2.1 ⟨(parseL s.data.toList).2.2.2.toArray⟩) := fun w => by
  by_cases hF : s.data.toList = [102, 97, 108, 115, 101]
  · obtain rfl := list_eq hF
    exact read_false w
  by_cases hT : s.data.toList = [116, 114, 117, 101]
  · obtain rfl := list_eq hT
    exact read_true w
  by_cases hQ : s.data.toList.head? = some 39
  · have hp : parseL s.data.toList = (ptErr (unqL s.data.toList), 3, 0, (unqL s.data.toList).getD []) := by
      unfold parseL; rw [if_neg hF, if_neg hT, if_pos hQ]
    rw [hp]
    have hsz : 0 < s.size := by
      rw [size_len]; cases h : s.data.toList with
      | nil => rw [h] at hQ; simp at hQ
      | cons a b => simp
    have h0 : s[0] = 39 := by
      rw [head_list s hsz] at hQ; simpa using hQ
    have hl := head_list s hsz
    rw [h0] at hl
    have := read_text s w hs hsz h0
    rw [rd_text_eq, ← hl] at this
    exact this
  · have hp : parseL s.data.toList = (piErr s.data.toList, 1, piN s.data.toList, []) := by
      unfold parseL; rw [if_neg hF, if_neg hT, if_neg hQ]
    rw [hp]
    show Calls Tryz.prog 57 #[.string s] w fun e w' => e = .returned (rdV (piErr s.data.toList) 1 (piN s.data.toList) ⟨#[]⟩) ∧ Below w.heap.size w w'
    by_cases hE : s.data.toList = []
    · obtain rfl := list_eq hE
      have e1 : piErr [] = 2 := by decide
      rw [show (⟨[].toArray⟩ : ByteArray).data.toList = [] from rfl, e1, rdV_ne (by decide)]
      exact read_empty w
    · have hsz : 0 < s.size := by rw [size_len]; exact List.length_pos_iff.2 hE
      have hl := head_list s hsz
      have h0 : ¬ s[0] = 39 := by
        intro e; apply hQ; rw [hl, e]; rfl
      have hP : Plain s := ⟨by rw [Lib.toList_data]; simpa using hF, by rw [Lib.toList_data]; simpa using hT, nonE s hE, by rw [Lib.toList_data]; exact hE, hsz, fun _ => ne39 h0⟩
      have hmx : s.size ≤ maxLen := Nat.le_trans hs (by unfold maxLen; decide)
      by_cases hA : 1 < s.size ∧ s[0] = 45
      · obtain ⟨h1, h45⟩ := hA
        have hg : piNeg s.data.toList = true := by rw [hl, h45]; simp [piNeg, Lib.hasPrefix]
        have hd : piDig s.data.toList = s.data.toList.drop 1 := by
          unfold piDig Lib.trimPrefix; rw [if_pos (by simpa [piNeg] using hg)]; rfl
        have htl := tailB_list s
        have htz : (tailB s).size ≤ maxLen := by rw [size_len, htl, List.length_drop, ← size_len]; omega
        have hnum := fun w => number_any (tailB s) w htz
        rw [htl, ← hd] at hnum
        by_cases hn : isNum (piDig s.data.toList) = true
        · obtain ⟨_, hd0, hd1, _⟩ := isNum_dec hn
          rw [numV_ok hn, hn] at hnum
          by_cases hz : dec (piDig s.data.toList) = 0
          · have e48 := dec_zero hn hz
            have eE : piErr s.data.toList = 2 := by unfold piErr piBad; simp [hg, e48]
            rw [eE, rdV_ne (by decide), ← rdV_ne (e := 2) (by decide) 1 0 ⟨#[]⟩]
            exact read_less s (tailB s) _ true w hs hP h1 h45 (fun w => slice_tail s w (by omega)) hnum 2 0 (Or.inr (Or.inl ⟨rfl, hz, rfl, rfl⟩))
          · have ne48 : ¬ piDig s.data.toList = [48] := fun e => hz (by rw [e, dec_48])
            have eN : piN s.data.toList = -(dec (piDig s.data.toList)) := by unfold piN; rw [if_pos hg]
            have eB : piBad s.data.toList = false := by unfold piBad; simp [hn, ne48]
            have eE : piErr s.data.toList = vErr 1 (piN s.data.toList) [] := by unfold piErr; rw [eB]; rfl
            by_cases hb : 1000000 < dec (piDig s.data.toList)
            · rw [eE, eN, vErr_1_out (by omega), rdV_ne (by decide), ← rdV_ne (e := 1) (by decide) 1 0 ⟨#[]⟩]
              exact read_less s (tailB s) _ true w hs hP h1 h45 (fun w => slice_tail s w (by omega)) hnum 1 0 (Or.inr (Or.inr (Or.inl ⟨rfl, hb, by omega, rfl, rfl⟩)))
            · rw [eE, eN, vErr_1_in (by omega) (by omega)]
              exact read_less s (tailB s) _ true w hs hP h1 h45 (fun w => slice_tail s w (by omega)) hnum 0 _ (Or.inr (Or.inr (Or.inr ⟨rfl, by omega, by omega, rfl, rfl⟩)))
        · have hn' : isNum (piDig s.data.toList) = false := by simpa using hn
          rw [numV_no hn', hn'] at hnum
          have eE : piErr s.data.toList = 2 := by unfold piErr piBad; simp [hn']
          rw [eE, rdV_ne (by decide), ← rdV_ne (e := 2) (by decide) 1 0 ⟨#[]⟩]
          exact read_less s (tailB s) _ false w hs hP h1 h45 (fun w => slice_tail s w (by omega)) hnum 2 0 (Or.inl ⟨rfl, rfl, rfl⟩)
      · have hB : ¬ 1 < s.size ∨ (1 < s.size ∧ ∀ h : 0 < s.size, ¬ (s[0].toNat : Int) = 45) := by
          by_cases h1 : 1 < s.size
          · refine Or.inr ⟨h1, fun _ e => hA ⟨h1, ?_⟩⟩
            have e2 : s[0].toNat = 45 := by omega
            exact UInt8.toNat_inj.1 e2
          · exact Or.inl h1
        have hnum := fun w => number_any s w hmx
        by_cases hn : isNum s.data.toList = true
        · have hne : ¬ s[0] = 45 := by
            intro e
            have hd : hasP noDig s.data.toList = false := by
              rw [hl] at hn ⊢
              simp only [isNum, Bool.and_eq_true, Bool.not_eq_true'] at hn
              exact hn.2
            rw [hl, e, hasP_cons] at hd
            simp [show noDig 45 = true by decide] at hd
          have hg : piNeg s.data.toList = false := by
            rw [hl]; simp only [piNeg, Lib.hasPrefix, List.isPrefixOf, Bool.and_true]; simpa using fun h => hne (Eq.symm h)
          have hd : piDig s.data.toList = s.data.toList := by
            unfold piDig Lib.trimPrefix; rw [if_neg (by have := hg; unfold piNeg at this; simp [this])]
          obtain ⟨_, hd0, hd1, _⟩ := isNum_dec hn
          rw [numV_ok hn, hn] at hnum
          have eN : piN s.data.toList = dec s.data.toList := by unfold piN; rw [if_neg (by simp [hg]), hd]
          have eB : piBad s.data.toList = false := by unfold piBad; rw [hd, hn, hg]; rfl
          have eE : piErr s.data.toList = vErr 1 (piN s.data.toList) [] := by unfold piErr; rw [eB]; rfl
          by_cases hb : 1000000 < dec s.data.toList
          · rw [eE, eN, vErr_1_out (by omega), rdV_ne (by decide), ← rdV_ne (e := 1) (by decide) 1 0 ⟨#[]⟩]
            exact read_more s _ true w hs hP hB hnum 1 0 (Or.inr (Or.inl ⟨rfl, hb, by omega, rfl, rfl⟩))
          · rw [eE, eN, vErr_1_in (by omega) (by omega)]
            exact read_more s _ true w hs hP hB hnum 0 _ (Or.inr (Or.inr ⟨rfl, by omega, by omega, rfl, rfl⟩))
        · have hn' : isNum s.data.toList = false := by simpa using hn
          rw [numV_no hn', hn'] at hnum
          have eE : piErr s.data.toList = 2 := by
            unfold piErr
            rw [if_pos]
            unfold piBad
            by_cases h45 : s[0] = 45
            · have hs1 : s.data.toList.drop 1 = [] := by
                apply List.eq_nil_of_length_eq_zero
                rw [List.length_drop, ← size_len]
                have : ¬ 1 < s.size := fun h => hA ⟨h, h45⟩
                omega
              have : piDig s.data.toList = [] := by
                rw [hl, h45, hs1]; decide
              rw [this]; rfl
            · have hg : piNeg s.data.toList = false := by
                rw [hl]; simp only [piNeg, Lib.hasPrefix, List.isPrefixOf, Bool.and_true]; simpa using fun h => h45 (Eq.symm h)
              have hd : piDig s.data.toList = s.data.toList := by
                unfold piDig Lib.trimPrefix; rw [if_neg (by have := hg; unfold piNeg at this; simp [this])]
              rw [hd, hn']; rfl
          rw [eE, rdV_ne (by decide), ← rdV_ne (e := 2) (by decide) 1 0 ⟨#[]⟩]
          exact read_more s _ false w hs hP hB hnum 2 0 (Or.inl ⟨rfl, rfl, rfl⟩)
end Go.Proofs.YtmgkdghkenpmbaaGreatDoor
