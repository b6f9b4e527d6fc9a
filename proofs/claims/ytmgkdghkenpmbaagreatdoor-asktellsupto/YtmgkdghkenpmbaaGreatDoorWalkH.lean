/-
  The walks of package value: isNumber, parseInt.
-/
import Derived.Test.YtmgkdghkenpmbaaGreatDoorWalkG
import Derived.Lib.AtoiErrMem
namespace Go.Proofs.YtmgkdghkenpmbaaGreatDoor
open Go.RowKit
set_option linter.unusedVariables false
set_option linter.unusedSimpArgs false

/-- Digits, not too many, without a needless 0 ahead. -/
def isNum : List UInt8 → Bool
  | [] => false
  | c :: r => decide (r.length ≤ 8) && (!decide (c = 48) || r.isEmpty) && !hasP noDig (c :: r)
/-- The number that digits make. -/
def dec (l : List UInt8) : Int := ((Lib.decFrom 0 l).getD 0 : Nat)

theorem eq48 {c : UInt8} (h : ¬ c = 48) : ¬ (c.toNat : Int) = 48 := by
  intro e
  apply h
  have e2 : c.toNat = 48 := by omega
  exact UInt8.toNat_inj.1 e2

set_option maxHeartbeats 2000000 in
set_option maxRecDepth 100000 in
theorem isNumber_any (s : ByteArray) (w : World) (hs : s.size ≤ maxLen) :
    Calls Tryz.prog 102 #[.string s] w fun e w' => e = .returned (.bool (isNum s.data.toList)) ∧ w' = w := by
  by_cases h0 : 0 < s.size
  · have hl := head_list s h0
    have hsz := size_len s
    have hdl : s.size = (s.data.toList.drop 1).length + 1 := by rw [hsz, List.length_drop]; omega
    have hE : s.toList.isEmpty = false := by rw [Lib.toList_data, hl]; simp
    have hN : ¬ s.toList = [] := by rw [Lib.toList_data, hl]; simp
    by_cases h9 : 9 < s.size
    · have H1 : Hid (isNum s.data.toList = false) := by
        show _ = _
        rw [hl]; simp [isNum]; omega
      clear hl hsz hdl
      unfold maxLen at hs
      go_enter Tryz.func102, Tryz.ntmps102
      go_wp2
      go_ret
      exact ⟨ret_bool (by rw [H1.out]), rfl⟩
    · by_cases hz : s[0] = 48
      · by_cases h1 : 1 < s.size
        · have H1 : Hid (isNum s.data.toList = false) := by
            show _ = _
            have hne : ¬ s.data.toList.drop 1 = [] := by intro e; rw [e] at hdl; simp at hdl; omega
            rw [hl, hz]
            generalize s.data.toList.drop 1 = r at hne
            cases r with
            | nil => exact absurd rfl hne
            | cons a b => simp [isNum]
          clear hl hsz hdl
          go_enter Tryz.func102, Tryz.ntmps102
          go_wp2
          go_ret
          exact ⟨ret_bool (by rw [H1.out]), rfl⟩
        · have H1 : Hid (isNum s.data.toList = !hasP noDig s.data.toList) := by
            show _ = _
            have hne : s.data.toList.drop 1 = [] := by apply List.eq_nil_of_length_eq_zero; omega
            rw [hl, hne]; simp [isNum]
          clear hl hsz hdl
          go_enter Tryz.func102, Tryz.ntmps102
          go_wp2_with (go_at_call 52; refine (anyDig s _ hs).mono ?_; rintro e w' ⟨rfl, rfl⟩)
          go_ret
          exact ⟨ret_bool (by rw [H1.out]), rfl⟩
      · have H1 : Hid (isNum s.data.toList = !hasP noDig s.data.toList) := by
          show _ = _
          have : (s.data.toList.drop 1).length ≤ 8 := by omega
          rw [hl]; simp only [isNum, hz, this]; simp
        have hz' := eq48 hz
        clear hl hsz hdl hz
        go_enter Tryz.func102, Tryz.ntmps102
        go_wp2_with (go_at_call 52; refine (anyDig s _ hs).mono ?_; rintro e w' ⟨rfl, rfl⟩)
        go_ret
        exact ⟨ret_bool (by rw [H1.out]), rfl⟩
  · have hl : s.data.toList = [] := by apply List.eq_nil_of_length_eq_zero; rw [← size_len]; omega
    obtain rfl := nil_of_empty s hl
    go_enter Tryz.func102, Tryz.ntmps102
    go_wp2
    go_ret
    exact ⟨rfl, rfl⟩

theorem dec_of (l : List UInt8) : ∀ acc, hasP noDig l = false → ∃ m, Lib.decFrom acc l = some m := by
  induction l with
  | nil => intro acc _; exact ⟨acc, rfl⟩
  | cons c r ih =>
    intro acc h
    have h1 : noDig c = false ∧ hasP noDig r = false := by simpa [hasP] using h
    have hd : Lib.digitVal c = some (c.toNat - 48) := by
      have := h1.1; unfold noDig at this; simp at this
      unfold Lib.digitVal; rw [if_pos (by omega)]
    obtain ⟨m, hm⟩ := ih (acc * 10 + (c.toNat - 48)) h1.2
    exact ⟨m, by simp only [Lib.decFrom, hd]; exact hm⟩
theorem isNum_dec {l : List UInt8} (h : isNum l = true) : Lib.atoi l = some (dec l) ∧ 0 ≤ dec l ∧ dec l < 1000000000 ∧ l.length ≤ 9 := by
  cases l with
  | nil => simp [isNum] at h
  | cons c r =>
    simp only [isNum, Bool.and_eq_true, Bool.not_eq_true', decide_eq_true_eq] at h
    obtain ⟨⟨h8, _⟩, hd⟩ := h
    obtain ⟨m, hm⟩ := dec_of (c :: r) 0 hd
    have hlt := Lib.decFrom_lt _ _ _ hm
    have hp : 10 ^ (c :: r).length ≤ 10 ^ 9 := Nat.pow_le_pow_right (by decide) (by simp; omega)
    have hdec : dec (c :: r) = (m : Int) := by unfold dec; rw [hm]; rfl
    have hcr : noDig c = false ∧ hasP noDig r = false := by simpa [hasP] using hd
    have hc := hcr.1
    unfold noDig at hc; simp at hc
    have n45 : ¬ c = 45 := by intro e; rw [e] at hc; simp at hc
    have n43 : ¬ c = 43 := by intro e; rw [e] at hc; simp at hc
    refine ⟨?_, by omega, by omega, by simp; omega⟩
    rw [hdec]
    simp [Lib.atoi, n45, n43, Lib.decNat, hm]

/-- Below 0? -/
def piNeg (l : List UInt8) : Bool := Lib.hasPrefix l [45]
/-- What follows the sign. -/
def piDig (l : List UInt8) : List UInt8 := Lib.trimPrefix l [45]
/-- No number. -/
def piBad (l : List UInt8) : Bool := !isNum (piDig l) || (piNeg l && decide (piDig l = [48]))
/-- The number. -/
def piN (l : List UInt8) : Int := if piNeg l = true then -(dec (piDig l)) else dec (piDig l)
/-- The fault of a number's text. -/
def piErr (l : List UInt8) : Int := if piBad l = true then 2 else vErr 1 (piN l) []

theorem vErr_1 (n : Int) : vErr 1 n [] = 0 ∨ vErr 1 n [] = 1 := by
  unfold vErr; rw [if_pos (by omega)]; split <;> simp

set_option maxHeartbeats 2000000 in
set_option maxRecDepth 100000 in
theorem parseInt_any (s : ByteArray) (w : World) (hs : s.size ≤ maxLen) :
    Calls Tryz.prog 92 #[.string s] w fun e w' => e = .returned (resV (piErr s.data.toList) 1 (piN s.data.toList) ⟨#[]⟩) ∧ Below w.heap.size w w' := by
  have hcp := fun w => Tryz.strings_CutPrefix s ⟨#[45]⟩ w
  rw [show (⟨#[45]⟩ : ByteArray).data.toList = [45] from rfl] at hcp
  change ∀ w, Calls Tryz.prog 101 _ w fun e w' => e = .returned (.tuple #[.string ⟨(piDig s.data.toList).toArray⟩, .bool (piNeg s.data.toList)]) ∧ w' = w at hcp
  have hdl : (piDig s.data.toList).length ≤ s.size := by
    rw [size_len]; unfold piDig Lib.trimPrefix; split
    · simp
    · exact Nat.le_refl _
  have hq : (⟨(piDig s.data.toList).toArray⟩ : ByteArray).size ≤ maxLen := by
    show (piDig s.data.toList).toArray.size ≤ _
    rw [List.size_toArray]; omega
  have hin := fun w => isNumber_any ⟨(piDig s.data.toList).toArray⟩ w hq
  rw [show (⟨(piDig s.data.toList).toArray⟩ : ByteArray).data.toList = piDig s.data.toList from rfl] at hin
  by_cases hn : isNum (piDig s.data.toList) = true
  · obtain ⟨ha, hd0, hd1, hd9⟩ := isNum_dec hn
    have hat0 := fun w => Tryz.strconv_Atoi ⟨(piDig s.data.toList).toArray⟩ _ (by show (piDig s.data.toList).toArray.size ≤ _; rw [List.size_toArray]; omega) ha w
    have hsm : (⟨#[]⟩ : ByteArray).size ≤ maxLen := by unfold maxLen; decide
    have hck : ∀ n w, Calls Tryz.prog 100 #[.agg #[.int .i64 1, .int .i64 n, .string ⟨#[]⟩]] w fun e w' => e = .returned (resV (vErr 1 n []) 1 n ⟨#[]⟩) ∧ Below w.heap.size w w' := fun n w => checked_any 1 n ⟨#[]⟩ w hsm
    have hat : ∀ w, Calls Tryz.prog 103 #[.string ⟨(piDig s.data.toList).toArray⟩] w fun e w' => e = .returned (.tuple #[.int .i64 (dec (piDig s.data.toList)), .nilIface]) ∧ Below w.heap.size w w' := fun w => (hat0 w).mono fun e w' ⟨he, u, hu⟩ => ⟨he, by rw [hu]; exact Lib.bytesWorld_below _ _ _⟩
    clear hat0 hsm
    by_cases hg : piNeg s.data.toList = true
    · by_cases h48 : piDig s.data.toList = [48]
      · have H1 : Hid (piErr s.data.toList = 2) := by
          show _ = _
          unfold piErr piBad; simp [hg, h48]
        rw [h48] at hcp hin hn
        rw [hg] at hcp
        clear ha hd0 hd1 hd9 hat hck hq hdl hg h48
        go_enter Tryz.func92, Tryz.ntmps92
        go_wp2_with (first | (go_at_call 101; refine (hcp _).mono ?_; rintro e w' ⟨rfl, rfl⟩) | (go_at_call 102; refine (hin _).mono ?_; rintro e w' ⟨rfl, rfl⟩))
        exact bodyPost_ret (v := .tuple #[val 0 0 ⟨#[]⟩, errV 2]) (by simp [results, Tryz.results92, go_sem, val, errV]) rfl ⟨ret_v (by rw [H1.out]; rfl), (Below.refl _ _).alloc (Nat.le_refl _) _⟩
      · have H1 : Hid (piErr s.data.toList = vErr 1 (-(dec (piDig s.data.toList))) [] ∧ piN s.data.toList = -(dec (piDig s.data.toList))) := by
          show _ ∧ _
          unfold piErr piBad piN; simp [hg, hn, h48]
        have hB48 : ((⟨(piDig s.data.toList).toArray⟩ : ByteArray).toList == [48]) = false := by
          rw [Lib.toList_data]; simpa using h48
        rw [hg] at hcp
        rw [H1.out.1, H1.out.2]
        clear H1 ha hd9 hq hdl hg h48
        generalize (⟨(piDig s.data.toList).toArray⟩ : ByteArray) = q at hcp hin hat hB48
        generalize isNum (piDig s.data.toList) = bn at hin hn
        subst hn
        generalize dec (piDig s.data.toList) = m at hd0 hd1 hat ⊢
        have hc2 := hck (-m)
        clear hck
        rcases vErr_1 (-m) with h | h
        · rw [h, show resV 0 1 (-m) ⟨#[]⟩ = .tuple #[.agg #[.int .i64 1, .int .i64 (-m), .string ⟨#[]⟩], .nilIface] from rfl] at hc2 ⊢
          go_enter Tryz.func92, Tryz.ntmps92
          go_wp2_with (first | (go_at_call 101; refine (hcp _).mono ?_; rintro e w' ⟨rfl, rfl⟩) | (go_at_call 102; refine (hin _).mono ?_; rintro e w' ⟨rfl, rfl⟩) | (go_at_call 103; refine (hat _).mono ?_; rintro e W1 ⟨rfl, hb1⟩) | (go_at_call 100; refine (hc2 _).mono ?_; rintro e W2 ⟨rfl, hb2⟩; obtain ⟨hc, hf⟩ := bcell (hb1.trans (hb2.mono hb1.size))))
          exact bodyPost_ret (v := .tuple #[val 1 (-m) ⟨#[]⟩, .nilIface]) (by simp [results, Tryz.results92, go_sem, val, hc]) rfl ⟨rfl, below3 (hb1.trans (hb2.mono hb1.size))⟩
        · rw [h, show resV 1 1 (-m) ⟨#[]⟩ = .tuple #[.agg #[.int .i64 0, .int .i64 0, .string ⟨#[]⟩], .iface 48 (.int .i64 1)] from rfl] at hc2 ⊢
          go_enter Tryz.func92, Tryz.ntmps92
          go_wp2_with (first | (go_at_call 101; refine (hcp _).mono ?_; rintro e w' ⟨rfl, rfl⟩) | (go_at_call 102; refine (hin _).mono ?_; rintro e w' ⟨rfl, rfl⟩) | (go_at_call 103; refine (hat _).mono ?_; rintro e W1 ⟨rfl, hb1⟩) | (go_at_call 100; refine (hc2 _).mono ?_; rintro e W2 ⟨rfl, hb2⟩; obtain ⟨hc, hf⟩ := bcell (hb1.trans (hb2.mono hb1.size))))
          exact bodyPost_ret (v := .tuple #[val 0 0 ⟨#[]⟩, .iface 48 (.int .i64 1)]) (by simp [results, Tryz.results92, go_sem, val, hc]) rfl ⟨rfl, below3 (hb1.trans (hb2.mono hb1.size))⟩
    · have hg' : piNeg s.data.toList = false := by simpa using hg
      have H1 : Hid (piErr s.data.toList = vErr 1 (dec (piDig s.data.toList)) [] ∧ piN s.data.toList = dec (piDig s.data.toList)) := by
        show _ ∧ _
        unfold piErr piBad piN; simp [hg', hn]
      rw [hg'] at hcp
      rw [H1.out.1, H1.out.2]
      clear H1 ha hd9 hq hdl hg hg'
      generalize (⟨(piDig s.data.toList).toArray⟩ : ByteArray) = q at hcp hin hat
      generalize isNum (piDig s.data.toList) = bn at hin hn
      subst hn
      generalize dec (piDig s.data.toList) = m at hd0 hd1 hat ⊢
      have hc2 := hck m
      clear hck
      rcases vErr_1 m with h | h
      · rw [h, show resV 0 1 m ⟨#[]⟩ = .tuple #[.agg #[.int .i64 1, .int .i64 m, .string ⟨#[]⟩], .nilIface] from rfl] at hc2 ⊢
        go_enter Tryz.func92, Tryz.ntmps92
        go_wp2_with (first | (go_at_call 101; refine (hcp _).mono ?_; rintro e w' ⟨rfl, rfl⟩) | (go_at_call 102; refine (hin _).mono ?_; rintro e w' ⟨rfl, rfl⟩) | (go_at_call 103; refine (hat _).mono ?_; rintro e W1 ⟨rfl, hb1⟩) | (go_at_call 100; refine (hc2 _).mono ?_; rintro e W2 ⟨rfl, hb2⟩; obtain ⟨hc, hf⟩ := bcell (hb1.trans (hb2.mono hb1.size))))
        exact bodyPost_ret (v := .tuple #[val 1 m ⟨#[]⟩, .nilIface]) (by simp [results, Tryz.results92, go_sem, val, hc]) rfl ⟨rfl, below3 (hb1.trans (hb2.mono hb1.size))⟩
      · rw [h, show resV 1 1 m ⟨#[]⟩ = .tuple #[.agg #[.int .i64 0, .int .i64 0, .string ⟨#[]⟩], .iface 48 (.int .i64 1)] from rfl] at hc2 ⊢
        go_enter Tryz.func92, Tryz.ntmps92
        go_wp2_with (first | (go_at_call 101; refine (hcp _).mono ?_; rintro e w' ⟨rfl, rfl⟩) | (go_at_call 102; refine (hin _).mono ?_; rintro e w' ⟨rfl, rfl⟩) | (go_at_call 103; refine (hat _).mono ?_; rintro e W1 ⟨rfl, hb1⟩) | (go_at_call 100; refine (hc2 _).mono ?_; rintro e W2 ⟨rfl, hb2⟩; obtain ⟨hc, hf⟩ := bcell (hb1.trans (hb2.mono hb1.size))))
        exact bodyPost_ret (v := .tuple #[val 0 0 ⟨#[]⟩, .iface 48 (.int .i64 1)]) (by simp [results, Tryz.results92, go_sem, val, hc]) rfl ⟨rfl, below3 (hb1.trans (hb2.mono hb1.size))⟩
  · have hn' : isNum (piDig s.data.toList) = false := by simpa using hn
    have H1 : Hid (piErr s.data.toList = 2) := by
      show _ = _
      unfold piErr piBad; simp [hn']
    generalize piDig s.data.toList = d at hcp hin hn' hdl
    generalize piNeg s.data.toList = g at hcp
    clear hn hdl
    go_enter Tryz.func92, Tryz.ntmps92
    go_wp2_with (first | (go_at_call 101; refine (hcp _).mono ?_; rintro e w' ⟨rfl, rfl⟩) | (go_at_call 102; refine (hin _).mono ?_; rintro e w' ⟨rfl, rfl⟩))
    exact bodyPost_ret (v := .tuple #[val 0 0 ⟨#[]⟩, errV 2]) (by simp [results, Tryz.results92, go_sem, val, errV]) rfl ⟨ret_v (by rw [H1.out]; rfl), (Below.refl _ _).alloc (Nat.le_refl _) _⟩
end Go.Proofs.YtmgkdghkenpmbaaGreatDoor
