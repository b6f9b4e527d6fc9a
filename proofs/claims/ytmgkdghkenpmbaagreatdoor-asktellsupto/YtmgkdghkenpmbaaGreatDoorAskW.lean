/-
  The mathematics of a path as text: what is read is printed as it was; what is cut short has the fault of the whole.
-/
import Derived.Test.YtmgkdghkenpmbaaGreatDoorAskV
namespace Go.Proofs.YtmgkdghkenpmbaaGreatDoor
open Go.RowKit
set_option linter.unusedVariables false
set_option linter.unusedSimpArgs false

theorem vw_pre (q : Bool) (r : Nm) : vw q r ++ r.drop (vw q r).length = r := by
  induction r generalizing q with
  | nil => rfl
  | cons c r ih =>
    rw [vw]
    split
    · simp only [List.cons_append, List.length_cons, List.drop_succ_cons]; rw [ih]
    · split
      · rfl
      · simp only [List.cons_append, List.length_cons, List.drop_succ_cons]; rw [ih]
theorem howR_text {r : Nm} (h : ¬ (howR r).2 = 4) : ((howR r).2 = 1 ∨ (howR r).2 = 2 ∨ (howR r).2 = 3) ∧ r = sg (howR r).2 :: (howR r).1 := by
  cases r with
  | nil => exact absurd rfl h
  | cons c q =>
    simp only [howR] at h ⊢
    by_cases h1 : c = 61
    · simp [h1, sg]
    · by_cases h2 : c = 33
      · simp [h1, h2, sg]
      · by_cases h3 : c = 60
        · simp [h1, h2, h3, sg]
        · simp [h1, h2, h3] at h
theorem pTest_text {r r1 : Nm} {x : Tst} (h : pTest r = (r1, some x)) : r = tstT x ++ r1 := by
  by_cases hn : nameT r = []
  · rw [pTest_a hn] at h; simp at h
  · by_cases h4 : (howR (nameD r)).2 = 4
    · rw [pTest_b hn h4] at h
      injection h with e1 e2
      injection e2 with e2
      rw [← e1, ← e2]
      exact (name_cat r).symm
    · rw [pTest_c hn h4] at h
      injection h with e1 e2
      obtain ⟨hh, hr⟩ := howR_text h4
      obtain ⟨v, hv, hx⟩ := Option.map_eq_some_iff.1 e2
      generalize (howR (nameD r)).1 = q at *
      generalize (howR (nameD r)).2 = hw at *
      by_cases hp : (parseL (vw false q)).1 = 0
      · rw [pVal_yes hp] at hv e1
        simp only [Option.some.injEq] at hv e1
        have hsp := (show_parse hp).2
        rw [hv] at hsp
        rw [← hx, ← e1]
        have et : tstT ⟨nameT r, hw, v.1, v.2.1, v.2.2⟩ = nameT r ++ sg hw :: showL v.1 v.2.1 v.2.2 := by unfold tstT; rw [if_neg (by simp only; omega)]
        rw [et, hsp, List.append_assoc, List.cons_append, vw_pre, ← hr, name_cat]
      · rw [pVal_no hp] at hv; simp at hv
theorem pTest_eq {r : Nm} {x : Tst} (h : (pTest r).2 = some x) : r = tstT x ++ (pTest r).1 := pTest_text (by rw [← h])
theorem testsR_text (n : Nat) : ∀ (r : Nm), r.length ≤ n → ∀ ts, (testsR r).2 = some ts → ¬ ts = [] ∧ r = Lib.join (ts.map tstT) [44] ++ 93 :: (testsR r).1 := by
  induction n with
  | zero =>
    intro r hr ts h
    obtain rfl : r = [] := List.eq_nil_of_length_eq_zero (by omega)
    rw [testsR_no (by rfl)] at h; cases h
  | succ n ih =>
    intro r hr ts h
    cases hp : (pTest r).2 with
    | none => rw [testsR_no hp] at h; cases h
    | some y =>
      have hy := pTest_eq hp
      have hlt := tail_lt hp
      by_cases h1 : seesB (pTest r).1 44 = true
      · rw [testsR_on hp h1] at h ⊢
        obtain ⟨l, hl, rfl⟩ := Option.map_eq_some_iff.1 h
        obtain ⟨hl0, hlr⟩ := ih _ (by omega) l hl
        refine ⟨by simp, ?_⟩
        cases l with
        | nil => exact absurd rfl hl0
        | cons z q =>
          rw [List.map_cons, List.map_cons, join_two, List.append_assoc, List.cons_append]
          rw [List.map_cons] at hlr
          simp only
          rw [← hlr, ← sees_true h1]
          exact hy
      · have h1' : seesB (pTest r).1 44 = false := by simpa using h1
        by_cases h2 : seesB (pTest r).1 93 = true
        · rw [testsR_shut hp h1' h2] at h ⊢
          simp only [Option.some.injEq] at h; subst h
          refine ⟨by simp, ?_⟩
          rw [List.map_cons, List.map_nil, Lib.join_one]
          simp only
          rw [← sees_true h2]; exact hy
        · rw [testsR_bad hp h1' (by simpa using h2)] at h; cases h
theorem pTests_text {r : Nm} {ts : List Tst} (h : (pTests r).2 = some ts) : r = tsT ts ++ (pTests r).1 := by
  unfold pTests at h ⊢
  by_cases h1 : seesB r 91 = true
  · rw [if_pos h1] at h ⊢
    obtain ⟨h0, hr⟩ := testsR_text _ r.tail (Nat.le_refl _) ts h
    rw [tsT_ne h0, List.cons_append, List.append_assoc, List.singleton_append, ← hr]
    exact sees_true h1
  · rw [if_neg h1] at h ⊢
    simp only [Option.some.injEq] at h; subst h; rfl
theorem pKind_text {n : Nm} {b : Bool} {r : Nm} {p : St} (h : (pKind n b r).2 = some p) : p.bd = n ∧ p.back = b ∧ r = kdT p ++ (pKind n b r).1 := by
  by_cases hn : nameT r = []
  · rw [pKind_no hn] at h; cases h
  · rw [pKind_yes hn] at h ⊢
    obtain ⟨ts, hts, rfl⟩ := Option.map_eq_some_iff.1 h
    refine ⟨rfl, rfl, ?_⟩
    unfold kdT
    simp only
    rw [List.append_assoc, ← pTests_text hts, name_cat]
theorem takeR_text {ws r r1 : Nm} (h : takeR ws r = (r1, true)) : r = ws ++ r1 := by
  induction ws generalizing r with
  | nil => simp only [takeR, Prod.mk.injEq, and_true] at h; exact h
  | cons c q ih =>
    cases r with
    | nil => simp [takeR] at h
    | cons x y =>
      rw [takeR] at h
      split at h
      · rename_i e; subst e; rw [List.cons_append, ← ih h]
      · simp at h
theorem pBond_text {r r1 n : Nm} {b : Bool} (h : pBond r = (r1, some (n, b))) (kd : Nm) (ts : List Tst) : r = 32 :: (bdT ⟨n, b, kd, ts⟩ ++ 32 :: r1) := by
  by_cases h32 : seesB r 32 = true
  · rw [sees_true h32]
    have hs := sees_true h32
    by_cases h1 : (takeR (ar0 (seesB r.tail 60)) r.tail).2 = true
    · rcases hq : takeR (ar0 (seesB r.tail 60)) r.tail with ⟨q, ok⟩
      rw [hq] at h1; simp only at h1; subst h1
      by_cases h2 : nameT q = []
      · rw [pBond_c h32 (by rw [hq]) (by rw [hq]; exact h2)] at h; simp at h
      · rw [pBond_d h32 hq h2] at h
        injection h with h3 h4
        by_cases ht : (takeR (ar1 (seesB r.tail 60) ++ [32]) (nameD q)).2 = true
        · rw [if_pos ht] at h4
          injection h4 with h4; injection h4 with h4 h5
          have e1 := takeR_text hq
          have e2 := takeR_text (r1 := r1) (show takeR (ar1 (seesB r.tail 60) ++ [32]) (nameD q) = (r1, true) by rw [← h3, ← ht])
          rw [h5] at e1 e2
          have e3 := name_cat q
          rw [h4, e2] at e3
          rw [e1, ← e3]
          unfold bdT; simp
        · rw [if_neg ht] at h4; cases h4
    · rw [pBond_b h32 (by simpa using h1)] at h; simp at h
  · rw [pBond_a (by simpa using h32)] at h; simp at h
theorem stepsR_text (n : Nat) : ∀ (r : Nm), r.length ≤ n → ∀ l, (stepsR false r).2 = some l → r = restT l := by
  induction n with
  | zero =>
    intro r hr l h
    obtain rfl : r = [] := List.eq_nil_of_length_eq_zero (by omega)
    cases hp : (pStep false []).2 with
    | none => rw [stepsR_no hp] at h; cases h
    | some y => have := pStep_len (f := false) (r := []) (by rw [hp]; rfl); simp at this
  | succ n ih =>
    intro r hr l h
    cases hp : (pStep false r).2 with
    | none => rw [stepsR_no hp] at h; cases h
    | some y =>
      have hlt := pStep_len (f := false) (r := r) (by rw [hp]; rfl)
      have hy : r = 32 :: (bdT y ++ 32 :: (kdT y ++ (pStep false r).1)) := by
        rcases hb : pBond r with ⟨r1, _ | ⟨m, b⟩⟩
        · rw [pStep_no hb] at hp; cases hp
        · rw [pStep_yes hb] at hp ⊢
          obtain ⟨k1, k2, k3⟩ := pKind_text hp
          have e := pBond_text hb y.kd y.ts
          rw [← k3]
          rw [e]
          congr 3
          obtain ⟨bd, back, kd, ts⟩ := y
          simp only at k1 k2
          rw [k1, k2]
      by_cases h1 : (pStep false r).1 = []
      · rw [stepsR_end hp h1] at h
        simp only [Option.some.injEq] at h; subst h
        rw [h1] at hy
        exact hy
      · rw [stepsR_on hp h1] at h
        obtain ⟨q, hq, rfl⟩ := Option.map_eq_some_iff.1 h
        have := ih _ (by omega) q hq
        rw [hy]
        simp only [restT]
        rw [← this]
/-- What is read is printed as it was. -/
theorem print_read {r : Nm} {l : List St} (h : (stepsR true r).2 = some l) : r = askT l := by
  cases hp : (pStep true r).2 with
  | none => rw [stepsR_no hp] at h; cases h
  | some y =>
    have hlt := pStep_len (f := true) (r := r) (by rw [hp]; rfl)
    have hy : r = kdT y ++ (pStep true r).1 := by
      have e : pStep true r = pKind [] false r := by unfold pStep; rw [if_pos rfl]
      rw [e] at hp ⊢
      exact (pKind_text hp).2.2
    by_cases h1 : (pStep true r).1 = []
    · rw [stepsR_end hp h1] at h
      simp only [Option.some.injEq] at h; subst h
      rw [askT_cons]
      rw [h1] at hy
      exact hy
    · rw [stepsR_on hp h1] at h
      obtain ⟨q, hq, rfl⟩ := Option.map_eq_some_iff.1 h
      rw [askT_cons, ← stepsR_text _ _ (Nat.le_refl _) q hq]
      exact hy
theorem cap9_stP (f : Bool) (p : St) : stP f (cap9 p) = stP f p := by
  unfold stP
  rw [show (cap9 p).kd = p.kd from rfl, show bdP f (cap9 p) = bdP f p from rfl]
  by_cases h : 8 < p.ts.length
  · rw [if_pos (show 8 < (cap9 p).ts.length by show 8 < (p.ts.take 9).length; rw [List.length_take]; omega), if_pos h]
  · rw [show (cap9 p).ts = p.ts from List.take_of_length_le (by omega)]
theorem cap9_stsP (l : List St) : ∀ f, stsP f (l.map cap9) = stsP f l := by
  induction l with
  | nil => intro f; rfl
  | cons a r ih => intro f; rw [List.map_cons, stsP, stsP, cap9_stP, ih]
/-- What is cut short has the fault of the whole. -/
theorem cap_err (l : List St) : askE (capL l) = askE l := by
  unfold askE
  by_cases h0 : l = []
  · subst h0; rfl
  · have hc0 : ¬ capL l = [] := fun e => by
      have := capL_len l
      rw [e] at this
      have hl : 0 < l.length := List.length_pos_iff.2 h0
      simp only [List.length_nil] at this; omega
    rw [if_neg h0, if_neg hc0, capL_len]
    by_cases h6 : 6 < l.length
    · rw [if_pos h6, if_pos (by omega)]
    · rw [if_neg h6, if_neg (by omega)]
      unfold capL
      rw [List.take_of_length_le (by simp; omega), cap9_stsP]
theorem cap_same {l : List St} (h : askE l = 0) : capL l = l := by
  obtain ⟨h0, h6, hs⟩ := askE_right h
  have hok := stsP_right hs
  unfold capL
  rw [List.take_of_length_le (by simp; omega)]
  conv => rhs; rw [← List.map_id l]
  apply List.map_congr_left
  intro p hp
  obtain ⟨bd, back, kd, ts⟩ := p
  have := (hok _ hp).2.2.1
  simp only at this
  unfold cap9
  simp only [id]
  rw [List.take_of_length_le (by omega)]
end Go.Proofs.YtmgkdghkenpmbaaGreatDoor
