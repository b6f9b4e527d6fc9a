/-
  The mathematics of a path as text: what is printed is read as it was, and what is read is printed as it was.
-/
import Derived.Test.YtmgkdghkenpmbaaGreatDoorAskS
namespace Go.Proofs.YtmgkdghkenpmbaaGreatDoor
open Go.RowKit
set_option linter.unusedVariables false
set_option linter.unusedSimpArgs false

/-- It does not begin with a letter. -/
def NoL (r : Nm) : Prop := r = [] ∨ ∃ c q, r = c :: q ∧ isL c = false
theorem nErr_let {l : Nm} (h : nErr l = 0) : ¬ l = [] ∧ ∀ c ∈ l, isL c = true := by
  unfold nErr at h
  split at h
  · exact absurd h (by decide)
  · split at h
    · exact absurd h (by decide)
    · split at h
      · exact absurd h (by decide)
      · rename_i h1 h2 h3
        refine ⟨h1, fun c hc => ?_⟩
        have h4 : hasP noLet l = false := by simpa using h3
        unfold hasP at h4
        rw [List.any_eq_false] at h4
        have := h4 c hc
        unfold isL; simpa using this
theorem take_all {l r : Nm} (h : ∀ c ∈ l, isL c = true) (hr : NoL r) : nameT (l ++ r) = l ∧ nameD (l ++ r) = r := by
  unfold nameT nameD
  induction l with
  | nil =>
    rcases hr with rfl | ⟨c, q, rfl, hc⟩
    · exact ⟨rfl, rfl⟩
    · simp [List.takeWhile_cons, List.dropWhile_cons, hc]
  | cons a t ih =>
    have ha := h a (by simp)
    have := ih (fun c hc => h c (by simp [hc]))
    simp only [List.cons_append, List.takeWhile_cons, List.dropWhile_cons, ha, if_true]
    exact ⟨by rw [this.1], this.2⟩
theorem nm_split {l r : Nm} (h : nErr l = 0) (hr : NoL r) : nameT (l ++ r) = l ∧ nameD (l ++ r) = r := take_all (nErr_let h).2 hr
theorem vw_word (q : Bool) (l r : Nm) (h : ∀ c ∈ l, c ≠ 39 ∧ c ≠ 44 ∧ c ≠ 93) : vw q (l ++ r) = l ++ vw q r := by
  induction l with
  | nil => rfl
  | cons a t ih =>
    obtain ⟨h1, h2, h3⟩ := h a (by simp)
    rw [List.cons_append, vw, if_neg h1, if_neg (by simp [h2, h3]), ih (fun c hc => h c (by simp [hc]))]; rfl
theorem vw_dbl (l r : Nm) : vw true (dbl l ++ r) = dbl l ++ vw true r := by
  induction l with
  | nil => rfl
  | cons a t ih =>
    by_cases h : a = 39
    · simp only [dbl, h, if_true, List.cons_append]
      rw [vw, if_pos rfl, vw, if_pos rfl]; simp [ih]
    · simp only [dbl, h, if_false, List.cons_append]
      rw [vw, if_neg h, if_neg (by simp), ih]
theorem dig_ne {c : UInt8} (h : noDig c = false) : c ≠ 39 ∧ c ≠ 44 ∧ c ≠ 93 := by
  refine ⟨?_, ?_, ?_⟩ <;> (intro e; subst e; revert h; decide)
theorem itoa_ne (n : Int) : ∀ c ∈ Lib.itoa n, c ≠ 39 ∧ c ≠ 44 ∧ c ≠ 93 := by
  have hd := dd_dig n.natAbs
  unfold hasP at hd
  rw [List.any_eq_false] at hd
  intro c hc
  unfold Lib.itoa at hc
  split at hc
  · rcases List.mem_cons.1 hc with rfl | hc
    · decide
    · exact dig_ne (by simpa using hd c hc)
  · rename_i hn
    have e : n.toNat = n.natAbs := by omega
    rw [e] at hc
    exact dig_ne (by simpa using hd c hc)
/-- It begins with a comma or a bracket. -/
def CoB (r : Nm) : Prop := ∃ c q, r = c :: q ∧ (c = 44 ∨ c = 93)
theorem vw_show {t n : Int} {l r : Nm} (h : vErr t n l = 0) (hr : CoB r) : vw false (showL t n l ++ r) = showL t n l := by
  obtain ⟨c, q, rfl, hc⟩ := hr
  have h0 : vw false (c :: q) = [] := by
    rw [vw, if_neg (by rcases hc with rfl | rfl <;> decide), if_pos ⟨hc, rfl⟩]
  rcases vErr_ok h with ⟨rfl, _, _, _⟩ | ⟨rfl, hn, _⟩ | ⟨rfl, _, _, _⟩
  · rw [show showL 1 n l = Lib.itoa n from rfl, vw_word false _ _ (itoa_ne n), h0, List.append_nil]
  · rcases hn with rfl | rfl
    · rw [show showL 2 0 l = [102, 97, 108, 115, 101] from rfl, vw_word false _ _ (by decide), h0, List.append_nil]
    · rw [show showL 2 1 l = [116, 114, 117, 101] from rfl, vw_word false _ _ (by decide), h0, List.append_nil]
  · rw [show showL 3 n l = 39 :: (dbl l ++ [39]) from rfl, List.cons_append, vw, if_pos rfl, List.append_assoc, Bool.not_false, vw_dbl, List.singleton_append, vw, if_pos rfl, Bool.not_true, h0]
theorem howR_sg {h : Int} (hh : h = 1 ∨ h = 2 ∨ h = 3) (r : Nm) : howR (sg h :: r) = (r, h) := by
  rcases hh with rfl | rfl | rfl <;> simp [howR, sg]
theorem howR_cob {r : Nm} (hr : CoB r) : howR r = (r, 4) := by
  obtain ⟨c, q, rfl, hc⟩ := hr
  rcases hc with rfl | rfl <;> simp [howR]
theorem cob_nol {r : Nm} (hr : CoB r) : NoL r := by
  obtain ⟨c, q, rfl, hc⟩ := hr
  exact .inr ⟨c, q, rfl, by rcases hc with rfl | rfl <;> decide⟩
theorem sg_nol {h : Int} (hh : h = 1 ∨ h = 2 ∨ h = 3) (r : Nm) : NoL (sg h :: r) := by
  refine .inr ⟨_, _, rfl, ?_⟩
  rcases hh with rfl | rfl | rfl <;> decide
theorem pTest_print {x : Tst} (h : TstOk x) {r : Nm} (hr : CoB r) : pTest (tstT x ++ r) = (r, some x) := by
  obtain ⟨nm, hw, t, n, s⟩ := x
  have hn := (nErr_let h.1).1
  simp only at hn
  rcases how_ok h.2 with ⟨h4, h5, h6, h7⟩ | ⟨h4, hv⟩
  · simp only at h4 h5 h6 h7
    subst h4; subst h5; subst h6; subst h7
    rw [show tstT ⟨nm, 4, 0, 0, []⟩ = nm from rfl]
    obtain ⟨e1, e2⟩ := nm_split h.1 (cob_nol hr)
    simp only at e1 e2
    rw [pTest_b (by rw [e1]; exact hn) (by rw [e2, howR_cob hr]), e1, e2]
  · simp only at h4 hv
    have et : tstT ⟨nm, hw, t, n, s⟩ = nm ++ sg hw :: showL t n s := by unfold tstT; rw [if_neg (by simp only; omega)]
    rw [et, List.append_assoc, List.cons_append]
    obtain ⟨e1, e2⟩ := nm_split h.1 (sg_nol h4 (showL t n s ++ r))
    simp only at e1 e2
    have ev := vw_show hv hr
    have ep := parse_show hv
    have epv : pVal (showL t n s ++ r) = (r, some (t, n, s)) := by
      rw [pVal_yes (by rw [ev, ep]), ev, ep, List.drop_left]
    rw [pTest_c (by rw [e1]; exact hn) (by rw [e2, howR_sg h4]; simp only; omega), e1, e2, howR_sg h4, epv]; rfl
theorem join_two (x y : Nm) (q : List Nm) (c : UInt8) : Lib.join (x :: y :: q) [c] = x ++ c :: Lib.join (y :: q) [c] := by
  rw [Lib.join_cons, Lib.join_cons]; simp [Lib.joinTail]
theorem testsR_print {ts : List Tst} (h0 : ¬ ts = []) (h : ∀ x ∈ ts, TstOk x) (r : Nm) : testsR (Lib.join (ts.map tstT) [44] ++ 93 :: r) = (r, some ts) := by
  induction ts with
  | nil => exact absurd rfl h0
  | cons x q ih =>
    have hx := h x (by simp)
    cases q with
    | nil =>
      rw [List.map_cons, List.map_nil, Lib.join_one]
      have e := pTest_print hx (r := 93 :: r) ⟨93, r, rfl, .inr rfl⟩
      rw [testsR_shut (x := x) (by rw [e]) (by rw [e]; rfl) (by rw [e]; rfl), e]; rfl
    | cons y q =>
      rw [List.map_cons, List.map_cons, join_two, List.append_assoc, List.cons_append]
      have e := pTest_print hx (r := 44 :: (Lib.join (tstT y :: q.map tstT) [44] ++ 93 :: r)) ⟨44, _, rfl, .inl rfl⟩
      have ih' := ih (by simp) (fun z hz => h z (by simp [hz]))
      rw [List.map_cons] at ih'
      rw [testsR_on (x := x) (by rw [e]) (by rw [e]; rfl), e]
      simp only [List.tail_cons]
      rw [ih']; rfl
theorem pTests_print {ts : List Tst} (h : ∀ x ∈ ts, TstOk x) {r : Nm} (hr : seesB r 91 = false) : pTests (tsT ts ++ r) = (r, some ts) := by
  by_cases h0 : ts = []
  · subst h0
    rw [show tsT [] ++ r = r from rfl]
    unfold pTests; rw [if_neg (by rw [hr]; simp)]
  · rw [tsT_ne h0, List.cons_append, List.append_assoc, List.singleton_append]
    unfold pTests
    rw [if_pos (by rfl), List.tail_cons, testsR_print h0 h]
/-- It is at its end, or a blank follows. -/
def BlE (r : Nm) : Prop := r = [] ∨ ∃ q, r = 32 :: q
theorem ble_sees {r : Nm} (h : BlE r) : seesB r 91 = false := by
  rcases h with rfl | ⟨q, rfl⟩ <;> rfl
theorem ble_nol {r : Nm} (h : BlE r) : NoL r := by
  rcases h with rfl | ⟨q, rfl⟩
  · exact .inl rfl
  · exact .inr ⟨32, q, rfl, by decide⟩
theorem tsT_nol {ts : List Tst} {r : Nm} (h : NoL r) : NoL (tsT ts ++ r) := by
  by_cases h0 : ts = []
  · subst h0; exact h
  · rw [tsT_ne h0]; exact .inr ⟨91, _, rfl, by decide⟩
theorem pKind_print (n : Nm) (b : Bool) {p : St} (h : StOk p) {r : Nm} (hr : BlE r) : pKind n b (kdT p ++ r) = (r, some ⟨n, b, p.kd, p.ts⟩) := by
  unfold kdT
  rw [List.append_assoc]
  obtain ⟨e1, e2⟩ := nm_split h.1 (tsT_nol (ts := p.ts) (ble_nol hr))
  rw [pKind_yes (by rw [e1]; exact (nErr_let h.1).1), e1, e2, pTests_print h.2.2.2 (ble_sees hr)]; rfl
theorem takeR_app (ws r : Nm) : takeR ws (ws ++ r) = (r, true) := by
  induction ws with
  | nil => rfl
  | cons c q ih => rw [List.cons_append, takeR, if_pos rfl, ih]
theorem pBond_print {p : St} (h : nErr p.bd = 0) (r : Nm) : pBond (32 :: (bdT p ++ 32 :: r)) = (r, some (p.bd, p.back)) := by
  obtain ⟨bd, back, kd, ts⟩ := p
  simp only at h
  have hs : seesB (32 :: (bdT ⟨bd, back, kd, ts⟩ ++ 32 :: r)) 32 = true := rfl
  have ht : (32 :: (bdT ⟨bd, back, kd, ts⟩ ++ 32 :: r)).tail = ar0 back ++ (bd ++ (ar1 back ++ [32] ++ r)) := by
    rw [List.tail_cons]; unfold bdT; simp
  have hb : seesB (ar0 back ++ (bd ++ (ar1 back ++ [32] ++ r))) 60 = back := by cases back <;> rfl
  obtain ⟨e1, e2⟩ := nm_split h (r := ar1 back ++ [32] ++ r) (.inr (by cases back <;> exact ⟨45, _, rfl, by decide⟩))
  have := pBond_d (r := 32 :: (bdT ⟨bd, back, kd, ts⟩ ++ 32 :: r)) (q := bd ++ (ar1 back ++ [32] ++ r)) hs (by rw [ht, hb, takeR_app]) (by rw [e1]; exact (nErr_let h).1)
  rw [this, ht, hb, e1, e2, takeR_app]; rfl
/-- The text behind the first step. -/
def restT : List St → Nm
  | [] => []
  | p :: l => 32 :: (bdT p ++ 32 :: (kdT p ++ restT l))
theorem restT_ble (l : List St) : BlE (restT l) := by
  cases l with
  | nil => exact .inl rfl
  | cons p l => exact .inr ⟨_, rfl⟩
theorem askT_cons (p : St) (l : List St) : askT (p :: l) = kdT p ++ restT l := by
  unfold askT
  rw [wds, Lib.join_cons]
  congr 1
  induction l with
  | nil => rfl
  | cons q l ih =>
    simp only [wdsT, restT, Lib.joinTail, List.map_cons, List.flatten_cons] at ih ⊢
    rw [ih]; simp
theorem bdP_false {p : St} (h : bdP false p = 0) : nErr p.bd = 0 := h
theorem stepsR_rest (l : List St) : ∀ p, stsP false (p :: l) = 0 → stepsR false (restT (p :: l)) = ([], some (p :: l)) := by
  induction l with
  | nil =>
    intro p h
    unfold stsP at h
    by_cases h1 : stP false p = 0
    · obtain ⟨q1, q2, q3, q4⟩ := stP_right h1
      have hok : StOk p := ⟨q1, bdP_len q2, q3, tsP_ok q4⟩
      have e : pStep false (restT [p]) = ([], some p) := by
        rw [pStep_yes (show pBond (restT [p]) = (kdT p ++ restT [], some (p.bd, p.back)) from pBond_print (bdP_false q2) _), pKind_print _ _ hok (restT_ble [])]; rfl
      rw [stepsR_end (x := p) (by rw [e]) (by rw [e])]
    · rw [if_neg h1] at h; exact absurd h h1
  | cons q l ih =>
    intro p h
    unfold stsP at h
    by_cases h1 : stP false p = 0
    · rw [if_pos h1] at h
      obtain ⟨q1, q2, q3, q4⟩ := stP_right h1
      have hok : StOk p := ⟨q1, bdP_len q2, q3, tsP_ok q4⟩
      have e : pStep false (restT (p :: q :: l)) = (restT (q :: l), some p) := by
        rw [pStep_yes (show pBond (restT (p :: q :: l)) = (kdT p ++ restT (q :: l), some (p.bd, p.back)) from pBond_print (bdP_false q2) _), pKind_print _ _ hok (restT_ble (q :: l))]
      rw [stepsR_on (x := p) (by rw [e]) (by rw [e]; simp [restT]), e]
      simp only
      rw [ih q h]; rfl
    · rw [if_neg h1] at h; exact absurd h h1
/-- What is printed is read as it was. -/
theorem read_print {l : List St} (h : askE l = 0) : stepsR true (askT l) = ([], some l) := by
  obtain ⟨h0, h6, hs⟩ := askE_right h
  cases l with
  | nil => exact absurd rfl h0
  | cons p l =>
    rw [askT_cons]
    unfold stsP at hs
    by_cases h1 : stP true p = 0
    · rw [if_pos h1] at hs
      obtain ⟨q1, q2, q3, q4⟩ := stP_right h1
      have hok : StOk p := ⟨q1, bdP_len q2, q3, tsP_ok q4⟩
      have hp : p = ⟨[], false, p.kd, p.ts⟩ := by
        unfold bdP at q2
        rw [if_pos rfl] at q2
        by_cases hb : p.bd = [] ∧ p.back = false
        · obtain ⟨bd, back, kd, ts⟩ := p
          simp only at hb ⊢
          rw [hb.1, hb.2]
        · rw [if_neg hb] at q2; exact absurd q2 (by decide)
      have e : pStep true (kdT p ++ restT l) = (restT l, some p) := by
        unfold pStep
        rw [if_pos rfl, pKind_print _ _ hok (restT_ble l), ← hp]
      cases l with
      | nil => rw [stepsR_end (x := p) (by rw [e]) (by rw [e]; rfl)]
      | cons q l =>
        rw [stepsR_on (x := p) (by rw [e]) (by rw [e]; simp [restT]), e]
        simp only
        rw [stepsR_rest l q hs]; rfl
    · rw [if_neg h1] at hs; exact absurd hs h1
end Go.Proofs.YtmgkdghkenpmbaaGreatDoor
