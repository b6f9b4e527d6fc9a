/-
  The mathematics of SchemaTells: what kinref1 reads as a field is what package schema does.
-/
import Derived.Test.YtlcpmdmpkfibdaaGreatDoorM27
namespace Go.Proofs.YtlcpmdmpkfibdaaGreatDoor
open Go.RowKit
set_option linter.unusedVariables false
set_option linter.unusedSimpArgs false

/-- What stands behind the colon: the type's word, must, key. -/
def mkR (x : Nm) : Nm × Bool × Bool := if x.getLast? = some 42 then (x.dropLast, true, true) else if x.getLast? = some 33 then (x.dropLast, true, false) else (x, false, false)
/-- A word as a field, as kinref1 reads it. -/
def rFd (l : Nm) : Option Fd := match pcs 58 l with
  | [a, x] => if wrd a = true ∧ ¬ tyO (mkR x).1 = 0 then some ⟨a, tyO (mkR x).1, (mkR x).2.1, (mkR x).2.2⟩ else none
  | _ => none
theorem hs_iff (x : Nm) (c : UInt8) : Lib.hasSuffix x [c] = true ↔ x.getLast? = some c := by
  unfold Lib.hasSuffix
  rw [List.isSuffixOf_iff_suffix, List.getLast?_eq_some_iff]
  constructor
  · rintro ⟨y, rfl⟩; exact ⟨y, rfl⟩
  · rintro ⟨y, rfl⟩; exact ⟨y, rfl⟩
theorem ts_yes {x : Nm} {c : UInt8} (h : x.getLast? = some c) : Lib.trimSuffix x [c] = x.dropLast := by
  unfold Lib.trimSuffix
  rw [if_pos ((hs_iff x c).2 h), List.dropLast_eq_take]
  rfl
theorem ts_no {x : Nm} {c : UInt8} (h : ¬ x.getLast? = some c) : Lib.trimSuffix x [c] = x := by
  unfold Lib.trimSuffix
  rw [if_neg (fun e => h ((hs_iff x c).1 e))]
theorem mk_eq (l : Nm) : mkR (restF l) = (typF l, mustF l, keyF l) := by
  have hk : keyF l = Lib.hasSuffix (restF l) [42] := rfl
  unfold mkR typF mustF
  by_cases h1 : (restF l).getLast? = some 42
  · have h2 : keyF l = true := by rw [hk]; exact (hs_iff _ _).2 h1
    rw [if_pos h1, h2, if_pos rfl, if_pos rfl, ts_yes h1]
  · have h2 : keyF l = false := by
      rw [hk, Bool.eq_false_iff]; exact fun e => h1 ((hs_iff _ _).1 e)
    rw [if_neg h1, h2, ts_no h1]
    simp only [Bool.false_eq_true, if_false]
    by_cases h3 : (restF l).getLast? = some 33
    · rw [if_pos h3, ts_yes h3, (hs_iff _ _).2 h3]
    · rw [if_neg h3, ts_no h3]
      have : Lib.hasSuffix (restF l) [33] = false := by rw [Bool.eq_false_iff]; exact fun e => h3 ((hs_iff _ _).1 e)
      rw [this]
theorem tyO_no {y : Nm} (h : ¬ tyO y = 0) : (58 : UInt8) ∉ y := by
  unfold tyO at h
  split at h
  · rename_i e; rw [e]; decide
  · split at h
    · rename_i e; rw [e]; decide
    · split at h
      · rename_i e; rw [e]; decide
      · exact absurd rfl h
theorem mk_no {x : Nm} (h : ¬ tyO (mkR x).1 = 0) : (58 : UInt8) ∉ x := by
  have h1 := tyO_no h
  have key : ∀ c : UInt8, c ≠ 58 → x.getLast? = some c → (58 : UInt8) ∉ x.dropLast → (58 : UInt8) ∉ x := fun c hc hl hd hm => by
    obtain ⟨y, rfl⟩ := List.getLast?_eq_some_iff.1 hl
    rw [List.dropLast_concat] at hd
    rcases List.mem_append.1 hm with h | h
    · exact hd h
    · rw [List.mem_singleton] at h; exact hc h.symm
  unfold mkR at h1
  split at h1
  · rename_i e; exact key 42 (by decide) e h1
  · split at h1
    · rename_i e; exact key 33 (by decide) e h1
    · exact h1
theorem fd_same (l : Nm) : rFd l = if fdOk l = true then some (fdOf l) else none := by
  have he : fdOk l = (wrd (Lib.cut l [58]).1 && !(tyO (mkR (restF l)).1 == 0)) := by
    unfold fdOk areN
    rw [mk_eq, wrd_eq]
    simp
  have hf : fdOf l = ⟨(Lib.cut l [58]).1, tyO (mkR (restF l)).1, (mkR (restF l)).2.1, (mkR (restF l)).2.2⟩ := by
    rw [mk_eq]; rfl
  by_cases hm : (58 : UInt8) ∈ l
  · obtain ⟨a, s, rfl, ha⟩ := List.eq_append_cons_of_mem hm
    have hc := cut_app s ha
    have hr : restF (a ++ 58 :: s) = s := by unfold restF; rw [hc]
    rw [he, hf, hr, hc]
    unfold rFd
    rw [pcs_app s ha]
    by_cases hs : (58 : UInt8) ∈ s
    · obtain ⟨a', s', rfl, ha'⟩ := List.eq_append_cons_of_mem hs
      obtain ⟨b, t, e⟩ := List.exists_cons_of_ne_nil (pcs_ne 58 s')
      rw [pcs_app s' ha', e]
      have : tyO (mkR (a' ++ 58 :: s')).1 = 0 := Classical.byContradiction fun h => mk_no h hs
      rw [this]
      simp
    · rw [pcs_one hs]
      simp only [Bool.and_eq_true, Bool.not_eq_true', beq_eq_false_iff_ne, ne_eq]
  · have hc : Lib.cut l [58] = (l, [], false) := by
      by_cases h0 : 0 ≤ Lib.index l [58]
      · have := cut_found h0
        exact absurd (by rw [← this]; simp) hm
      · unfold Lib.cut; rw [if_neg h0]
    have hr : restF l = [] := by unfold restF; rw [hc]
    rw [he, hr]
    unfold rFd
    rw [pcs_one hm]
    have : tyO (mkR []).1 = 0 := by decide
    rw [this]
    simp
end Go.Proofs.YtlcpmdmpkfibdaaGreatDoor

/-
  The mathematics of SchemaTells: what kinref1 reads of a line is what package schema does.
-/
namespace Go.Proofs.YtlcpmdmpkfibdaaGreatDoor
open Go.RowKit
set_option linter.unusedVariables false
set_option linter.unusedSimpArgs false

/-- A line of a bond, as kinref1 reads it. -/
def rBd : List Nm → Option Bd
  | [k, a, b, c, x, y] => if ((k == wBond) && wrd a && wrd b && wrd c && (numB x).2 && ((y == wAny) || (numB y).2)) = true then some ⟨a, b, c, (numB x).1, if (y == wAny) = true then -1 else (numB y).1⟩ else none
  | _ => none
/-- A line of a kind, as kinref1 reads it. -/
def rKd (Wd : List Nm) (B : List Bd) : Option (Nm × List Nm × List Fd) := match kdOf Wd with
  | none => none
  | some q => if (B.isEmpty && wrd q.1 && q.2.1.all wrd && q.2.2.all fun l => (rFd l).isSome) = true then some (q.1, q.2.1, q.2.2.filterMap rFd) else none
theorem areN_all (L : List Nm) : areN L = L.all wrd := by
  unfold areN
  induction L with
  | nil => rfl
  | cons x r ih =>
    rw [List.any_cons, List.all_cons, Bool.not_or, ih, wrd_eq]
theorem fd_some (l : Nm) : (rFd l).isSome = fdOk l := by
  rw [fd_same]
  cases fdOk l <;> rfl
theorem fd_map (ls : List Nm) (h : ls.all fdOk = true) : ls.filterMap rFd = ls.map fdOf := by
  induction ls with
  | nil => rfl
  | cons x r ih =>
    rw [List.all_cons, Bool.and_eq_true] at h
    have e : rFd x = some (fdOf x) := by rw [fd_same, if_pos h.1]
    rw [List.filterMap_cons_some e, List.map_cons, ih h.2]
theorem kd_same (Wd : List Nm) (B : List Bd) : rKd Wd B = (kdLine Wd B).map fun q => (q.1, q.2.1, q.2.2.map fdOf) := by
  unfold rKd kdLine
  cases h : kdOf Wd with
  | none => rfl
  | some q =>
    have e1 : (q.2.2.all fun l => (rFd l).isSome) = q.2.2.all fdOk := by
      congr 1; funext l; exact fd_some l
    have e2 : (B.isEmpty && wrd q.1 && q.2.1.all wrd && q.2.2.all fun l => (rFd l).isSome) = (kdGood q && B.isEmpty) := by
      unfold kdGood
      rw [areN_all, areN_all, e1, List.all_cons, List.all_nil, Bool.and_true]
      cases B.isEmpty <;> simp
    simp only [e2]
    by_cases hg : (kdGood q && B.isEmpty) = true
    · rw [if_pos hg, if_pos hg]
      have hf : q.2.2.all fdOk = true := by
        unfold kdGood at hg
        simp only [Bool.and_eq_true] at hg
        exact hg.1.2
      rw [fd_map _ hf]
      rfl
    · rw [if_neg hg, if_neg hg]
      rfl
theorem bd_same (Wd : List Nm) : rBd Wd = if (bdOf Wd).2 = true then some (bdOf Wd).1 else none := by
  rcases Wd with _ | ⟨k, _ | ⟨a, _ | ⟨b, _ | ⟨c, _ | ⟨x, _ | ⟨y, _ | ⟨z, r⟩⟩⟩⟩⟩⟩⟩
  all_goals try rfl
  have e : bdOf [k, a, b, c, x, y] = if (k == wBond && areN [a, b, c]) = true then (⟨a, b, c, (numP x).1, if (y == wAny) = true then -1 else (numP y).1⟩, (numP x).2 && (if (y == wAny) = true then true else (numP y).2)) else (bdZ, false) := rfl
  have ea : areN [a, b, c] = (wrd a && wrd b && wrd c) := by
    rw [areN_all]; simp [Bool.and_assoc]
  have er : rBd [k, a, b, c, x, y] = if ((k == wBond) && wrd a && wrd b && wrd c && (numB x).2 && ((y == wAny) || (numB y).2)) = true then some ⟨a, b, c, (numB x).1, if (y == wAny) = true then -1 else (numB y).1⟩ else none := rfl
  rw [er, e, ea, num_ok x, num_ok y]
  by_cases h1 : (k == wBond && (wrd a && wrd b && wrd c)) = true
  · rw [if_pos h1]
    have h1' : ((k == wBond) && wrd a && wrd b && wrd c) = true := by
      rw [Bool.and_assoc, Bool.and_assoc, ← Bool.and_assoc (wrd a)]; exact h1
    rw [h1', Bool.true_and]
    cases hx : (numP x).2
    · simp
    · have ex := num_same hx
      cases hy : (y == wAny)
      · cases hz : (numP y).2
        · simp
        · have ey := num_same hz
          simp [ex, ey]
      · simp [ex]
  · rw [if_neg h1]
    have h1' : ((k == wBond) && wrd a && wrd b && wrd c) = false := by
      rw [Bool.and_assoc, Bool.and_assoc, ← Bool.and_assoc (wrd a)]; simpa using h1
    rw [h1']
    simp
/-- A line, as kinref1 reads it. -/
def rLine (P : List (Nm × List Nm × List Fd)) (B : List Bd) (Wd : List Nm) : Option (List (Nm × List Nm × List Fd) × List Bd) :=
  match rKd Wd B with
  | some q => some (P ++ [q], B)
  | none => match rBd Wd with
    | some x => some (P, B ++ [x])
    | none => none
theorem kd_not_bd {Wd : List Nm} (h : (bdOf Wd).2 = true) (B : List Bd) : rKd Wd B = none := by
  rw [kd_same]
  have hk : kdOf Wd = none := by
    rcases Wd with _ | ⟨k, _ | ⟨a, _ | ⟨b, _ | ⟨c, _ | ⟨x, _ | ⟨y, _ | ⟨z, r⟩⟩⟩⟩⟩⟩⟩
    all_goals try (cases h; done)
    apply kdOf_no
    by_cases hk : k = wKind
    · subst hk
      have e : (wKind == wBond) = false := by decide
      have : (bdOf [wKind, a, b, c, x, y]).2 = false := by
        have e2 : bdOf [wKind, a, b, c, x, y] = if (wKind == wBond && areN [a, b, c]) = true then (⟨a, b, c, (numP x).1, if (y == wAny) = true then -1 else (numP y).1⟩, (numP x).2 && (if (y == wAny) = true then true else (numP y).2)) else (bdZ, false) := rfl
        rw [e2, e]; rfl
      rw [this] at h; cases h
    · simpa using hk
  unfold kdLine
  rw [hk]
  rfl
/-- The lists of the program stop at thirteen. -/
theorem al_same (P : List (Nm × List Nm × List Fd)) (B : List Bd) (Wd : List Nm) (P' : List (Nm × List Nm × List Fd)) (B' : List Bd) (hP : P' = P.take 13) (hB : B' = B.take 13) :
    alStep P' B' Wd = (rLine P B Wd).map fun st => (st.1.take 13, st.2.take 13) := by
  have one : ∀ {α : Type} (l : List α) (x : α), oneMore (l.take 13) x = (l ++ [x]).take 13 := fun l x => by
    unfold oneMore
    by_cases h : 12 < l.length
    · rw [if_pos (by simp; omega), List.take_append_of_le_length (by omega)]
    · rw [if_neg (by simp; omega), List.take_of_length_le (by omega), List.take_of_length_le (by simp; omega)]
  have hem : B'.isEmpty = B.isEmpty := by
    rw [hB]; cases B <;> rfl
  have hkd : rKd Wd B' = rKd Wd B := by
    unfold rKd; rw [hem]
  unfold alStep rLine
  by_cases hb : (bdOf Wd).2 = true
  · rw [if_pos hb, kd_not_bd hb B, bd_same, if_pos hb, hP, hB, one]
    rfl
  · rw [if_neg hb, bd_same, if_neg hb, ← hkd, kd_same]
    cases kdLine Wd B' with
    | none => rfl
    | some q =>
      rw [hP, hB]
      show some (oneMore (P.take 13) _, _) = _
      rw [one]
      rfl
end Go.Proofs.YtlcpmdmpkfibdaaGreatDoor

/-
  The mathematics of SchemaTells: what kinref1 reads of a text's pieces is what package schema makes of its lines.
-/
namespace Go.Proofs.YtlcpmdmpkfibdaaGreatDoor
open Go.RowKit
set_option linter.unusedVariables false
set_option linter.unusedSimpArgs false

/-- The pieces of a text, read one by one: what they make, or the one that is wrong. -/
def rGo : List (Nm × List Nm × List Fd) → List Bd → Nat → List Nm → Except Nat (List (Nm × List Nm × List Fd) × List Bd)
  | P, B, _, [] => .ok (P, B)
  | P, B, i, [z] => if z = [] then .ok (P, B) else .error i
  | P, B, i, y :: y' :: r => match rLine P B (pcs 32 y) with
    | none => .error i
    | some st => rGo st.1 st.2 (i + 1) (y' :: r)
theorem rGo_cons (P : List (Nm × List Nm × List Fd)) (B : List Bd) (i : Nat) (y : Nm) (ws : List Nm) (z : Nm) : rGo P B i (y :: (ws ++ [z])) = match rLine P B (pcs 32 y) with
    | none => .error i
    | some st => rGo st.1 st.2 (i + 1) (ws ++ [z]) := by
  cases ws with
  | nil => rfl
  | cons a r => rfl
theorem ln_yes (st : List (Nm × List Nm × List Fd) × List Bd) (w : Nm) : lnStep st (w ++ [10]) = alStep st.1 st.2 (pcs 32 w) := by
  unfold lnStep
  have h : (w ++ [10]).getLast? = some 10 := by simp
  rw [if_pos ((hs_iff _ _).2 h), ts_yes h, wordsL_eq, List.dropLast_concat]
theorem ln_no (st : List (Nm × List Nm × List Fd) × List Bd) {z : Nm} (h : (10 : UInt8) ∉ z) : lnStep st z = none := by
  unfold lnStep
  rw [if_neg]
  intro e
  obtain ⟨y, rfl⟩ := List.getLast?_eq_some_iff.1 ((hs_iff _ _).1 e)
  exact h (by simp)
/-- Lines out of pieces. -/
def lnOf (ws : List Nm) (z : Nm) : List Nm := (ws.map fun w => w ++ [10]) ++ (if z = [] then [] else [z])
/-- What lines make, from a state on. -/
def lnFrom (st : List (Nm × List Nm × List Fd) × List Bd) (ys : List Nm) : Option (List (Nm × List Nm × List Fd) × List Bd) := ys.foldl (fun o y => o.bind fun st => lnStep st y) (some st)
theorem lnFrom_cons (st : List (Nm × List Nm × List Fd) × List Bd) (y : Nm) (ys : List Nm) : lnFrom st (y :: ys) = match lnStep st y with
    | none => none
    | some s2 => lnFrom s2 ys := by
  unfold lnFrom
  rw [List.foldl_cons]
  show List.foldl _ (lnStep st y) ys = _
  cases lnStep st y with
  | none =>
    induction ys with
    | nil => rfl
    | cons a r ih => exact ih
  | some s2 => rfl
/-- They agree. -/
theorem go_same (z : Nm) (hz : (10 : UInt8) ∉ z) : ∀ (ws : List Nm) (P : List (Nm × List Nm × List Fd)) (B : List Bd) (i : Nat), match rGo P B i (ws ++ [z]) with
    | .ok st => lnFrom (P.take 13, B.take 13) (lnOf ws z) = some (st.1.take 13, st.2.take 13)
    | .error k => lnFrom (P.take 13, B.take 13) (lnOf ws z) = none ∧ ∃ pre y rest st, lnOf ws z = pre ++ y :: rest ∧ i + pre.length = k ∧ lnFrom (P.take 13, B.take 13) pre = some st ∧ lnStep st y = none
  | [], P, B, i => by
    by_cases h : z = []
    · subst h
      simp [rGo, lnOf, lnFrom]
    · have e : rGo P B i ([] ++ [z]) = .error i := by simp [rGo, h]
      rw [e]
      have e2 : lnOf [] z = [z] := by simp [lnOf, h]
      show lnFrom _ _ = none ∧ _
      rw [e2]
      refine ⟨?_, [], z, [], _, rfl, rfl, rfl, ln_no _ hz⟩
      rw [lnFrom_cons, ln_no _ hz]
  | y :: ws, P, B, i => by
    have e0 : lnOf (y :: ws) z = (y ++ [10]) :: lnOf ws z := rfl
    have es : lnStep (P.take 13, B.take 13) (y ++ [10]) = (rLine P B (pcs 32 y)).map fun st => (st.1.take 13, st.2.take 13) := by
      rw [ln_yes]; exact al_same P B _ _ _ rfl rfl
    rw [List.cons_append, rGo_cons]
    cases hr : rLine P B (pcs 32 y) with
    | none =>
      rw [hr] at es
      show lnFrom _ _ = none ∧ _
      rw [e0]
      refine ⟨by rw [lnFrom_cons, es]; rfl, [], y ++ [10], lnOf ws z, _, rfl, rfl, rfl, es⟩
    | some st =>
      rw [hr] at es
      have ih := go_same z hz ws st.1 st.2 (i + 1)
      have ef : ∀ ys, lnFrom (P.take 13, B.take 13) ((y ++ [10]) :: ys) = lnFrom (st.1.take 13, st.2.take 13) ys := fun ys => by
        rw [lnFrom_cons, es]; rfl
      show match rGo st.1 st.2 (i + 1) (ws ++ [z]) with
        | .ok s2 => lnFrom (P.take 13, B.take 13) (lnOf (y :: ws) z) = some (s2.1.take 13, s2.2.take 13)
        | .error k => lnFrom (P.take 13, B.take 13) (lnOf (y :: ws) z) = none ∧ ∃ pre y1 rest s1, lnOf (y :: ws) z = pre ++ y1 :: rest ∧ i + pre.length = k ∧ lnFrom (P.take 13, B.take 13) pre = some s1 ∧ lnStep s1 y1 = none
      cases hg : rGo st.1 st.2 (i + 1) (ws ++ [z]) with
      | ok s2 =>
        rw [hg] at ih
        show lnFrom _ _ = _
        rw [e0, ef]; exact ih
      | error k =>
        rw [hg] at ih
        obtain ⟨i1, pre, y1, rest, s1, i2, i3, i4, i5⟩ := ih
        show lnFrom _ _ = none ∧ _
        refine ⟨by rw [e0, ef]; exact i1, (y ++ [10]) :: pre, y1, rest, s1, by rw [e0, i2]; rfl, by simp; omega, by rw [ef]; exact i4, i5⟩
end Go.Proofs.YtlcpmdmpkfibdaaGreatDoor

/-
  The mathematics of SchemaTells: a whole text.
-/
namespace Go.Proofs.YtlcpmdmpkfibdaaGreatDoor
open Go.RowKit
set_option linter.unusedVariables false
set_option linter.unusedSimpArgs false

theorem idxB_no {l : Nm} {c : UInt8} (h : c ∉ l) : Lib.indexByte l c = -1 := by
  induction l with
  | nil => rfl
  | cons x r ih =>
    have h1 : ¬ x = c := fun e => h (by rw [e]; exact List.mem_cons_self ..)
    have h2 := ih (fun hh => h (List.mem_cons_of_mem _ hh))
    unfold Lib.indexByte
    rw [if_neg (by simpa using h1), h2]
    rfl
theorem linesF_nil (k : Nat) : linesF k [] = [] := by
  cases k with
  | zero => rfl
  | succ k => unfold linesF; rw [if_pos rfl]
theorem lines_last {z : Nm} (h : (10 : UInt8) ∉ z) : linesL z = if z = [] then [] else [z] := by
  by_cases hz : z = []
  · subst hz; rfl
  · rw [if_neg hz]
    unfold linesL
    obtain ⟨k, hk⟩ : ∃ k, z.length = k + 1 := ⟨z.length - 1, by have := List.length_pos_iff.2 hz; omega⟩
    rw [hk]
    unfold linesF
    have e : cutL z = (z, []) := by unfold cutL; rw [if_pos (idxB_no h)]
    rw [if_neg hz, e, linesF_nil]
theorem lines_pcs : ∀ (n : Nat) (t : Nm), t.length ≤ n → ∃ ws z, pcs 10 t = ws ++ [z] ∧ (10 : UInt8) ∉ z ∧ linesL t = lnOf ws z
  | n, t, hn => by
    by_cases hm : (10 : UInt8) ∈ t
    · obtain ⟨a, s, rfl, ha⟩ := List.eq_append_cons_of_mem hm
      match n, hn with
      | 0, hn => simp at hn
      | n + 1, hn =>
        obtain ⟨ws, z, h1, h2, h3⟩ := lines_pcs n s (by simp at hn; omega)
        exact ⟨a :: ws, z, by rw [pcs_app s ha, h1]; rfl, h2, by rw [linesL_app ha, h3]; rfl⟩
    · exact ⟨[], t, by rw [pcs_one hm]; rfl, hm, by rw [lines_last hm]; rfl⟩
/-- What kinref1 reads of a text is what package schema's lines make. -/
theorem read_same (t : Nm) : match rGo [] [] 0 (pcs 10 t) with
    | .ok st => lnFold (linesL t) = some (st.1.take 13, st.2.take 13)
    | .error k => lnFold (linesL t) = none ∧ ∃ pre y rest st, linesL t = pre ++ y :: rest ∧ pre.length = k ∧ lnFold pre = some st ∧ lnStep st y = none := by
  obtain ⟨ws, z, h1, h2, h3⟩ := lines_pcs t.length t (Nat.le_refl _)
  have h := go_same z h2 ws [] [] 0
  rw [h1, h3]
  cases hg : rGo [] [] 0 (ws ++ [z]) with
  | ok st => rw [hg] at h; exact h
  | error k =>
    rw [hg] at h
    obtain ⟨i1, pre, y, rest, st, i2, i3, i4, i5⟩ := h
    exact ⟨i1, pre, y, rest, st, i2, by omega, i4, i5⟩
end Go.Proofs.YtlcpmdmpkfibdaaGreatDoor

/-
  What is wrong with a schema hangs on what its kinds say alone; names that are read are no longer than the text.
-/
namespace Go.Proofs.YtlcpmdmpkfibdaaGreatDoor
set_option linter.unusedVariables false
set_option linter.unusedSimpArgs false

/-- A kind without its slices. -/
def Kd.cz (k : Kd) : Kd := ⟨k.nm, k.of, k.fs, .nilIface, .nilIface⟩
theorem idxK_c (nm : Nm) : ∀ (L : List Kd) (i : Nat), idxK nm (L.map Kd.cz) i = idxK nm L i
  | [], _ => rfl
  | k :: r, i => by
    rw [List.map_cons, idxK, idxK, idxK_c nm r]
    rfl
theorem oChk_c (A : List Kd) : ∀ (of seen : List Nm), oChk (A.map Kd.cz) seen of = oChk A seen of
  | [], _ => rfl
  | n :: r, seen => by rw [oChk, oChk, idxK_c, oChk_c A r]
theorem back_c : ∀ (L : List Kd) (ns : List Nm), back (L.map Kd.cz) ns = (back L ns).map Kd.cz
  | [], _ => rfl
  | k :: r, ns => by
    rw [List.map_cons, back, back]
    show (if hasN ns k.nm = true then k.cz :: back (r.map Kd.cz) (ns ++ k.of) else back (r.map Kd.cz) ns) = _
    rw [back_c r, back_c r]
    split <;> rfl
theorem kinOf_c (L : List Kd) : kinOf (L.map Kd.cz) = (kinOf L).map Kd.cz := by
  unfold kinOf
  rw [List.getLast?_map]
  cases L.getLast? with
  | none => rfl
  | some k =>
    show (back (L.map Kd.cz).reverse [k.nm]).reverse = ((back L.reverse [k.nm]).reverse).map Kd.cz
    rw [← List.map_reverse, back_c, List.map_reverse]
theorem fieldsOf_c (K : List Kd) : fieldsOf (K.map Kd.cz) = fieldsOf K := by
  unfold fieldsOf
  rw [List.flatMap_map]
  rfl
theorem kErr_c (A : List Kd) (k : Kd) : kErr (A.map Kd.cz) k.cz = kErr A k := by
  have e : kinOf (A.map Kd.cz ++ [k.cz]) = (kinOf (A ++ [k])).map Kd.cz := by rw [← kinOf_c, List.map_append]; rfl
  unfold kErr
  rw [show k.cz.nm = k.nm from rfl, show k.cz.of = k.of from rfl, show k.cz.fs = k.fs from rfl, idxK_c, oChk_c, e, fieldsOf_c]
theorem ksGo_c : ∀ (L A : List Kd), ksGo (A.map Kd.cz) (L.map Kd.cz) = ksGo A L
  | [], _ => rfl
  | k :: r, A => by
    rw [List.map_cons, ksGo, ksGo, kErr_c]
    have := ksGo_c r (A ++ [k])
    rw [List.map_append] at this
    rw [show A.map Kd.cz ++ [k.cz] = A.map Kd.cz ++ [k].map Kd.cz from rfl, this]
    rfl
theorem ksErr_c (L : List Kd) : ksErr (L.map Kd.cz) = ksErr L := by
  unfold ksErr
  rw [List.length_map]
  have := ksGo_c L []
  rw [show (([] : List Kd).map Kd.cz) = [] from rfl] at this
  rw [this]
theorem bErr_c (L : List Kd) (A : List Bd) (x : Bd) : bErr (L.map Kd.cz) A x = bErr L A x := by
  unfold bErr hasK
  rw [idxK_c, idxK_c]
theorem bsGo_c (L : List Kd) : ∀ (B A : List Bd), bsGo (L.map Kd.cz) A B = bsGo L A B
  | [], _ => rfl
  | x :: r, A => by rw [bsGo, bsGo, bErr_c, bsGo_c L r]
theorem sErr_c (L : List Kd) (B : List Bd) : sErr (L.map Kd.cz) B = sErr L B := by
  unfold sErr
  rw [ksErr_c, bsGo_c]
theorem sErr_kq {L L' : List Kd} (h : L.map kq = L'.map kq) (B : List Bd) : sErr L B = sErr L' B := by
  have e : ∀ M : List Kd, M.map Kd.cz = (M.map kq).map fun q => ⟨q.1, q.2.1, q.2.2, .nilIface, .nilIface⟩ := fun M => by rw [List.map_map]; rfl
  rw [← sErr_c L, ← sErr_c L', e, e, h]

/-- Names are no longer than m. -/
def SzP (m : Nat) (P : List Kq) : Prop := ∀ q ∈ P, q.1.length ≤ m ∧ ∀ f ∈ q.2.2, f.nm.length ≤ m
def SzD (m : Nat) (B : List Bd) : Prop := ∀ x ∈ B, x.nm.length ≤ m
theorem mem_oneMore {α : Type} {l : List α} {a x : α} (h : x ∈ oneMore l a) : x ∈ l ∨ x = a := by
  unfold oneMore at h
  split at h
  · exact .inl h
  · rcases List.mem_append.1 h with h | h
    · exact .inl h
    · exact .inr (by simpa using h)
theorem cut_le (l : Nm) (c : Nm) : (Lib.cut l c).1.length ≤ l.length := by
  unfold Lib.cut
  split
  · exact List.length_take_le' _ _
  · exact Nat.le_refl _
theorem kdOf_mem {Wd : List Nm} {q : Nm × List Nm × List Nm} (h : kdOf Wd = some q) : q.1 ∈ Wd ∧ ∀ w ∈ q.2.2, w ∈ Wd := by
  rcases Wd with _ | ⟨k, _ | ⟨x1, _ | ⟨o, _ | ⟨x3, r⟩⟩⟩⟩
  · cases h
  · cases h
  · replace h : (if (k == wKind) = true then some (x1, [], []) else none) = some q := h
    split at h
    · injection h with h; subst h; exact ⟨by simp, fun w hw => by cases hw⟩
    · cases h
  · replace h : (if (k == wKind) = true then some (x1, [], [o]) else none) = some q := h
    split at h
    · injection h with h; subst h; exact ⟨by simp, fun w hw => by simp at hw; subst hw; simp⟩
    · cases h
  · replace h : (if (k == wKind) = true then (if (o == wOf) = true then some (x1, ofL x3, r) else some (x1, [], o :: x3 :: r)) else none) = some q := h
    split at h
    · split at h
      · injection h with h; subst h; exact ⟨by simp, fun w hw => by simp [hw]⟩
      · injection h with h; subst h; exact ⟨by simp, fun w hw => by simp only [List.mem_cons] at hw ⊢; exact .inr (.inr hw)⟩
    · cases h
theorem bdOf_mem (Wd : List Nm) : (bdOf Wd).1.nm = [] ∨ (bdOf Wd).1.nm ∈ Wd := by
  rcases Wd with _ | ⟨k, _ | ⟨a, _ | ⟨b, _ | ⟨c, _ | ⟨x, _ | ⟨y, _ | ⟨z, r⟩⟩⟩⟩⟩⟩⟩
  · exact .inl rfl
  · exact .inl rfl
  · exact .inl rfl
  · exact .inl rfl
  · exact .inl rfl
  · exact .inl rfl
  · have e : bdOf [k, a, b, c, x, y] = if (k == wBond && areN [a, b, c]) = true then (⟨a, b, c, (numP x).1, if (y == wAny) = true then -1 else (numP y).1⟩, (numP x).2 && (if (y == wAny) = true then true else (numP y).2)) else (bdZ, false) := rfl
    rw [e]
    split
    · exact .inr (by simp)
    · exact .inl rfl
  · exact .inl rfl
theorem step_sz {m : Nat} {P P' : List Kq} {B B' : List Bd} {y : Nm} (hP : SzP m P) (hB : SzD m B) (hy : y.length ≤ m) (h : lnStep (P, B) y = some (P', B')) : SzP m P' ∧ SzD m B' := by
  unfold lnStep at h
  split at h
  · have hl : (Lib.trimSuffix y [10]).length ≤ m := Nat.le_trans (Lib.trimSuffix_le _ _) hy
    have hw : ∀ w ∈ wordsL (Lib.trimSuffix y [10]), w.length ≤ m := fun w hw => Nat.le_trans ((pieces_le 32 _).2 w hw) hl
    unfold alStep at h
    simp only at h
    split at h
    · injection h with h
      injection h with e1 e2
      subst e1
      rw [← e2]
      refine ⟨hP, fun x hx => ?_⟩
      rcases mem_oneMore hx with e | e
      · exact hB x e
      · subst e
        rcases bdOf_mem (wordsL (Lib.trimSuffix y [10])) with e | e
        · rw [e]; exact Nat.zero_le _
        · exact hw _ e
    · split at h
      · cases h
      · rename_i q hq
        injection h with h
        injection h with e1 e2
        rw [← e1, ← e2]
        refine ⟨fun x hx => ?_, hB⟩
        rcases mem_oneMore hx with e | e
        · exact hP x e
        · subst e
          unfold kdLine at hq
          split at hq
          · cases hq
          · rename_i q0 hq0
            split at hq
            · injection hq with hq
              subst hq
              obtain ⟨k1, k2⟩ := kdOf_mem hq0
              refine ⟨hw _ k1, fun f hf => ?_⟩
              obtain ⟨w, hw', rfl⟩ := List.mem_map.1 hf
              exact Nat.le_trans (cut_le _ _) (hw _ (k2 w hw'))
            · cases hq
  · cases h
theorem fold_sz {m : Nat} : ∀ (ys : List Nm) (P0 : List Kq) (B0 : List Bd) {P : List Kq} {B : List Bd}, SzP m P0 → SzD m B0 → (∀ y ∈ ys, y.length ≤ m) → ys.foldl (fun o y => o.bind fun st => lnStep st y) (some (P0, B0)) = some (P, B) → SzP m P ∧ SzD m B
  | [], P0, B0, P, B, hP, hB, _, h => by
    have h' : some (P0, B0) = some (P, B) := h
    injection h' with h'
    injection h' with e1 e2
    subst e1 e2
    exact ⟨hP, hB⟩
  | y :: r, P0, B0, P, B, hP, hB, hy, h => by
    rw [List.foldl_cons] at h
    replace h : r.foldl (fun o y => o.bind fun st => lnStep st y) (lnStep (P0, B0) y) = some (P, B) := h
    cases hst : lnStep (P0, B0) y with
    | none => rw [hst, fold_none] at h; cases h
    | some st =>
      obtain ⟨P1, B1⟩ := st
      rw [hst] at h
      obtain ⟨g1, g2⟩ := step_sz hP hB (hy y (by simp)) hst
      exact fold_sz r P1 B1 g1 g2 (fun z hz => hy z (List.mem_cons_of_mem _ hz)) h
theorem flat_le {ys : List Nm} {y : Nm} (h : y ∈ ys) : y.length ≤ ys.flatten.length := by
  induction ys with
  | nil => cases h
  | cons a r ih =>
    rw [List.flatten_cons, List.length_append]
    rcases List.mem_cons.1 h with e | e
    · subst e; omega
    · have := ih e; omega
theorem lines_sz {x : Nm} {L : List Kd} {B : List Bd} (hx : x.length ≤ maxLen) (h : lnFold (linesL x) = some (L.map kq, B)) : SzK L ∧ SzB B := by
  obtain ⟨h1, h2⟩ := fold_sz (m := maxLen) (linesL x) [] [] (fun q hq => by cases hq) (fun q hq => by cases hq) (fun y hy => by
    have := flat_le hy
    rw [linesL_flat] at this
    omega) h
  exact ⟨fun k hk => h1 (kq k) (List.mem_map.2 ⟨k, hk, rfl⟩), h2⟩
/-- A line that stops, and all behind it. -/
theorem fold_stop {ys zs : List Nm} (h : lnFold ys = none) : lnFold (ys ++ zs) = none := by
  unfold lnFold at *
  rw [List.foldl_append, h, fold_none]
end Go.Proofs.YtlcpmdmpkfibdaaGreatDoor

/-
  The mathematics of SchemaTells: lists cut at thirteen have the fault of the whole ones.
-/
namespace Go.Proofs.YtlcpmdmpkfibdaaGreatDoor
open Go.RowKit
set_option linter.unusedVariables false
set_option linter.unusedSimpArgs false

theorem ks_many {L : List Kd} (h : 12 < L.length) : ksErr L = ([], 4) := by unfold ksErr; rw [if_pos h]
theorem s_many {L : List Kd} (h : 12 < L.length) (B : List Bd) : sErr L B = ([], 4) := by
  unfold sErr
  rw [ks_many h, if_neg (by decide)]
theorem cap_err {L L' : List Kd} {P : List (Nm × List Nm × List Fd)} (B : List Bd) (h : L.map kq = P) (h' : L'.map kq = P.take 13) : sErr L' (B.take 13) = sErr L B := by
  have hl : L.length = P.length := by rw [← h, List.length_map]
  have hl' : L'.length = min 13 P.length := by rw [← List.length_take, ← h', List.length_map]
  by_cases hk : 12 < L.length
  · rw [s_many hk, s_many (by omega)]
  · have e : L'.map kq = L.map kq := by rw [h', h, List.take_of_length_le (by omega)]
    rw [sErr_kq e]
    by_cases hb : B.length ≤ 13
    · rw [List.take_of_length_le hb]
    · have e2 : 12 < (B.take 13).length := by rw [List.length_take]; omega
      unfold sErr
      rw [if_pos e2, if_pos (show 12 < B.length by omega)]
end Go.Proofs.YtlcpmdmpkfibdaaGreatDoor
