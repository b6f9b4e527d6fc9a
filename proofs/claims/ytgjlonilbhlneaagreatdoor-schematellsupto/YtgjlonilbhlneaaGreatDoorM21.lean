/-
  A text that reads as a schema is that schema's text.
-/
import Derived.Test.YtgjlonilbhlneaaGreatDoorM20
import Derived.Test.YtgjlonilbhlneaaGreatDoorM11
namespace Go.Proofs.YtgjlonilbhlneaaGreatDoor
set_option linter.unusedVariables false
set_option linter.unusedSimpArgs false

abbrev Kq := Nm × List Nm × List Fd
def kW (q : Kq) : List Nm := [wKind, q.1] ++ (if q.2.1 = [] then [] else [wOf, Lib.join q.2.1 [44]]) ++ q.2.2.map fText
def qText (P : List Kq) (B : List Bd) : Nm := (P.flatMap fun q => lineL (kW q)) ++ bText B
theorem sText_eq (L : List Kd) (B : List Bd) : sText L B = qText (L.map kq) B := by
  unfold sText qText kText
  rw [List.flatMap_map]
  rfl
theorem cut_found {c : UInt8} {l : Nm} (h : 0 ≤ Lib.index l [c]) : (Lib.cut l [c]).1 ++ c :: (Lib.cut l [c]).2.1 = l := by
  unfold Lib.cut
  rw [if_pos h]
  induction l with
  | nil => exact absurd h (by show ¬ (0 : Int) ≤ -1; decide)
  | cons b r ih =>
    rw [index_cons] at h ⊢
    by_cases e : b = c
    · subst e; simp
    · rw [if_neg e] at h ⊢
      by_cases e2 : Lib.index r [c] = -1
      · rw [e2] at h; exact absurd h (by decide)
      · have hge := Lib.index_ge r [c]
        have hb : (Lib.index r [c] == -1) = false := by simp [e2]
        rw [hb, if_neg (by decide)]
        obtain ⟨i, hi⟩ : ∃ i : Nat, Lib.index r [c] = i := ⟨(Lib.index r [c]).toNat, by omega⟩
        have := ih (by omega)
        rw [hi] at this ⊢
        have e3 : ((i : Int) + 1).toNat = i + 1 := by omega
        simp only [e3, Int.toNat_natCast, List.length_cons, List.length_nil] at this ⊢
        simp only [List.take_succ_cons, List.cons_append, List.cons.injEq, true_and]
        rw [show i + 1 + (0 + 1) = (i + (0 + 1)) + 1 by omega, List.drop_succ_cons]
        exact this
theorem tyW_tyO {l : Nm} (h : tyO l ≠ 0) : tyW (tyO l) = l := by
  unfold tyO at *
  split
  · rename_i e; rw [e]; rfl
  · rename_i e1
    rw [if_neg e1] at h
    split
    · rename_i e; rw [e]; rfl
    · rename_i e2
      rw [if_neg e2] at h
      split
      · rename_i e; rw [e]; rfl
      · rename_i e3
        rw [if_neg e3] at h
        exact absurd rfl h
theorem fText_fdOf {l : Nm} (h : fdOk l = true) : fText (fdOf l) = l := by
  unfold fdOk at h
  rw [Bool.and_eq_true] at h
  have ht : tyO (typF l) ≠ 0 := by
    have := h.2
    simpa using this
  have hx : 0 ≤ Lib.index l [58] := by
    by_cases hx : 0 ≤ Lib.index l [58]
    · exact hx
    · exfalso
      apply ht
      have hr : restF l = [] := by unfold restF Lib.cut; rw [if_neg hx]
      unfold typF keyF
      rw [hr]
      decide
  have hc := cut_found hx
  show (Lib.cut l [58]).1 ++ [58] ++ tyW (tyO (typF l)) ++ (if keyF l = true then [42] else if mustF l = true then [33] else []) = l
  rw [tyW_tyO ht]
  have key : typF l ++ (if keyF l = true then [42] else if mustF l = true then [33] else []) = restF l := by
    unfold typF mustF
    by_cases hk : keyF l = true
    · rw [if_pos hk, if_pos hk]
      exact suf_trim hk
    · rw [if_neg hk, if_neg hk, if_neg hk]
      have hk' : Lib.hasSuffix (restF l) [42] = false := by
        have : keyF l = false := by simpa using hk
        exact this
      rw [trim_no hk']
      by_cases hm : Lib.hasSuffix (restF l) [33] = true
      · rw [if_pos hm]
        exact suf_trim hm
      · rw [if_neg hm, trim_no (by simpa using hm), List.append_nil]
  rw [List.append_assoc, key]
  show (Lib.cut l [58]).1 ++ [58] ++ (Lib.cut l [58]).2.1 = l
  rw [List.append_assoc]
  exact hc
theorem map_fText {ws : List Nm} (h : ws.all fdOk = true) : (ws.map fdOf).map fText = ws := by
  rw [List.map_map]
  have : ∀ w ∈ ws, (fText ∘ fdOf) w = w := fun w hw => fText_fdOf (List.all_eq_true.1 h w hw)
  rw [List.map_congr_left this, List.map_id']
theorem kW_kdOf {Wd : List Nm} {q : Nm × List Nm × List Nm} (h : kdOf Wd = some q) (hg : kdGood q = true) : kW (q.1, q.2.1, q.2.2.map fdOf) = Wd := by
  unfold kdGood at hg
  rw [Bool.and_eq_true] at hg
  have hf := map_fText hg.2
  unfold kW
  simp only
  rw [hf]
  rcases Wd with _ | ⟨k, _ | ⟨x1, _ | ⟨o, _ | ⟨x3, r⟩⟩⟩⟩
  · cases h
  · cases h
  · replace h : (if (k == wKind) = true then some (x1, [], []) else none) = some q := h
    by_cases hk : (k == wKind) = true
    · rw [if_pos hk] at h
      injection h with h
      subst h
      have := eq_of_beq hk
      subst this
      rfl
    · rw [if_neg hk] at h; cases h
  · replace h : (if (k == wKind) = true then some (x1, [], [o]) else none) = some q := h
    by_cases hk : (k == wKind) = true
    · rw [if_pos hk] at h
      injection h with h
      subst h
      have := eq_of_beq hk
      subst this
      rfl
    · rw [if_neg hk] at h; cases h
  · replace h : (if (k == wKind) = true then (if (o == wOf) = true then some (x1, ofL x3, r) else some (x1, [], o :: x3 :: r)) else none) = some q := h
    by_cases hk : (k == wKind) = true
    · rw [if_pos hk] at h
      have := eq_of_beq hk
      subst this
      by_cases ho : (o == wOf) = true
      · rw [if_pos ho] at h
        injection h with h
        subst h
        have := eq_of_beq ho
        subst this
        simp only
        rw [ofL_eq, if_neg (pcs_ne _ _), join_pcs]
        rfl
      · rw [if_neg ho] at h
        injection h with h
        subst h
        rfl
    · rw [if_neg hk] at h; cases h
theorem numP_itoa {l : Nm} (h : (numP l).2 = true) : Lib.itoa (numP l).1 = l ∧ 0 ≤ (numP l).1 := by
  unfold numP at *
  split at h
  · rename_i v hv
    split at h
    · rename_i hq
      rw [if_pos hq]
      exact ⟨hq.2, hq.1.1⟩
    · cases h
  · cases h
theorem bWords_bdOf {Wd : List Nm} (h : (bdOf Wd).2 = true) : bWords (bdOf Wd).1 = Wd := by
  rcases Wd with _ | ⟨k, _ | ⟨a, _ | ⟨b, _ | ⟨c, _ | ⟨x, _ | ⟨y, _ | ⟨z, r⟩⟩⟩⟩⟩⟩⟩
  · cases h
  · cases h
  · cases h
  · cases h
  · cases h
  · cases h
  · have e : bdOf [k, a, b, c, x, y] = if (k == wBond && areN [a, b, c]) = true then (⟨a, b, c, (numP x).1, if (y == wAny) = true then -1 else (numP y).1⟩, (numP x).2 && (if (y == wAny) = true then true else (numP y).2)) else (bdZ, false) := rfl
    rw [e] at h ⊢
    by_cases hk : (k == wBond && areN [a, b, c]) = true
    · rw [if_pos hk] at h ⊢
      simp only [Bool.and_eq_true] at hk h
      have e := eq_of_beq hk.1
      subst e
      obtain ⟨n1, _⟩ := numP_itoa h.1
      unfold bWords
      simp only
      rw [n1]
      have hy : mxW (if (y == wAny) = true then -1 else (numP y).1) = y := by
        by_cases hw : (y == wAny) = true
        · rw [if_pos hw]
          exact (eq_of_beq hw).symm
        · rw [if_neg hw]
          have h2 := h.2
          rw [if_neg hw] at h2
          obtain ⟨m1, m2⟩ := numP_itoa h2
          unfold mxW
          rw [if_neg (by omega), m1]
      rw [hy]
      rfl
    · rw [if_neg hk] at h; cases h
  · cases h
theorem oneMore_le {α : Type} {l : List α} {x : α} (h : (oneMore l x).length ≤ 12) : l.length ≤ 12 ∧ oneMore l x = l ++ [x] := by
  unfold oneMore at *
  split at h
  · omega
  · rename_i hn
    rw [if_neg hn]
    exact ⟨by omega, rfl⟩
theorem bText_snoc (B : List Bd) (x : Bd) : bText (B ++ [x]) = bText B ++ lineL (bWords x) := by unfold bText; rw [List.flatMap_append]; simp
theorem step_text {P P' : List Kq} {B B' : List Bd} {y : Nm} (h : lnStep (P, B) y = some (P', B')) (h1 : P'.length ≤ 12) (h2 : B'.length ≤ 12) : P.length ≤ 12 ∧ B.length ≤ 12 ∧ qText P' B' = qText P B ++ y := by
  unfold lnStep at h
  split at h
  · rename_i hs
    have hy := suf_trim hs
    have hw : lineL (wordsL (Lib.trimSuffix y [10])) = y := by
      unfold lineL
      rw [wordsL_eq, join_pcs, hy]
    unfold alStep at h
    simp only at h
    split at h
    · rename_i hb
      injection h with h
      injection h with e1 e2
      subst e1
      rw [← e2] at h2
      obtain ⟨g1, g2⟩ := oneMore_le h2
      refine ⟨h1, g1, ?_⟩
      rw [← e2, g2]
      unfold qText
      rw [bText_snoc, bWords_bdOf hb, hw, List.append_assoc]
    · split at h
      · cases h
      · rename_i q hq
        injection h with h
        injection h with e1 e2
        rw [← e1] at h1
        obtain ⟨g1, g2⟩ := oneMore_le h1
        subst e2
        refine ⟨g1, h2, ?_⟩
        unfold kdLine at hq
        split at hq
        · cases hq
        · rename_i q0 hq0
          split at hq
          · rename_i hgd
            injection hq with hq
            subst hq
            rw [Bool.and_eq_true] at hgd
            have hB : B = [] := by simpa using hgd.2
            subst hB
            rw [← e1, g2]
            unfold qText
            rw [List.flatMap_append]
            simp only [List.flatMap_cons, List.flatMap_nil, List.append_nil, bText]
            rw [kW_kdOf hq0 hgd.1, hw]
          · cases hq
  · cases h
theorem fold_none : ∀ ys : List Nm, ys.foldl (fun o y => o.bind fun st => lnStep st y) (none : Option (List Kq × List Bd)) = none
  | [] => rfl
  | y :: r => fold_none r
theorem fold_from : ∀ (ys : List Nm) (P0 : List Kq) (B0 : List Bd) {P : List Kq} {B : List Bd}, ys.foldl (fun o y => o.bind fun st => lnStep st y) (some (P0, B0)) = some (P, B) → P.length ≤ 12 → B.length ≤ 12 → P0.length ≤ 12 ∧ B0.length ≤ 12 ∧ qText P B = qText P0 B0 ++ ys.flatten
  | [], P0, B0, P, B, h, h1, h2 => by
    have h' : some (P0, B0) = some (P, B) := h
    injection h' with h'
    injection h' with e1 e2
    subst e1 e2
    exact ⟨h1, h2, by simp⟩
  | y :: r, P0, B0, P, B, h, h1, h2 => by
    rw [List.foldl_cons] at h
    replace h : r.foldl (fun o y => o.bind fun st => lnStep st y) (lnStep (P0, B0) y) = some (P, B) := h
    cases hst : lnStep (P0, B0) y with
    | none => rw [hst, fold_none] at h; cases h
    | some st =>
      obtain ⟨P1, B1⟩ := st
      rw [hst] at h
      obtain ⟨g1, g2, g3⟩ := fold_from r P1 B1 h h1 h2
      obtain ⟨k1, k2, k3⟩ := step_text hst g1 g2
      exact ⟨k1, k2, by rw [g3, k3, List.flatten_cons, List.append_assoc]⟩
theorem fold_text (ys : List Nm) {P : List Kq} {B : List Bd} (h : lnFold ys = some (P, B)) (h1 : P.length ≤ 12) (h2 : B.length ≤ 12) : qText P B = ys.flatten := by
  have := (fold_from ys [] [] h h1 h2).2.2
  rw [this]
  rfl
theorem parse_print {t : Nm} {L : List Kd} {B : List Bd} (h : lnFold (linesL t) = some (L.map kq, B)) (h1 : L.length ≤ 12) (h2 : B.length ≤ 12) : sText L B = t := by
  rw [sText_eq, fold_text _ h (by rw [List.length_map]; exact h1) h2, linesL_flat]
end Go.Proofs.YtgjlonilbhlneaaGreatDoor

/-
  A right schema's text reads as that schema.
-/
namespace Go.Proofs.YtgjlonilbhlneaaGreatDoor
set_option linter.unusedVariables false
set_option linter.unusedSimpArgs false

def Let (l : Nm) : Prop := ∀ c ∈ l, 97 ≤ c.toNat ∧ c.toNat ≤ 122
theorem nErr_let {l : Nm} (h : nErr l = 0) : l ≠ [] ∧ Let l := by
  unfold nErr at h
  by_cases h1 : l = []
  · rw [if_pos h1] at h; cases h
  · rw [if_neg h1] at h
    by_cases h2 : 8 < l.length
    · rw [if_pos h2] at h; cases h
    · rw [if_neg h2] at h
      refine ⟨h1, fun c hc => ?_⟩
      by_cases h3 : hasP noLet l = true
      · rw [if_pos h3] at h; cases h
      · have h3' : ∀ x ∈ l, noLet x = false := by
          intro x hx
          have : hasP noLet l = false := by simpa using h3
          unfold hasP at this
          have := List.any_eq_false.1 this x hx
          simpa using this
        have := h3' c hc
        unfold noLet at this
        simp only [Bool.or_eq_false_iff, decide_eq_false_iff_not] at this
        omega
theorem Let.no {l : Nm} (h : Let l) {c : UInt8} (hc : c.toNat < 97) : c ∉ l := fun hm => by have := h c hm; omega
theorem idxAny_let : ∀ {l : Nm}, Let l → Lib.indexAny l [44, 58] = -1
  | [], _ => rfl
  | b :: r, h => by
    have ih := idxAny_let (l := r) (fun c hc => h c (List.mem_cons_of_mem _ hc))
    have hb := h b (List.mem_cons_self ..)
    have hn : ([44, 58] : Nm).contains b = false := by
      simp only [List.contains_cons, List.contains_nil, Bool.or_false, Bool.or_eq_false_iff, beq_eq_false_iff_ne]
      constructor
      · intro e; rw [e] at hb; exact absurd hb.1 (by decide)
      · intro e; rw [e] at hb; exact absurd hb.1 (by decide)
    rw [Lib.indexAny, hn, if_neg (by decide), ih]
    rfl
theorem badW_let {l : Nm} (h : l ≠ [] ∧ Let l) : badW l = false := by
  unfold badW Lib.containsAny
  rw [idxAny_let h.2]
  have : l.isEmpty = false := by simpa using h.1
  rw [this]
  rfl
theorem areN_let {L : List Nm} (h : ∀ l ∈ L, l ≠ [] ∧ Let l) : areN L = true := by
  unfold areN
  have : L.any badW = false := List.any_eq_false.2 fun l hl => by rw [badW_let (h l hl)]; decide
  rw [this]
  rfl
theorem index_app {c : UInt8} (s : Nm) : ∀ {w : Nm}, c ∉ w → Lib.index (w ++ c :: s) [c] = w.length
  | [], _ => by rw [List.nil_append, index_cons, if_pos rfl]; rfl
  | x :: r, h => by
    have ih := index_app s (w := r) (fun hh => h (List.mem_cons_of_mem _ hh))
    have hx : ¬ x = c := fun e => h (by rw [e]; exact List.mem_cons_self ..)
    rw [List.cons_append, index_cons, if_neg hx, ih, if_neg (by simp)]
    simp
theorem cut_app {c : UInt8} {w : Nm} (s : Nm) (h : c ∉ w) : Lib.cut (w ++ c :: s) [c] = (w, s, true) := by
  have e := index_app s h
  have e2 : w ++ c :: s = (w ++ [c]) ++ s := by simp
  unfold Lib.cut
  rw [if_pos (by rw [e]; omega), e]
  simp only [Int.toNat_natCast, List.length_cons, List.length_nil, Prod.mk.injEq, and_true]
  refine ⟨List.take_left, ?_⟩
  rw [e2, show w.length + (0 + 1) = (w ++ [c]).length by simp]
  exact List.drop_left
structure FOk (f : Fd) : Prop where
  nm : f.nm ≠ [] ∧ Let f.nm
  ty : f.t = 1 ∨ f.t = 2 ∨ f.t = 3
  km : f.key = true → f.must = true
theorem tyW_no (t : Int) (c : Nm) (hc : c = [42] ∨ c = [33]) : Lib.hasSuffix (tyW t) c = false := by
  unfold tyW
  rcases hc with rfl | rfl <;> (split <;> (try split) <;> (try split) <;> decide)
theorem tyO_tyW {t : Int} (h : t = 1 ∨ t = 2 ∨ t = 3) : tyO (tyW t) = t := by rcases h with rfl | rfl | rfl <;> decide
theorem fdOf_fText {f : Fd} (h : FOk f) : fdOf (fText f) = f ∧ fdOk (fText f) = true := by
  obtain ⟨nm, t, mu, ke⟩ := f
  obtain ⟨h1, h2, h3⟩ := h
  simp only at h1 h2 h3
  have hc : ∀ m : Nm, Lib.cut (nm ++ [58] ++ tyW t ++ m) [58] = (nm, tyW t ++ m, true) := fun m => by
    rw [List.append_assoc, List.append_assoc]
    exact cut_app _ (h1.2.no (by decide))
  have hn := tyW_no t
  have ht := tyO_tyW h2
  have h0 : (t == 0) = false := by rcases h2 with rfl | rfl | rfl <;> rfl
  cases ke with
  | true =>
    have hm := h3 rfl
    subst hm
    have e : fText ⟨nm, t, true, true⟩ = nm ++ [58] ++ tyW t ++ [42] := rfl
    rw [e]
    have hr : restF (nm ++ [58] ++ tyW t ++ [42]) = tyW t ++ [42] := by unfold restF; rw [hc]
    have hk : keyF (nm ++ [58] ++ tyW t ++ [42]) = true := by unfold keyF; rw [hr]; exact suf_app _ _
    have hty : typF (nm ++ [58] ++ tyW t ++ [42]) = tyW t := by unfold typF; rw [if_pos hk, hr, trim_app]
    have hmu : mustF (nm ++ [58] ++ tyW t ++ [42]) = true := by unfold mustF; rw [if_pos hk]
    unfold fdOf fdOk
    rw [hc, hty, hmu, hk, ht, h0, areN_let (fun l hl => by simp at hl; subst hl; exact h1)]
    exact ⟨rfl, rfl⟩
  | false =>
    cases mu with
    | true =>
      have e : fText ⟨nm, t, true, false⟩ = nm ++ [58] ++ tyW t ++ [33] := rfl
      rw [e]
      have hr : restF (nm ++ [58] ++ tyW t ++ [33]) = tyW t ++ [33] := by unfold restF; rw [hc]
      have hns : Lib.hasSuffix (tyW t ++ [33]) [42] = false := by rcases h2 with rfl | rfl | rfl <;> decide
      have hk : keyF (nm ++ [58] ++ tyW t ++ [33]) = false := by unfold keyF; rw [hr]; exact hns
      have hty : typF (nm ++ [58] ++ tyW t ++ [33]) = tyW t := by unfold typF; rw [if_neg (by rw [hk]; decide), hr, trim_no hns, trim_app]
      have hmu : mustF (nm ++ [58] ++ tyW t ++ [33]) = true := by unfold mustF; rw [if_neg (by rw [hk]; decide), hr, trim_no hns]; exact suf_app _ _
      unfold fdOf fdOk
      rw [hc, hty, hmu, hk, ht, h0, areN_let (fun l hl => by simp at hl; subst hl; exact h1)]
      exact ⟨rfl, rfl⟩
    | false =>
      have e : fText ⟨nm, t, false, false⟩ = nm ++ [58] ++ tyW t ++ [] := rfl
      rw [e]
      have hr : restF (nm ++ [58] ++ tyW t ++ []) = tyW t := by unfold restF; rw [hc, List.append_nil]
      have hk : keyF (nm ++ [58] ++ tyW t ++ []) = false := by unfold keyF; rw [hr]; exact hn _ (.inl rfl)
      have hty : typF (nm ++ [58] ++ tyW t ++ []) = tyW t := by unfold typF; rw [if_neg (by rw [hk]; decide), hr, trim_no (hn _ (.inl rfl)), trim_no (hn _ (.inr rfl))]
      have hmu : mustF (nm ++ [58] ++ tyW t ++ []) = false := by unfold mustF; rw [if_neg (by rw [hk]; decide), hr, trim_no (hn _ (.inl rfl))]; exact hn _ (.inr rfl)
      unfold fdOf fdOk
      rw [hc, hty, hmu, hk, ht, h0, areN_let (fun l hl => by simp at hl; subst hl; exact h1)]
      exact ⟨rfl, rfl⟩
structure QOk (q : Kq) : Prop where
  nm : q.1 ≠ [] ∧ Let q.1
  of : ∀ n ∈ q.2.1, n ≠ [] ∧ Let n
  fs : ∀ f ∈ q.2.2, FOk f
theorem join_no {c d : UInt8} (hd : d ≠ c) : ∀ {ws : List Nm}, (∀ w ∈ ws, c ∉ w) → c ∉ Lib.join ws [d]
  | [], _ => by rw [Lib.join_nil]; simp
  | [w], h => by rw [Lib.join_one]; exact h w (by simp)
  | a :: b :: r, h => by
    rw [join_cons2]
    intro hm
    rcases List.mem_append.1 hm with hm | hm
    · exact h a (by simp) hm
    · rcases List.mem_cons.1 hm with hm | hm
      · exact hd hm.symm
      · exact join_no hd (fun w hw => h w (List.mem_cons_of_mem _ hw)) hm
theorem tyW_let (t : Int) : Let (tyW t) := by
  unfold tyW
  split
  · show ∀ c ∈ ([105, 110, 116] : Nm), 97 ≤ c.toNat ∧ c.toNat ≤ 122
    decide
  · split
    · show ∀ c ∈ ([98, 111, 111, 108] : Nm), 97 ≤ c.toNat ∧ c.toNat ≤ 122
      decide
    · split
      · show ∀ c ∈ ([116, 101, 120, 116] : Nm), 97 ≤ c.toNat ∧ c.toNat ≤ 122
        decide
      · intro c hc; cases hc
theorem fText_no {f : Fd} (h : FOk f) {c : UInt8} (hc : c = 32 ∨ c = 10) : c ∉ fText f := by
  have hl : c.toNat < 97 := by rcases hc with rfl | rfl <;> decide
  unfold fText
  intro hm
  rcases List.mem_append.1 hm with hm | hm
  · rcases List.mem_append.1 hm with hm | hm
    · rcases List.mem_append.1 hm with hm | hm
      · exact h.nm.2.no hl hm
      · simp at hm; subst hm; rcases hc with e | e <;> exact absurd e (by decide)
    · exact (tyW_let f.t).no hl hm
  · split at hm
    · simp at hm; subst hm; rcases hc with e | e <;> exact absurd e (by decide)
    · split at hm
      · simp at hm; subst hm; rcases hc with e | e <;> exact absurd e (by decide)
      · cases hm
theorem kW_no {q : Kq} (h : QOk q) {c : UInt8} (hc : c = 32 ∨ c = 10) : ∀ w ∈ kW q, c ∉ w := by
  have hl : c.toNat < 97 := by rcases hc with rfl | rfl <;> decide
  intro w hw
  unfold kW at hw
  rcases List.mem_append.1 hw with hw | hw
  · rcases List.mem_append.1 hw with hw | hw
    · simp only [List.mem_cons, List.not_mem_nil, or_false] at hw
      rcases hw with rfl | rfl
      · rcases hc with rfl | rfl <;> decide
      · exact h.nm.2.no hl
    · split at hw
      · cases hw
      · simp only [List.mem_cons, List.not_mem_nil, or_false] at hw
        rcases hw with rfl | rfl
        · rcases hc with rfl | rfl <;> decide
        · exact join_no (by rcases hc with rfl | rfl <;> decide) (fun n hn => (h.of n hn).2.no hl)
  · obtain ⟨f, hf, rfl⟩ := List.mem_map.1 hw
    exact fText_no (h.fs f hf) hc
theorem fText_of {f : Fd} (h : FOk f) : (fText f == wOf) = false := by
  rw [beq_eq_false_iff_ne]
  intro e
  have : (58 : UInt8) ∈ fText f := by unfold fText; simp
  rw [e] at this
  exact absurd this (by decide)
theorem bdOf_kind (ws : List Nm) : (bdOf (wKind :: ws)).2 = false := by
  rcases ws with _ | ⟨a, _ | ⟨b, _ | ⟨c, _ | ⟨x, _ | ⟨y, _ | ⟨z, r⟩⟩⟩⟩⟩⟩ <;> rfl
theorem map_fdOf {fs : List Fd} (h : ∀ f ∈ fs, FOk f) : (fs.map fText).map fdOf = fs ∧ (fs.map fText).all fdOk = true := by
  constructor
  · rw [List.map_map]
    have : ∀ f ∈ fs, (fdOf ∘ fText) f = f := fun f hf => (fdOf_fText (h f hf)).1
    rw [List.map_congr_left this, List.map_id']
  · rw [List.all_eq_true]
    intro x hx
    obtain ⟨f, hf, rfl⟩ := List.mem_map.1 hx
    exact (fdOf_fText (h f hf)).2
theorem kdOf_kW {q : Kq} (h : QOk q) : kdOf (kW q) = some (q.1, q.2.1, q.2.2.map fText) := by
  obtain ⟨nm, of, fs⟩ := q
  unfold kW
  simp only
  by_cases ho : of = []
  · subst ho
    rw [if_pos rfl]
    show kdOf (wKind :: nm :: fs.map fText) = _
    rcases fs with _ | ⟨f, _ | ⟨g, r⟩⟩
    · rfl
    · rfl
    · show (if (wKind == wKind) = true then (if (fText f == wOf) = true then _ else some (nm, [], fText f :: fText g :: r.map fText)) else none) = _
      rw [if_pos (by simp), fText_of (h.fs f (by simp)), if_neg (by decide)]
      rfl
  · rw [if_neg ho]
    show (if (wKind == wKind) = true then (if (wOf == wOf) = true then some (nm, ofL (Lib.join of [44]), fs.map fText) else _) else none) = _
    rw [if_pos (by simp), if_pos (by simp), ofL_eq, pcs_join ho (fun n hn => (h.of n hn).2.no (by decide))]
theorem step_kind {P : List Kq} {q : Kq} (h : QOk q) (hP : P.length ≤ 11) : lnStep (P, []) (lineL (kW q)) = some (P ++ [q], []) := by
  have hne : kW q ≠ [] := by unfold kW; simp
  unfold lnStep lineL
  rw [if_pos (suf_app _ _), trim_app, wordsL_eq, pcs_join hne (kW_no h (.inl rfl))]
  unfold alStep
  have hb : (bdOf (kW q)).2 = false := bdOf_kind _
  rw [hb, if_neg (by decide)]
  obtain ⟨m1, m2⟩ := map_fdOf h.fs
  have hk : kdLine (kW q) [] = some (q.1, q.2.1, q.2.2.map fText) := by
    unfold kdLine
    rw [kdOf_kW h]
    simp only
    unfold kdGood
    simp only
    rw [areN_let (fun l hl => by simp at hl; subst hl; exact h.nm), areN_let h.of, m2]
    rfl
  simp only
  rw [hk]
  simp only
  rw [m1]
  unfold oneMore
  rw [if_neg (by omega)]
theorem num_small {n : Int} (h0 : 0 ≤ n) (h1 : n ≤ 20) : numP (Lib.itoa n) = (n, true) ∧ (Lib.itoa n == wAny) = false ∧ ∀ c : UInt8, c = 32 ∨ c = 10 → c ∉ Lib.itoa n := by
  obtain ⟨k, rfl⟩ : ∃ k : Nat, n = k := ⟨n.toNat, by omega⟩
  have hk : k < 21 := by omega
  clear h0 h1
  have all : ∀ k : Fin 21, numP (Lib.itoa (k.val : Int)) = ((k.val : Int), true) ∧ (Lib.itoa (k.val : Int) == wAny) = false ∧ (32 : UInt8) ∉ Lib.itoa (k.val : Int) ∧ (10 : UInt8) ∉ Lib.itoa (k.val : Int) := by decide +kernel
  obtain ⟨a, b, c, d⟩ := all ⟨k, hk⟩
  exact ⟨a, b, fun x hx => by rcases hx with rfl | rfl <;> assumption⟩
theorem bWords_no {x : Bd} (h : BOk x) {c : UInt8} (hc : c = 32 ∨ c = 10) : ∀ w ∈ bWords x, c ∉ w := by
  have hl : c.toNat < 97 := by rcases hc with rfl | rfl <;> decide
  obtain ⟨r1, r2, r3⟩ := inR_iff.1 h.rg
  intro w hw
  unfold bWords at hw
  simp only [List.mem_cons, List.not_mem_nil, or_false] at hw
  rcases hw with rfl | rfl | rfl | rfl | rfl | rfl
  · rcases hc with rfl | rfl <;> decide
  · exact (nErr_let h.nm).2.no hl
  · exact (nErr_let h.fr).2.no hl
  · exact (nErr_let h.tt).2.no hl
  · exact (num_small r1 r2).2.2 c hc
  · unfold mxW
    split
    · rcases hc with rfl | rfl <;> decide
    · exact (num_small (by omega) (by omega)).2.2 c hc
theorem step_bond {P : List Kq} {B : List Bd} {x : Bd} (h : BOk x) (hB : B.length ≤ 11) : lnStep (P, B) (lineL (bWords x)) = some (P, B ++ [x]) := by
  have hne : bWords x ≠ [] := by unfold bWords; simp
  unfold lnStep lineL
  rw [if_pos (suf_app _ _), trim_app, wordsL_eq, pcs_join hne (bWords_no h (.inl rfl))]
  obtain ⟨r1, r2, r3⟩ := inR_iff.1 h.rg
  obtain ⟨n1, n2, _⟩ := num_small r1 r2
  have hb : bdOf (bWords x) = (x, true) := by
    obtain ⟨nm, fr, tt, mn, mx⟩ := x
    unfold bWords bdOf
    simp only at *
    have ha : areN [nm, fr, tt] = true := areN_let (fun l hl => by
      simp only [List.mem_cons, List.not_mem_nil, or_false] at hl
      rcases hl with rfl | rfl | rfl
      · exact nErr_let h.nm
      · exact nErr_let h.fr
      · exact nErr_let h.tt)
    rw [show (([98, 111, 110, 100] : Nm) == wBond && areN [nm, fr, tt]) = true by rw [ha]; rfl, if_pos rfl, n1]
    by_cases hm : mx = -1
    · subst hm
      rw [show mxW (-1) = wAny from rfl]
      simp
    · obtain ⟨m1, m2, _⟩ := num_small (n := mx) (by omega) (by omega)
      rw [show mxW mx = Lib.itoa mx by unfold mxW; rw [if_neg hm], m2, m1]
      simp
  unfold alStep
  rw [hb, if_pos rfl]
  unfold oneMore
  rw [if_neg (by show ¬ 12 < B.length; omega)]
theorem fold_kinds : ∀ (qs : List Kq) (P : List Kq), (∀ q ∈ qs, QOk q) → P.length + qs.length ≤ 12 → (qs.map fun q => lineL (kW q)).foldl (fun o y => o.bind fun st => lnStep st y) (some (P, ([] : List Bd))) = some (P ++ qs, [])
  | [], P, _, _ => by simp
  | q :: r, P, h, hl => by
    rw [List.length_cons] at hl
    rw [List.map_cons, List.foldl_cons]
    show (r.map fun q => lineL (kW q)).foldl (fun o y => o.bind fun st => lnStep st y) (lnStep (P, []) (lineL (kW q))) = _
    rw [step_kind (h q (by simp)) (by omega), fold_kinds r (P ++ [q]) (fun x hx => h x (List.mem_cons_of_mem _ hx)) (by simp; omega)]
    simp
theorem fold_bonds : ∀ (xs : List Bd) (P : List Kq) (B : List Bd), (∀ x ∈ xs, BOk x) → B.length + xs.length ≤ 12 → (xs.map fun x => lineL (bWords x)).foldl (fun o y => o.bind fun st => lnStep st y) (some (P, B)) = some (P, B ++ xs)
  | [], P, B, _, _ => by simp
  | x :: r, P, B, h, hl => by
    rw [List.length_cons] at hl
    rw [List.map_cons, List.foldl_cons]
    show (r.map fun x => lineL (bWords x)).foldl (fun o y => o.bind fun st => lnStep st y) (lnStep (P, B) (lineL (bWords x))) = _
    rw [step_bond (h x (by simp)) (by omega), fold_bonds r P (B ++ [x]) (fun y hy => h y (List.mem_cons_of_mem _ hy)) (by simp; omega)]
    simp
theorem fBad_key {o : Option Fd} {f : Fd} (h : fBad o f = 0) : f.key = true → f.must = true := by
  intro hk
  unfold fBad at h
  split at h
  · split at h
    · split at h
      · cases h
      · rename_i hn
        rw [hk] at hn
        simpa using hn
    · cases h
  · rename_i hn; exact absurd h hn
theorem fChk_fok (fs : List Fd) : ∀ o, fChk o fs = 0 → ∀ f ∈ fs, FOk f := by
  induction fs with
  | nil => intro o _ f hf; cases hf
  | cons a r ih =>
    intro o h f hf
    by_cases hb : fBad o a = 0
    · rw [fChk_step hb] at h
      rcases List.mem_cons.1 hf with e | e
      · subst e
        obtain ⟨h1, h2⟩ := fBad_zero hb
        exact ⟨nErr_let h1, h2, fBad_key hb⟩
      · exact ih _ h f e
    · rw [fChk_stop hb] at h; exact absurd h hb
theorem good_q {L : List Kd} (h : Good L) {k : Kd} (hk : k ∈ L) : QOk (kq k) := by
  obtain ⟨i, hi⟩ := List.getElem?_of_mem hk
  obtain ⟨h1, _, _, h4, h5, _⟩ := kErr_zero (h i k hi)
  refine ⟨nErr_let h1, fun n hn => ?_, fChk_fok _ _ h5⟩
  obtain ⟨x, hx, e⟩ := oChk_zero _ _ _ h4 n hn
  rw [← e]
  exact nErr_let (good_name h (List.mem_of_mem_take hx))
theorem flat_line {α : Type} (l : List α) (f : α → Nm) : (l.flatMap fun q => f q ++ [10]) = ((l.map f).flatMap fun w => w ++ [10]) := by rw [List.flatMap_map]
theorem map_line {α : Type} (l : List α) (f : α → Nm) : ((l.map f).map fun w => w ++ [10]) = l.map fun q => f q ++ [10] := by rw [List.map_map]; rfl
theorem print_parse {L : List Kd} {B : List Bd} (h : (sErr L B).2 = 0) : lnFold (linesL (sText L B)) = some (L.map kq, B) := by
  obtain ⟨hks, hGB, hB12⟩ := sErr_good.1 h
  obtain ⟨hG, hL12⟩ := ksErr_good.1 hks
  have hq : ∀ q ∈ L.map kq, QOk q := fun q hq => by
    obtain ⟨k, hk, rfl⟩ := List.mem_map.1 hq
    exact good_q hG hk
  have hb : ∀ x ∈ B, BOk x := fun x hx => good_bond hG hGB hx
  have h10 : ∀ ws : List Nm, (∀ w ∈ ws, (10 : UInt8) ∉ w) → (10 : UInt8) ∉ Lib.join ws [32] := fun ws hw => join_no (by decide) hw
  have hl : linesL (sText L B) = ((L.map kq).map fun q => lineL (kW q)) ++ (B.map fun x => lineL (bWords x)) := by
    rw [sText_eq]
    unfold qText bText
    have e1 : ((L.map kq).flatMap fun q => lineL (kW q)) = (((L.map kq).map fun q => Lib.join (kW q) [32]).flatMap fun w => w ++ [10]) := flat_line (L.map kq) fun q => Lib.join (kW q) [32]
    have e2 : (B.flatMap fun x => lineL (bWords x)) = ((B.map fun x => Lib.join (bWords x) [32]).flatMap fun w => w ++ [10]) ++ [] := (flat_line B fun x => Lib.join (bWords x) [32]).trans (List.append_nil _).symm
    rw [e1, linesL_many _ _ (fun w hw => by
      obtain ⟨q, hq', rfl⟩ := List.mem_map.1 hw
      exact h10 _ (kW_no (hq q hq') (.inr rfl))), e2, linesL_many _ _ (fun w hw => by
      obtain ⟨x, hx, rfl⟩ := List.mem_map.1 hw
      exact h10 _ (bWords_no (hb x hx) (.inr rfl))), map_line, map_line, linesL_nil, List.append_nil]
    rfl
  rw [hl]
  unfold lnFold
  rw [List.foldl_append, fold_kinds _ [] hq (by simp; omega), List.nil_append, fold_bonds B _ [] hb (by simp; omega), List.nil_append]
end Go.Proofs.YtgjlonilbhlneaaGreatDoor
