/-
  A right schema's text reads as that schema.
-/
import Derived.Test.YtmffimhioobimaaGreatDoorM16
import Derived.Test.YtmffimhioobimaaGreatDoorM09
namespace Go.Proofs.YtmffimhioobimaaGreatDoor
set_option linter.unusedVariables false
set_option linter.unusedSimpArgs false

/-- Letters alone. -/
def Let (l : Nm) : Prop := ∀ c ∈ l, 97 ≤ c.toNat ∧ c.toNat ≤ 122
theorem nErr_let {l : Nm} (h : nErr l = 0) : l ≠ [] ∧ Let l := by
  unfold nErr at h
  by_cases h1 : l = []
  · rw [if_pos h1] at h; cases h
  · rw [if_neg h1] at h
    by_cases h2 : 8 < l.length
    · rw [if_pos h2] at h; cases h
    · rw [if_neg h2] at h
      refine ⟨h1, fun c hc => ?_⟩
      by_cases h3 : hasP noLet l = true
      · rw [if_pos h3] at h; cases h
      · have h3' : ∀ x ∈ l, noLet x = false := by
          intro x hx
          have : hasP noLet l = false := by simpa using h3
          unfold hasP at this
          have := List.any_eq_false.1 this x hx
          simpa using this
        have := h3' c hc
        unfold noLet at this
        simp only [Bool.or_eq_false_iff, decide_eq_false_iff_not] at this
        omega
theorem Let.no {l : Nm} (h : Let l) {c : UInt8} (hc : c.toNat < 97) : c ∉ l := fun hm => by have := h c hm; omega
theorem idxAny_let : ∀ {l : Nm}, Let l → Lib.indexAny l [44, 58] = -1
  | [], _ => rfl
  | b :: r, h => by
    have ih := idxAny_let (l := r) (fun c hc => h c (List.mem_cons_of_mem _ hc))
    have hb := h b (List.mem_cons_self ..)
    have hn : ([44, 58] : Nm).contains b = false := by
      simp only [List.contains_cons, List.contains_nil, Bool.or_false, Bool.or_eq_false_iff, beq_eq_false_iff_ne]
      constructor
      · intro e; rw [e] at hb; exact absurd hb.1 (by decide)
      · intro e; rw [e] at hb; exact absurd hb.1 (by decide)
    rw [Lib.indexAny, hn, if_neg (by decide), ih]
    rfl
theorem badW_let {l : Nm} (h : l ≠ [] ∧ Let l) : badW l = false := by
  unfold badW Lib.containsAny
  rw [idxAny_let h.2]
  have : l.isEmpty = false := by simpa using h.1
  rw [this]
  rfl
theorem areN_let {L : List Nm} (h : ∀ l ∈ L, l ≠ [] ∧ Let l) : areN L = true := by
  unfold areN
  have : L.any badW = false := List.any_eq_false.2 fun l hl => by rw [badW_let (h l hl)]; decide
  rw [this]
  rfl
theorem index_app {c : UInt8} (s : Nm) : ∀ {w : Nm}, c ∉ w → Lib.index (w ++ c :: s) [c] = w.length
  | [], _ => by rw [List.nil_append, index_cons, if_pos rfl]; rfl
  | x :: r, h => by
    have ih := index_app s (w := r) (fun hh => h (List.mem_cons_of_mem _ hh))
    have hx : ¬ x = c := fun e => h (by rw [e]; exact List.mem_cons_self ..)
    rw [List.cons_append, index_cons, if_neg hx, ih, if_neg (by simp)]
    simp
theorem cut_app {c : UInt8} {w : Nm} (s : Nm) (h : c ∉ w) : Lib.cut (w ++ c :: s) [c] = (w, s, true) := by
  have e := index_app s h
  have e2 : w ++ c :: s = (w ++ [c]) ++ s := by simp
  unfold Lib.cut
  rw [if_pos (by rw [e]; omega), e]
  simp only [Int.toNat_natCast, List.length_cons, List.length_nil, Prod.mk.injEq, and_true]
  refine ⟨List.take_left, ?_⟩
  rw [e2, show w.length + (0 + 1) = (w ++ [c]).length by simp]
  exact List.drop_left
/-- What a field must have that its text reads as it was. -/
structure FOk (f : Fd) : Prop where
  nm : f.nm ≠ [] ∧ Let f.nm
  ty : f.t = 1 ∨ f.t = 2 ∨ f.t = 3
  km : f.key = true → f.must = true
theorem tyW_no (t : Int) (c : Nm) (hc : c = [42] ∨ c = [33]) : Lib.hasSuffix (tyW t) c = false := by
  unfold tyW
  rcases hc with rfl | rfl <;> (split <;> (try split) <;> (try split) <;> decide)
theorem tyO_tyW {t : Int} (h : t = 1 ∨ t = 2 ∨ t = 3) : tyO (tyW t) = t := by rcases h with rfl | rfl | rfl <;> decide
theorem fdOf_fText {f : Fd} (h : FOk f) : fdOf (fText f) = f ∧ fdOk (fText f) = true := by
  obtain ⟨nm, t, mu, ke⟩ := f
  obtain ⟨h1, h2, h3⟩ := h
  simp only at h1 h2 h3
  have hc : ∀ m : Nm, Lib.cut (nm ++ [58] ++ tyW t ++ m) [58] = (nm, tyW t ++ m, true) := fun m => by
    rw [List.append_assoc, List.append_assoc]
    exact cut_app _ (h1.2.no (by decide))
  have hn := tyW_no t
  have ht := tyO_tyW h2
  have h0 : (t == 0) = false := by rcases h2 with rfl | rfl | rfl <;> rfl
  cases ke with
  | true =>
    have hm := h3 rfl
    subst hm
    have e : fText ⟨nm, t, true, true⟩ = nm ++ [58] ++ tyW t ++ [42] := rfl
    rw [e]
    have hr : restF (nm ++ [58] ++ tyW t ++ [42]) = tyW t ++ [42] := by unfold restF; rw [hc]
    have hk : keyF (nm ++ [58] ++ tyW t ++ [42]) = true := by unfold keyF; rw [hr]; exact suf_app _ _
    have hty : typF (nm ++ [58] ++ tyW t ++ [42]) = tyW t := by unfold typF; rw [if_pos hk, hr, trim_app]
    have hmu : mustF (nm ++ [58] ++ tyW t ++ [42]) = true := by unfold mustF; rw [if_pos hk]
    unfold fdOf fdOk
    rw [hc, hty, hmu, hk, ht, h0, areN_let (fun l hl => by simp at hl; subst hl; exact h1)]
    exact ⟨rfl, rfl⟩
  | false =>
    cases mu with
    | true =>
      have e : fText ⟨nm, t, true, false⟩ = nm ++ [58] ++ tyW t ++ [33] := rfl
      rw [e]
      have hr : restF (nm ++ [58] ++ tyW t ++ [33]) = tyW t ++ [33] := by unfold restF; rw [hc]
      have hns : Lib.hasSuffix (tyW t ++ [33]) [42] = false := by rcases h2 with rfl | rfl | rfl <;> decide
      have hk : keyF (nm ++ [58] ++ tyW t ++ [33]) = false := by unfold keyF; rw [hr]; exact hns
      have hty : typF (nm ++ [58] ++ tyW t ++ [33]) = tyW t := by unfold typF; rw [if_neg (by rw [hk]; decide), hr, trim_no hns, trim_app]
      have hmu : mustF (nm ++ [58] ++ tyW t ++ [33]) = true := by unfold mustF; rw [if_neg (by rw [hk]; decide), hr, trim_no hns]; exact suf_app _ _
      unfold fdOf fdOk
      rw [hc, hty, hmu, hk, ht, h0, areN_let (fun l hl => by simp at hl; subst hl; exact h1)]
      exact ⟨rfl, rfl⟩
    | false =>
      have e : fText ⟨nm, t, false, false⟩ = nm ++ [58] ++ tyW t ++ [] := rfl
      rw [e]
      have hr : restF (nm ++ [58] ++ tyW t ++ []) = tyW t := by unfold restF; rw [hc, List.append_nil]
      have hk : keyF (nm ++ [58] ++ tyW t ++ []) = false := by unfold keyF; rw [hr]; exact hn _ (.inl rfl)
      have hty : typF (nm ++ [58] ++ tyW t ++ []) = tyW t := by unfold typF; rw [if_neg (by rw [hk]; decide), hr, trim_no (hn _ (.inl rfl)), trim_no (hn _ (.inr rfl))]
      have hmu : mustF (nm ++ [58] ++ tyW t ++ []) = false := by unfold mustF; rw [if_neg (by rw [hk]; decide), hr, trim_no (hn _ (.inl rfl))]; exact hn _ (.inr rfl)
      unfold fdOf fdOk
      rw [hc, hty, hmu, hk, ht, h0, areN_let (fun l hl => by simp at hl; subst hl; exact h1)]
      exact ⟨rfl, rfl⟩
/-- What a kind must have that its line reads as it was. -/
structure QOk (q : Kq) : Prop where
  nm : q.1 ≠ [] ∧ Let q.1
  of : ∀ n ∈ q.2.1, n ≠ [] ∧ Let n
  fs : ∀ f ∈ q.2.2, FOk f
theorem join_no {c d : UInt8} (hd : d ≠ c) : ∀ {ws : List Nm}, (∀ w ∈ ws, c ∉ w) → c ∉ Lib.join ws [d]
  | [], _ => by rw [Lib.join_nil]; simp
  | [w], h => by rw [Lib.join_one]; exact h w (by simp)
  | a :: b :: r, h => by
    rw [join_cons2]
    intro hm
    rcases List.mem_append.1 hm with hm | hm
    · exact h a (by simp) hm
    · rcases List.mem_cons.1 hm with hm | hm
      · exact hd hm.symm
      · exact join_no hd (fun w hw => h w (List.mem_cons_of_mem _ hw)) hm
theorem tyW_let (t : Int) : Let (tyW t) := by
  unfold tyW
  split
  · show ∀ c ∈ ([105, 110, 116] : Nm), 97 ≤ c.toNat ∧ c.toNat ≤ 122
    decide
  · split
    · show ∀ c ∈ ([98, 111, 111, 108] : Nm), 97 ≤ c.toNat ∧ c.toNat ≤ 122
      decide
    · split
      · show ∀ c ∈ ([116, 101, 120, 116] : Nm), 97 ≤ c.toNat ∧ c.toNat ≤ 122
        decide
      · intro c hc; cases hc
theorem fText_no {f : Fd} (h : FOk f) {c : UInt8} (hc : c = 32 ∨ c = 10) : c ∉ fText f := by
  have hl : c.toNat < 97 := by rcases hc with rfl | rfl <;> decide
  unfold fText
  intro hm
  rcases List.mem_append.1 hm with hm | hm
  · rcases List.mem_append.1 hm with hm | hm
    · rcases List.mem_append.1 hm with hm | hm
      · exact h.nm.2.no hl hm
      · simp at hm; subst hm; rcases hc with e | e <;> exact absurd e (by decide)
    · exact (tyW_let f.t).no hl hm
  · split at hm
    · simp at hm; subst hm; rcases hc with e | e <;> exact absurd e (by decide)
    · split at hm
      · simp at hm; subst hm; rcases hc with e | e <;> exact absurd e (by decide)
      · cases hm
theorem kW_no {q : Kq} (h : QOk q) {c : UInt8} (hc : c = 32 ∨ c = 10) : ∀ w ∈ kW q, c ∉ w := by
  have hl : c.toNat < 97 := by rcases hc with rfl | rfl <;> decide
  intro w hw
  unfold kW at hw
  rcases List.mem_append.1 hw with hw | hw
  · rcases List.mem_append.1 hw with hw | hw
    · simp only [List.mem_cons, List.not_mem_nil, or_false] at hw
      rcases hw with rfl | rfl
      · rcases hc with rfl | rfl <;> decide
      · exact h.nm.2.no hl
    · split at hw
      · cases hw
      · simp only [List.mem_cons, List.not_mem_nil, or_false] at hw
        rcases hw with rfl | rfl
        · rcases hc with rfl | rfl <;> decide
        · exact join_no (by rcases hc with rfl | rfl <;> decide) (fun n hn => (h.of n hn).2.no hl)
  · obtain ⟨f, hf, rfl⟩ := List.mem_map.1 hw
    exact fText_no (h.fs f hf) hc
theorem fText_of {f : Fd} (h : FOk f) : (fText f == wOf) = false := by
  rw [beq_eq_false_iff_ne]
  intro e
  have : (58 : UInt8) ∈ fText f := by unfold fText; simp
  rw [e] at this
  exact absurd this (by decide)
theorem bdOf_kind (ws : List Nm) : (bdOf (wKind :: ws)).2 = false := by
  rcases ws with _ | ⟨a, _ | ⟨b, _ | ⟨c, _ | ⟨x, _ | ⟨y, _ | ⟨z, r⟩⟩⟩⟩⟩⟩ <;> rfl
theorem map_fdOf {fs : List Fd} (h : ∀ f ∈ fs, FOk f) : (fs.map fText).map fdOf = fs ∧ (fs.map fText).all fdOk = true := by
  constructor
  · rw [List.map_map]
    have : ∀ f ∈ fs, (fdOf ∘ fText) f = f := fun f hf => (fdOf_fText (h f hf)).1
    rw [List.map_congr_left this, List.map_id']
  · rw [List.all_eq_true]
    intro x hx
    obtain ⟨f, hf, rfl⟩ := List.mem_map.1 hx
    exact (fdOf_fText (h f hf)).2
theorem kdOf_kW {q : Kq} (h : QOk q) : kdOf (kW q) = some (q.1, q.2.1, q.2.2.map fText) := by
  obtain ⟨nm, of, fs⟩ := q
  unfold kW
  simp only
  by_cases ho : of = []
  · subst ho
    rw [if_pos rfl]
    show kdOf (wKind :: nm :: fs.map fText) = _
    rcases fs with _ | ⟨f, _ | ⟨g, r⟩⟩
    · rfl
    · rfl
    · show (if (wKind == wKind) = true then (if (fText f == wOf) = true then _ else some (nm, [], fText f :: fText g :: r.map fText)) else none) = _
      rw [if_pos (by simp), fText_of (h.fs f (by simp)), if_neg (by decide)]
      rfl
  · rw [if_neg ho]
    show (if (wKind == wKind) = true then (if (wOf == wOf) = true then some (nm, ofL (Lib.join of [44]), fs.map fText) else _) else none) = _
    rw [if_pos (by simp), if_pos (by simp), ofL_eq, pcs_join ho (fun n hn => (h.of n hn).2.no (by decide))]
theorem step_kind {P : List Kq} {q : Kq} (h : QOk q) (hP : P.length ≤ 11) : lnStep (P, []) (lineL (kW q)) = some (P ++ [q], []) := by
  have hne : kW q ≠ [] := by unfold kW; simp
  unfold lnStep lineL
  rw [if_pos (suf_app _ _), trim_app, wordsL_eq, pcs_join hne (kW_no h (.inl rfl))]
  unfold alStep
  have hb : (bdOf (kW q)).2 = false := bdOf_kind _
  rw [hb, if_neg (by decide)]
  obtain ⟨m1, m2⟩ := map_fdOf h.fs
  have hk : kdLine (kW q) [] = some (q.1, q.2.1, q.2.2.map fText) := by
    unfold kdLine
    rw [kdOf_kW h]
    simp only
    unfold kdGood
    simp only
    rw [areN_let (fun l hl => by simp at hl; subst hl; exact h.nm), areN_let h.of, m2]
    rfl
  simp only
  rw [hk]
  simp only
  rw [m1]
  unfold oneMore
  rw [if_neg (by omega)]
theorem num_small {n : Int} (h0 : 0 ≤ n) (h1 : n ≤ 20) : numP (Lib.itoa n) = (n, true) ∧ (Lib.itoa n == wAny) = false ∧ ∀ c : UInt8, c = 32 ∨ c = 10 → c ∉ Lib.itoa n := by
  obtain ⟨k, rfl⟩ : ∃ k : Nat, n = k := ⟨n.toNat, by omega⟩
  have hk : k < 21 := by omega
  clear h0 h1
  have all : ∀ k : Fin 21, numP (Lib.itoa (k.val : Int)) = ((k.val : Int), true) ∧ (Lib.itoa (k.val : Int) == wAny) = false ∧ (32 : UInt8) ∉ Lib.itoa (k.val : Int) ∧ (10 : UInt8) ∉ Lib.itoa (k.val : Int) := by decide +kernel
  obtain ⟨a, b, c, d⟩ := all ⟨k, hk⟩
  exact ⟨a, b, fun x hx => by rcases hx with rfl | rfl <;> assumption⟩
theorem bWords_no {x : Bd} (h : BOk x) {c : UInt8} (hc : c = 32 ∨ c = 10) : ∀ w ∈ bWords x, c ∉ w := by
  have hl : c.toNat < 97 := by rcases hc with rfl | rfl <;> decide
  obtain ⟨r1, r2, r3⟩ := inR_iff.1 h.rg
  intro w hw
  unfold bWords at hw
  simp only [List.mem_cons, List.not_mem_nil, or_false] at hw
  rcases hw with rfl | rfl | rfl | rfl | rfl | rfl
  · rcases hc with rfl | rfl <;> decide
  · exact (nErr_let h.nm).2.no hl
  · exact (nErr_let h.fr).2.no hl
  · exact (nErr_let h.tt).2.no hl
  · exact (num_small r1 r2).2.2 c hc
  · unfold mxW
    split
    · rcases hc with rfl | rfl <;> decide
    · exact (num_small (by omega) (by omega)).2.2 c hc
theorem step_bond {P : List Kq} {B : List Bd} {x : Bd} (h : BOk x) (hB : B.length ≤ 11) : lnStep (P, B) (lineL (bWords x)) = some (P, B ++ [x]) := by
  have hne : bWords x ≠ [] := by unfold bWords; simp
  unfold lnStep lineL
  rw [if_pos (suf_app _ _), trim_app, wordsL_eq, pcs_join hne (bWords_no h (.inl rfl))]
  obtain ⟨r1, r2, r3⟩ := inR_iff.1 h.rg
  obtain ⟨n1, n2, _⟩ := num_small r1 r2
  have hb : bdOf (bWords x) = (x, true) := by
    obtain ⟨nm, fr, tt, mn, mx⟩ := x
    unfold bWords bdOf
    simp only at *
    have ha : areN [nm, fr, tt] = true := areN_let (fun l hl => by
      simp only [List.mem_cons, List.not_mem_nil, or_false] at hl
      rcases hl with rfl | rfl | rfl
      · exact nErr_let h.nm
      · exact nErr_let h.fr
      · exact nErr_let h.tt)
    rw [show (([98, 111, 110, 100] : Nm) == wBond && areN [nm, fr, tt]) = true by rw [ha]; rfl, if_pos rfl, n1]
    by_cases hm : mx = -1
    · subst hm
      rw [show mxW (-1) = wAny from rfl]
      simp
    · obtain ⟨m1, m2, _⟩ := num_small (n := mx) (by omega) (by omega)
      rw [show mxW mx = Lib.itoa mx by unfold mxW; rw [if_neg hm], m2, m1]
      simp
  unfold alStep
  rw [hb, if_pos rfl]
  unfold oneMore
  rw [if_neg (by show ¬ 12 < B.length; omega)]
theorem fold_kinds : ∀ (qs : List Kq) (P : List Kq), (∀ q ∈ qs, QOk q) → P.length + qs.length ≤ 12 → (qs.map fun q => lineL (kW q)).foldl (fun o y => o.bind fun st => lnStep st y) (some (P, ([] : List Bd))) = some (P ++ qs, [])
  | [], P, _, _ => by simp
  | q :: r, P, h, hl => by
    rw [List.length_cons] at hl
    rw [List.map_cons, List.foldl_cons]
    show (r.map fun q => lineL (kW q)).foldl (fun o y => o.bind fun st => lnStep st y) (lnStep (P, []) (lineL (kW q))) = _
    rw [step_kind (h q (by simp)) (by omega), fold_kinds r (P ++ [q]) (fun x hx => h x (List.mem_cons_of_mem _ hx)) (by simp; omega)]
    simp
theorem fold_bonds : ∀ (xs : List Bd) (P : List Kq) (B : List Bd), (∀ x ∈ xs, BOk x) → B.length + xs.length ≤ 12 → (xs.map fun x => lineL (bWords x)).foldl (fun o y => o.bind fun st => lnStep st y) (some (P, B)) = some (P, B ++ xs)
  | [], P, B, _, _ => by simp
  | x :: r, P, B, h, hl => by
    rw [List.length_cons] at hl
    rw [List.map_cons, List.foldl_cons]
    show (r.map fun x => lineL (bWords x)).foldl (fun o y => o.bind fun st => lnStep st y) (lnStep (P, B) (lineL (bWords x))) = _
    rw [step_bond (h x (by simp)) (by omega), fold_bonds r P (B ++ [x]) (fun y hy => h y (List.mem_cons_of_mem _ hy)) (by simp; omega)]
    simp
theorem fBad_key {o : Option Fd} {f : Fd} (h : fBad o f = 0) : f.key = true → f.must = true := by
  intro hk
  unfold fBad at h
  split at h
  · split at h
    · split at h
      · cases h
      · rename_i hn
        rw [hk] at hn
        simpa using hn
    · cases h
  · rename_i hn; exact absurd h hn
theorem fChk_fok (fs : List Fd) : ∀ o, fChk o fs = 0 → ∀ f ∈ fs, FOk f := by
  induction fs with
  | nil => intro o _ f hf; cases hf
  | cons a r ih =>
    intro o h f hf
    by_cases hb : fBad o a = 0
    · rw [fChk_step hb] at h
      rcases List.mem_cons.1 hf with e | e
      · subst e
        obtain ⟨h1, h2⟩ := fBad_zero hb
        exact ⟨nErr_let h1, h2, fBad_key hb⟩
      · exact ih _ h f e
    · rw [fChk_stop hb] at h; exact absurd h hb
theorem good_q {L : List Kd} (h : Good L) {k : Kd} (hk : k ∈ L) : QOk (kq k) := by
  obtain ⟨i, hi⟩ := List.getElem?_of_mem hk
  obtain ⟨h1, _, _, h4, h5, _⟩ := kErr_zero (h i k hi)
  refine ⟨nErr_let h1, fun n hn => ?_, fChk_fok _ _ h5⟩
  obtain ⟨x, hx, e⟩ := oChk_zero _ _ _ h4 n hn
  rw [← e]
  exact nErr_let (good_name h (List.mem_of_mem_take hx))
theorem flat_line {α : Type} (l : List α) (f : α → Nm) : (l.flatMap fun q => f q ++ [10]) = ((l.map f).flatMap fun w => w ++ [10]) := by rw [List.flatMap_map]
theorem map_line {α : Type} (l : List α) (f : α → Nm) : ((l.map f).map fun w => w ++ [10]) = l.map fun q => f q ++ [10] := by rw [List.map_map]; rfl
/-- A right schema's text reads as that schema. -/
theorem print_parse {L : List Kd} {B : List Bd} (h : (sErr L B).2 = 0) : lnFold (linesL (sText L B)) = some (L.map kq, B) := by
  obtain ⟨hks, hGB, hB12⟩ := sErr_good.1 h
  obtain ⟨hG, hL12⟩ := ksErr_good.1 hks
  have hq : ∀ q ∈ L.map kq, QOk q := fun q hq => by
    obtain ⟨k, hk, rfl⟩ := List.mem_map.1 hq
    exact good_q hG hk
  have hb : ∀ x ∈ B, BOk x := fun x hx => good_bond hG hGB hx
  have h10 : ∀ ws : List Nm, (∀ w ∈ ws, (10 : UInt8) ∉ w) → (10 : UInt8) ∉ Lib.join ws [32] := fun ws hw => join_no (by decide) hw
  have hl : linesL (sText L B) = ((L.map kq).map fun q => lineL (kW q)) ++ (B.map fun x => lineL (bWords x)) := by
    rw [sText_eq]
    unfold qText bText
    have e1 : ((L.map kq).flatMap fun q => lineL (kW q)) = (((L.map kq).map fun q => Lib.join (kW q) [32]).flatMap fun w => w ++ [10]) := flat_line (L.map kq) fun q => Lib.join (kW q) [32]
    have e2 : (B.flatMap fun x => lineL (bWords x)) = ((B.map fun x => Lib.join (bWords x) [32]).flatMap fun w => w ++ [10]) ++ [] := (flat_line B fun x => Lib.join (bWords x) [32]).trans (List.append_nil _).symm
    rw [e1, linesL_many _ _ (fun w hw => by
      obtain ⟨q, hq', rfl⟩ := List.mem_map.1 hw
      exact h10 _ (kW_no (hq q hq') (.inr rfl))), e2, linesL_many _ _ (fun w hw => by
      obtain ⟨x, hx, rfl⟩ := List.mem_map.1 hw
      exact h10 _ (bWords_no (hb x hx) (.inr rfl))), map_line, map_line, linesL_nil, List.append_nil]
    rfl
  rw [hl]
  unfold lnFold
  rw [List.foldl_append, fold_kinds _ [] hq (by simp; omega), List.nil_append, fold_bonds B _ [] hb (by simp; omega), List.nil_append]
end Go.Proofs.YtmffimhioobimaaGreatDoor

/-
  What is wrong with a schema hangs on what its kinds say alone; names that are read are no longer than the text.
-/
namespace Go.Proofs.YtmffimhioobimaaGreatDoor
set_option linter.unusedVariables false
set_option linter.unusedSimpArgs false

/-- A kind without its slices. -/
def Kd.cz (k : Kd) : Kd := ⟨k.nm, k.of, k.fs, .nilIface, .nilIface⟩
theorem idxK_c (nm : Nm) : ∀ (L : List Kd) (i : Nat), idxK nm (L.map Kd.cz) i = idxK nm L i
  | [], _ => rfl
  | k :: r, i => by
    rw [List.map_cons, idxK, idxK, idxK_c nm r]
    rfl
theorem oChk_c (A : List Kd) : ∀ (of seen : List Nm), oChk (A.map Kd.cz) seen of = oChk A seen of
  | [], _ => rfl
  | n :: r, seen => by rw [oChk, oChk, idxK_c, oChk_c A r]
theorem back_c : ∀ (L : List Kd) (ns : List Nm), back (L.map Kd.cz) ns = (back L ns).map Kd.cz
  | [], _ => rfl
  | k :: r, ns => by
    rw [List.map_cons, back, back]
    show (if hasN ns k.nm = true then k.cz :: back (r.map Kd.cz) (ns ++ k.of) else back (r.map Kd.cz) ns) = _
    rw [back_c r, back_c r]
    split <;> rfl
theorem kinOf_c (L : List Kd) : kinOf (L.map Kd.cz) = (kinOf L).map Kd.cz := by
  unfold kinOf
  rw [List.getLast?_map]
  cases L.getLast? with
  | none => rfl
  | some k =>
    show (back (L.map Kd.cz).reverse [k.nm]).reverse = ((back L.reverse [k.nm]).reverse).map Kd.cz
    rw [← List.map_reverse, back_c, List.map_reverse]
theorem fieldsOf_c (K : List Kd) : fieldsOf (K.map Kd.cz) = fieldsOf K := by
  unfold fieldsOf
  rw [List.flatMap_map]
  rfl
theorem kErr_c (A : List Kd) (k : Kd) : kErr (A.map Kd.cz) k.cz = kErr A k := by
  have e : kinOf (A.map Kd.cz ++ [k.cz]) = (kinOf (A ++ [k])).map Kd.cz := by rw [← kinOf_c, List.map_append]; rfl
  unfold kErr
  rw [show k.cz.nm = k.nm from rfl, show k.cz.of = k.of from rfl, show k.cz.fs = k.fs from rfl, idxK_c, oChk_c, e, fieldsOf_c]
theorem ksGo_c : ∀ (L A : List Kd), ksGo (A.map Kd.cz) (L.map Kd.cz) = ksGo A L
  | [], _ => rfl
  | k :: r, A => by
    rw [List.map_cons, ksGo, ksGo, kErr_c]
    have := ksGo_c r (A ++ [k])
    rw [List.map_append] at this
    rw [show A.map Kd.cz ++ [k.cz] = A.map Kd.cz ++ [k].map Kd.cz from rfl, this]
    rfl
theorem ksErr_c (L : List Kd) : ksErr (L.map Kd.cz) = ksErr L := by
  unfold ksErr
  rw [List.length_map]
  have := ksGo_c L []
  rw [show (([] : List Kd).map Kd.cz) = [] from rfl] at this
  rw [this]
theorem bErr_c (L : List Kd) (A : List Bd) (x : Bd) : bErr (L.map Kd.cz) A x = bErr L A x := by
  unfold bErr hasK
  rw [idxK_c, idxK_c]
theorem bsGo_c (L : List Kd) : ∀ (B A : List Bd), bsGo (L.map Kd.cz) A B = bsGo L A B
  | [], _ => rfl
  | x :: r, A => by rw [bsGo, bsGo, bErr_c, bsGo_c L r]
theorem sErr_c (L : List Kd) (B : List Bd) : sErr (L.map Kd.cz) B = sErr L B := by
  unfold sErr
  rw [ksErr_c, bsGo_c]
theorem sErr_kq {L L' : List Kd} (h : L.map kq = L'.map kq) (B : List Bd) : sErr L B = sErr L' B := by
  have e : ∀ M : List Kd, M.map Kd.cz = (M.map kq).map fun q => ⟨q.1, q.2.1, q.2.2, .nilIface, .nilIface⟩ := fun M => by rw [List.map_map]; rfl
  rw [← sErr_c L, ← sErr_c L', e, e, h]

/-- Names are no longer than m. -/
def SzP (m : Nat) (P : List Kq) : Prop := ∀ q ∈ P, q.1.length ≤ m ∧ ∀ f ∈ q.2.2, f.nm.length ≤ m
def SzD (m : Nat) (B : List Bd) : Prop := ∀ x ∈ B, x.nm.length ≤ m
theorem mem_oneMore {α : Type} {l : List α} {a x : α} (h : x ∈ oneMore l a) : x ∈ l ∨ x = a := by
  unfold oneMore at h
  split at h
  · exact .inl h
  · rcases List.mem_append.1 h with h | h
    · exact .inl h
    · exact .inr (by simpa using h)
theorem cut_le (l : Nm) (c : Nm) : (Lib.cut l c).1.length ≤ l.length := by
  unfold Lib.cut
  split
  · exact List.length_take_le' _ _
  · exact Nat.le_refl _
theorem kdOf_mem {Wd : List Nm} {q : Nm × List Nm × List Nm} (h : kdOf Wd = some q) : q.1 ∈ Wd ∧ ∀ w ∈ q.2.2, w ∈ Wd := by
  rcases Wd with _ | ⟨k, _ | ⟨x1, _ | ⟨o, _ | ⟨x3, r⟩⟩⟩⟩
  · cases h
  · cases h
  · replace h : (if (k == wKind) = true then some (x1, [], []) else none) = some q := h
    split at h
    · injection h with h; subst h; exact ⟨by simp, fun w hw => by cases hw⟩
    · cases h
  · replace h : (if (k == wKind) = true then some (x1, [], [o]) else none) = some q := h
    split at h
    · injection h with h; subst h; exact ⟨by simp, fun w hw => by simp at hw; subst hw; simp⟩
    · cases h
  · replace h : (if (k == wKind) = true then (if (o == wOf) = true then some (x1, ofL x3, r) else some (x1, [], o :: x3 :: r)) else none) = some q := h
    split at h
    · split at h
      · injection h with h; subst h; exact ⟨by simp, fun w hw => by simp [hw]⟩
      · injection h with h; subst h; exact ⟨by simp, fun w hw => by simp only [List.mem_cons] at hw ⊢; exact .inr (.inr hw)⟩
    · cases h
theorem bdOf_mem (Wd : List Nm) : (bdOf Wd).1.nm = [] ∨ (bdOf Wd).1.nm ∈ Wd := by
  rcases Wd with _ | ⟨k, _ | ⟨a, _ | ⟨b, _ | ⟨c, _ | ⟨x, _ | ⟨y, _ | ⟨z, r⟩⟩⟩⟩⟩⟩⟩
  · exact .inl rfl
  · exact .inl rfl
  · exact .inl rfl
  · exact .inl rfl
  · exact .inl rfl
  · exact .inl rfl
  · have e : bdOf [k, a, b, c, x, y] = if (k == wBond && areN [a, b, c]) = true then (⟨a, b, c, (numP x).1, if (y == wAny) = true then -1 else (numP y).1⟩, (numP x).2 && (if (y == wAny) = true then true else (numP y).2)) else (bdZ, false) := rfl
    rw [e]
    split
    · exact .inr (by simp)
    · exact .inl rfl
  · exact .inl rfl
theorem step_sz {m : Nat} {P P' : List Kq} {B B' : List Bd} {y : Nm} (hP : SzP m P) (hB : SzD m B) (hy : y.length ≤ m) (h : lnStep (P, B) y = some (P', B')) : SzP m P' ∧ SzD m B' := by
  unfold lnStep at h
  split at h
  · have hl : (Lib.trimSuffix y [10]).length ≤ m := Nat.le_trans (Lib.trimSuffix_le _ _) hy
    have hw : ∀ w ∈ wordsL (Lib.trimSuffix y [10]), w.length ≤ m := fun w hw => Nat.le_trans ((pieces_le 32 _).2 w hw) hl
    unfold alStep at h
    simp only at h
    split at h
    · injection h with h
      injection h with e1 e2
      subst e1
      rw [← e2]
      refine ⟨hP, fun x hx => ?_⟩
      rcases mem_oneMore hx with e | e
      · exact hB x e
      · subst e
        rcases bdOf_mem (wordsL (Lib.trimSuffix y [10])) with e | e
        · rw [e]; exact Nat.zero_le _
        · exact hw _ e
    · split at h
      · cases h
      · rename_i q hq
        injection h with h
        injection h with e1 e2
        rw [← e1, ← e2]
        refine ⟨fun x hx => ?_, hB⟩
        rcases mem_oneMore hx with e | e
        · exact hP x e
        · subst e
          unfold kdLine at hq
          split at hq
          · cases hq
          · rename_i q0 hq0
            split at hq
            · injection hq with hq
              subst hq
              obtain ⟨k1, k2⟩ := kdOf_mem hq0
              refine ⟨hw _ k1, fun f hf => ?_⟩
              obtain ⟨w, hw', rfl⟩ := List.mem_map.1 hf
              exact Nat.le_trans (cut_le _ _) (hw _ (k2 w hw'))
            · cases hq
  · cases h
theorem fold_sz {m : Nat} : ∀ (ys : List Nm) (P0 : List Kq) (B0 : List Bd) {P : List Kq} {B : List Bd}, SzP m P0 → SzD m B0 → (∀ y ∈ ys, y.length ≤ m) → ys.foldl (fun o y => o.bind fun st => lnStep st y) (some (P0, B0)) = some (P, B) → SzP m P ∧ SzD m B
  | [], P0, B0, P, B, hP, hB, _, h => by
    have h' : some (P0, B0) = some (P, B) := h
    injection h' with h'
    injection h' with e1 e2
    subst e1 e2
    exact ⟨hP, hB⟩
  | y :: r, P0, B0, P, B, hP, hB, hy, h => by
    rw [List.foldl_cons] at h
    replace h : r.foldl (fun o y => o.bind fun st => lnStep st y) (lnStep (P0, B0) y) = some (P, B) := h
    cases hst : lnStep (P0, B0) y with
    | none => rw [hst, fold_none] at h; cases h
    | some st =>
      obtain ⟨P1, B1⟩ := st
      rw [hst] at h
      obtain ⟨g1, g2⟩ := step_sz hP hB (hy y (by simp)) hst
      exact fold_sz r P1 B1 g1 g2 (fun z hz => hy z (List.mem_cons_of_mem _ hz)) h
theorem flat_le {ys : List Nm} {y : Nm} (h : y ∈ ys) : y.length ≤ ys.flatten.length := by
  induction ys with
  | nil => cases h
  | cons a r ih =>
    rw [List.flatten_cons, List.length_append]
    rcases List.mem_cons.1 h with e | e
    · subst e; omega
    · have := ih e; omega
theorem lines_sz {x : Nm} {L : List Kd} {B : List Bd} (hx : x.length ≤ maxLen) (h : lnFold (linesL x) = some (L.map kq, B)) : SzK L ∧ SzB B := by
  obtain ⟨h1, h2⟩ := fold_sz (m := maxLen) (linesL x) [] [] (fun q hq => by cases hq) (fun q hq => by cases hq) (fun y hy => by
    have := flat_le hy
    rw [linesL_flat] at this
    omega) h
  exact ⟨fun k hk => h1 (kq k) (List.mem_map.2 ⟨k, hk, rfl⟩), h2⟩
/-- A line that stops, and all behind it. -/
theorem fold_stop {ys zs : List Nm} (h : lnFold ys = none) : lnFold (ys ++ zs) = none := by
  unfold lnFold at *
  rw [List.foldl_append, h, fold_none]
end Go.Proofs.YtmffimhioobimaaGreatDoor
