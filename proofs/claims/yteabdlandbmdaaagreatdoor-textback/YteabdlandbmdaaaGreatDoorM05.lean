/-
  The walks of package value: Parse at every text, Name, Compare.
-/
import Derived.Test.YteabdlandbmdaaaGreatDoorM04
import Derived.Deep.QuietTactic
import Derived.BigQuiet
import Derived.Laws.Cover1
namespace Go.Proofs.YteabdlandbmdaaaGreatDoor
open Go.RowKit
set_option linter.unusedVariables false
set_option linter.unusedSimpArgs false

theorem errV_ne {e : Int} (h : ¬ e = 0) : errV e = .iface 49 (.int .i64 e) := by unfold errV; rw [if_neg h]
theorem resV_ne {e : Int} (h : ¬ e = 0) (t n : Int) (s : ByteArray) : resV e t n s = .tuple #[.agg #[.int .i64 0, .int .i64 0, .string ⟨#[]⟩], .iface 49 (.int .i64 e)] := by
  unfold resV; rw [if_neg h, errV_ne h]; rfl
theorem resV_0 (t n : Int) (s : ByteArray) : resV 0 t n s = .tuple #[.agg #[.int .i64 t, .int .i64 n, .string s], .nilIface] := rfl

def parseL (l : List UInt8) : Int × Int × Int × List UInt8 :=
  if l = [102, 97, 108, 115, 101] then (0, 2, 0, [])
  else if l = [116, 114, 117, 101] then (0, 2, 1, [])
  else if l.head? = some 39 then (ptErr (unqL l), 3, 0, (unqL l).getD [])
  else (piErr l, 1, piN l, [])

theorem list_eq {s : ByteArray} {l : List UInt8} (h : s.data.toList = l) : s = ⟨l.toArray⟩ := by
  cases s with | mk d => congr 1; rw [← h]

set_option maxHeartbeats 2000000 in
set_option maxRecDepth 100000 in
theorem parse_any (s : ByteArray) (w : World) (hs : s.size ≤ 140737488355328) :
    Calls Tryz.prog 76 #[.string s] w fun e w' => e = .returned (resV (parseL s.data.toList).1 (parseL s.data.toList).2.1 (parseL s.data.toList).2.2.1 ⟨(parseL s.data.toList).2.2.2.toArray⟩) ∧ Below w.heap.size w w' := by
  by_cases hF : s.data.toList = [102, 97, 108, 115, 101]
  · obtain rfl := list_eq hF
    clear hF hs
    go_enter Tryz.func76, Tryz.ntmps76
    go_wp2
    exact bodyPost_ret (v := .tuple #[val 2 0 ⟨#[]⟩, .nilIface]) (by simp [results, Tryz.results76, go_sem, val]) rfl ⟨rfl, (Below.refl _ _).alloc (Nat.le_refl _) _⟩
  by_cases hT : s.data.toList = [116, 114, 117, 101]
  · obtain rfl := list_eq hT
    clear hT hs hF
    go_enter Tryz.func76, Tryz.ntmps76
    go_wp2
    exact bodyPost_ret (v := .tuple #[val 2 1 ⟨#[]⟩, .nilIface]) (by simp [results, Tryz.results76, go_sem, val]) rfl ⟨rfl, (Below.refl _ _).alloc (Nat.le_refl _) _⟩
  by_cases hQ : s.data.toList.head? = some 39
  · have hp : parseL s.data.toList = (ptErr (unqL s.data.toList), 3, 0, (unqL s.data.toList).getD []) := by
      unfold parseL; rw [if_neg hF, if_neg hT, if_pos hQ]
    rw [hp]
    have hsz : 0 < s.size := by
      rw [size_len]; cases h : s.data.toList with
      | nil => rw [h] at hQ; simp at hQ
      | cons a b => simp
    have h0 : s[0] = 39 := by
      rw [head_list s hsz] at hQ; simpa using hQ
    exact parse_text s w hs hsz h0
  · have hp : parseL s.data.toList = (piErr s.data.toList, 1, piN s.data.toList, []) := by
      unfold parseL; rw [if_neg hF, if_neg hT, if_neg hQ]
    rw [hp]
    have hpi := fun w => parseInt_any s w (Nat.le_trans hs (by unfold maxLen; decide))
    have bF : (s.toList == [102, 97, 108, 115, 101]) = false := by rw [Lib.toList_data]; simpa using hF
    have bT : (s.toList == [116, 114, 117, 101]) = false := by rw [Lib.toList_data]; simpa using hT
    by_cases hE : s.data.toList = []
    · obtain rfl := list_eq hE
      clear hF hT hQ hp bF bT hE
      generalize piErr (⟨[].toArray⟩ : ByteArray).data.toList = ee at hpi ⊢
      generalize piN (⟨[].toArray⟩ : ByteArray).data.toList = nn at hpi ⊢
      by_cases h : ee = 0
      · subst h
        dsimp only at *
        rw [resV_0] at hpi ⊢
        go_enter Tryz.func76, Tryz.ntmps76
        go_wp2_with (go_at_call 97; refine (hpi _).mono ?_; rintro e W1 ⟨rfl, hb⟩; obtain ⟨hc, hf⟩ := bcell hb)
        exact bodyPost_ret (v := .tuple #[val 1 nn ⟨#[]⟩, .nilIface]) (by simp [results, Tryz.results76, go_sem, val, hc]) rfl ⟨rfl, below3 hb⟩
      · dsimp only at *
        rw [resV_ne h] at hpi ⊢
        go_enter Tryz.func76, Tryz.ntmps76
        go_wp2_with (go_at_call 97; refine (hpi _).mono ?_; rintro e W1 ⟨rfl, hb⟩; obtain ⟨hc, hf⟩ := bcell hb)
        exact bodyPost_ret (v := .tuple #[val 0 0 ⟨#[]⟩, .iface 49 (.int .i64 ee)]) (by simp [results, Tryz.results76, go_sem, val, hc]) rfl ⟨rfl, below3 hb⟩
    · have bE : s.toList.isEmpty = false := nonE s hE
      have bN : ¬ s.toList = [] := by rw [Lib.toList_data]; exact hE
      have hsz : 0 < s.size := by
        rw [size_len]; exact List.length_pos_iff.2 hE
      have h0 : ¬ s[0] = 39 := by
        intro e; apply hQ; rw [head_list s hsz, e]; rfl
      have h0' := ne39 h0
      clear hF hT hQ hp hE h0
      generalize piErr s.data.toList = ee at hpi ⊢
      generalize piN s.data.toList = nn at hpi ⊢
      by_cases h : ee = 0
      · subst h
        dsimp only at *
        rw [resV_0] at hpi ⊢
        go_enter Tryz.func76, Tryz.ntmps76
        go_wp2_with (go_at_call 97; refine (hpi _).mono ?_; rintro e W1 ⟨rfl, hb⟩; obtain ⟨hc, hf⟩ := bcell hb)
        exact bodyPost_ret (v := .tuple #[val 1 nn ⟨#[]⟩, .nilIface]) (by simp [results, Tryz.results76, go_sem, val, hc]) rfl ⟨rfl, below3 hb⟩
      · dsimp only at *
        rw [resV_ne h] at hpi ⊢
        go_enter Tryz.func76, Tryz.ntmps76
        go_wp2_with (go_at_call 97; refine (hpi _).mono ?_; rintro e W1 ⟨rfl, hb⟩; obtain ⟨hc, hf⟩ := bcell hb)
        exact bodyPost_ret (v := .tuple #[val 0 0 ⟨#[]⟩, .iface 49 (.int .i64 ee)]) (by simp [results, Tryz.results76, go_sem, val, hc]) rfl ⟨rfl, below3 hb⟩

def nErr (l : List UInt8) : Int := if l = [] then 2 else if 8 < l.length then 2 else if hasP noLet l = true then 2 else 0

set_option maxHeartbeats 2000000 in
set_option maxRecDepth 100000 in
theorem name_any (s : ByteArray) (w : World) (hs : s.size ≤ maxLen) :
    Calls Tryz.prog 40 #[.string s] w fun e w' => e = .returned (errV (nErr s.data.toList)) ∧ w' = w := by
  by_cases hE : s.data.toList = []
  · obtain rfl := list_eq hE
    go_enter Tryz.func40, Tryz.ntmps40
    go_wp2
    go_ret
    exact ⟨rfl, rfl⟩
  · have bE : s.toList.isEmpty = false := nonE s hE
    have bN : ¬ s.toList = [] := by rw [Lib.toList_data]; exact hE
    have hsz := size_len s
    by_cases h8 : 8 < s.size
    · have H1 : Hid (nErr s.data.toList = 2) := by
        show _ = _
        unfold nErr; rw [if_neg hE, if_pos (by omega)]
      clear hE hsz
      unfold maxLen at hs
      go_enter Tryz.func40, Tryz.ntmps40
      go_wp2
      go_ret
      exact ⟨ret_v (by rw [H1.out]; rfl), rfl⟩
    · by_cases hb : hasP noLet s.data.toList = true
      · have H1 : Hid (nErr s.data.toList = 2) := by
          show _ = _
          unfold nErr; rw [if_neg hE, if_neg (by omega), if_pos hb]
        clear hE hsz
        go_enter Tryz.func40, Tryz.ntmps40
        go_wp2_with (go_at_call 56; refine (anyLet s _ hs).mono ?_; rintro e w' ⟨rfl, rfl⟩)
        go_ret
        exact ⟨ret_v (by rw [H1.out]; rfl), rfl⟩
      · have hb' : hasP noLet s.data.toList = false := by simpa using hb
        have H1 : Hid (nErr s.data.toList = 0) := by
          show _ = _
          unfold nErr; rw [if_neg hE, if_neg (by omega), if_neg hb]
        clear hE hsz hb
        go_enter Tryz.func40, Tryz.ntmps40
        go_wp2_with (go_at_call 56; refine (anyLet s _ hs).mono ?_; rintro e w' ⟨rfl, rfl⟩)
        go_ret
        exact ⟨ret_v (by rw [H1.out]; rfl), rfl⟩

end Go.Proofs.YteabdlandbmdaaaGreatDoor

/-
  Plain mathematics of chapter 1: what is printed is read again, what is read is printed again, and how values stand to one another.
-/
namespace Go.Proofs.YteabdlandbmdaaaGreatDoor
open Go.RowKit
set_option linter.unusedVariables false
set_option linter.unusedSimpArgs false

theorem decFrom_snoc (l : List UInt8) : ∀ (acc m : Nat) (b : UInt8) (d : Nat), Lib.decFrom acc l = some m → Lib.digitVal b = some d → Lib.decFrom acc (l ++ [b]) = some (m * 10 + d) := by
  induction l with
  | nil => intro acc m b d h hd; simp [Lib.decFrom] at h; subst h; simp [Lib.decFrom, hd]
  | cons c r ih =>
    intro acc m b d h hd
    simp only [Lib.decFrom] at h
    simp only [List.cons_append, Lib.decFrom]
    cases hc : Lib.digitVal c with
    | none => rw [hc] at h; simp at h
    | some x => rw [hc] at h; exact ih _ m b d h hd

theorem digit_of (k : Nat) (h : k < 10) : Lib.digitVal (UInt8.ofNat (48 + k)) = some k ∧ noDig (UInt8.ofNat (48 + k)) = false ∧ ((UInt8.ofNat (48 + k) = 48) ↔ k = 0) := by
  have hk : k = 0 ∨ k = 1 ∨ k = 2 ∨ k = 3 ∨ k = 4 ∨ k = 5 ∨ k = 6 ∨ k = 7 ∨ k = 8 ∨ k = 9 := by omega
  rcases hk with rfl | rfl | rfl | rfl | rfl | rfl | rfl | rfl | rfl | rfl <;> decide

theorem dd_dec (u : Nat) : Lib.decFrom 0 (Lib.decDigits u) = some u := by
  induction u using Nat.strongRecOn with
  | _ u ih =>
    by_cases h : u < 10
    · rw [Lib.decDigits, dif_pos h]
      simp only [Lib.decFrom, (digit_of u h).1]; simp
    · rw [Lib.decDigits, dif_neg h, decFrom_snoc _ 0 (u / 10) _ (u % 10) (ih _ (by omega)) (digit_of _ (by omega)).1]
      congr 1; omega
theorem hasP_append (p : UInt8 → Bool) (a b : List UInt8) : hasP p (a ++ b) = (hasP p a || hasP p b) := by unfold hasP; rw [List.any_append]
theorem dd_dig (u : Nat) : hasP noDig (Lib.decDigits u) = false := by
  induction u using Nat.strongRecOn with
  | _ u ih =>
    by_cases h : u < 10
    · rw [Lib.decDigits, dif_pos h]
      simp only [hasP, List.any_cons, List.any_nil, (digit_of u h).2.1, Bool.or_false]
    · rw [Lib.decDigits, dif_neg h, hasP_append, ih _ (by omega)]
      simp only [hasP, List.any_cons, List.any_nil, (digit_of (u % 10) (by omega)).2.1, Bool.or_false]
theorem dd_head (u : Nat) (hu : 1 ≤ u) : ∃ c r, Lib.decDigits u = c :: r ∧ ¬ c = 48 := by
  induction u using Nat.strongRecOn with
  | _ u ih =>
    by_cases h : u < 10
    · rw [Lib.decDigits, dif_pos h]
      exact ⟨_, [], rfl, fun e => by have := (digit_of u h).2.2.1 e; omega⟩
    · obtain ⟨c, r, h1, h2⟩ := ih (u / 10) (by omega) (by omega)
      rw [Lib.decDigits, dif_neg h, h1]
      exact ⟨c, r ++ [_], rfl, h2⟩
theorem dd_zero : Lib.decDigits 0 = [48] := by rw [Lib.decDigits, dif_pos (by decide)]; rfl
theorem dd_len : ∀ (k u : Nat), u < 10 ^ (k + 1) → (Lib.decDigits u).length ≤ k + 1
  | 0, u, h => by rw [Lib.decDigits, dif_pos (by simpa using h)]; simp
  | k + 1, u, h => by
    by_cases h10 : u < 10
    · rw [Lib.decDigits, dif_pos h10]; simp
    · rw [Lib.decDigits, dif_neg h10, List.length_append]
      have := dd_len k (u / 10) (by rw [Nat.pow_succ] at h; omega)
      simp; omega
theorem dd_num (u : Nat) (h : u < 1000000000) : isNum (Lib.decDigits u) = true := by
  have hl := dd_len 8 u h
  have hd := dd_dig u
  by_cases h0 : u = 0
  · subst h0; rw [dd_zero]; decide
  · obtain ⟨c, r, e, hc⟩ := dd_head u (by omega)
    rw [e] at hl hd ⊢
    simp at hl
    simp [isNum, hd, hc]; omega
theorem dd_dec' (u : Nat) : dec (Lib.decDigits u) = u := by unfold dec; rw [dd_dec]; rfl

theorem dd_first (u : Nat) : ∃ c r, Lib.decDigits u = c :: r ∧ 48 ≤ c.toNat ∧ c.toNat ≤ 57 := by
  have hd := dd_dig u
  have he : ∃ c r, Lib.decDigits u = c :: r := by
    by_cases h0 : u = 0
    · subst h0; exact ⟨48, [], dd_zero⟩
    · obtain ⟨c, r, e, _⟩ := dd_head u (by omega); exact ⟨c, r, e⟩
  obtain ⟨c, r, e⟩ := he
  rw [e] at hd
  have hcr : noDig c = false ∧ hasP noDig r = false := by simpa [hasP] using hd
  have hc := hcr.1
  unfold noDig at hc; simp at hc
  exact ⟨c, r, e, by omega, by omega⟩

theorem piN_itoa (n : Int) (h1 : -1000000 ≤ n) (h2 : n ≤ 1000000) : piBad (Lib.itoa n) = false ∧ piN (Lib.itoa n) = n := by
  by_cases hn : n < 0
  · have e : Lib.itoa n = 45 :: Lib.decDigits n.natAbs := by unfold Lib.itoa; rw [if_pos hn]
    have hg : piNeg (45 :: Lib.decDigits n.natAbs) = true := by simp [piNeg, Lib.hasPrefix]
    have hd : piDig (45 :: Lib.decDigits n.natAbs) = Lib.decDigits n.natAbs := by
      unfold piDig Lib.trimPrefix; rw [if_pos (by simpa [piNeg] using hg)]; rfl
    have hne : ¬ Lib.decDigits n.natAbs = [48] := by
      obtain ⟨c, r, e2, hc⟩ := dd_head n.natAbs (by omega)
      rw [e2]; intro e3; simp at e3; exact hc e3.1
    rw [e]
    refine ⟨?_, ?_⟩
    · unfold piBad; rw [hg, hd, dd_num _ (by omega)]; simp [hne]
    · unfold piN; rw [if_pos hg, hd, dd_dec']; omega
  · have e : Lib.itoa n = Lib.decDigits n.toNat := by unfold Lib.itoa; rw [if_neg hn]
    obtain ⟨c, r, e2, hc1, hc2⟩ := dd_first n.toNat
    have n45 : ¬ c = 45 := by intro h; rw [h] at hc1; simp at hc1
    have hg : piNeg (Lib.decDigits n.toNat) = false := by
      rw [e2]; simp only [piNeg, Lib.hasPrefix, List.isPrefixOf, Bool.and_true]; simpa using fun h => n45 (Eq.symm h)
    have hd : piDig (Lib.decDigits n.toNat) = Lib.decDigits n.toNat := by
      unfold piDig Lib.trimPrefix; rw [if_neg (by have := hg; unfold piNeg at this; simp [this])]
    rw [e]
    refine ⟨?_, ?_⟩
    · unfold piBad; rw [hg, hd, dd_num _ (by omega)]; rfl
    · unfold piN; rw [if_neg (by simp [hg]), hd, dd_dec']; omega
theorem itoa_first (n : Int) : ∃ c r, Lib.itoa n = c :: r ∧ 45 ≤ c.toNat ∧ c.toNat ≤ 57 := by
  by_cases hn : n < 0
  · exact ⟨45, Lib.decDigits n.natAbs, by unfold Lib.itoa; rw [if_pos hn], by decide, by decide⟩
  · obtain ⟨c, r, e, h1, h2⟩ := dd_first n.toNat
    exact ⟨c, r, by unfold Lib.itoa; rw [if_neg hn, e], by omega, h2⟩

theorem parse_show {t n : Int} {l : List UInt8} (h : vErr t n l = 0) : parseL (showL t n l) = (0, t, n, l) := by
  rcases vErr_ok h with ⟨rfl, h1, h2, rfl⟩ | ⟨rfl, hn, rfl⟩ | ⟨rfl, rfl, hl, hb⟩
  · have e : showL 1 n [] = Lib.itoa n := by unfold showL; rw [if_pos rfl]
    obtain ⟨c, r, e2, c1, c2⟩ := itoa_first n
    obtain ⟨p1, p2⟩ := piN_itoa n h1 h2
    have n102 : ¬ c = 102 := by intro h; rw [h] at c2; simp at c2
    have n116 : ¬ c = 116 := by intro h; rw [h] at c2; simp at c2
    have n39 : ¬ c = 39 := by intro h; rw [h] at c1; simp at c1
    rw [e]
    have hp : piErr (Lib.itoa n) = 0 := by unfold piErr; rw [p1, p2]; simpa using h
    unfold parseL
    rw [if_neg (by rw [e2]; simp [n102]), if_neg (by rw [e2]; simp [n116]), if_neg (by rw [e2]; simp [n39]), hp, p2]
  · rcases hn with rfl | rfl <;> decide
  · have e : showL 3 0 l = quo l := by unfold showL; rw [if_neg (by decide), if_neg (by decide)]
    rw [e]
    have hu : unqL (quo l) = some l := by simp [quo, unqL, und_dbl]
    unfold parseL
    rw [if_neg (by simp [quo]), if_neg (by simp [quo]), if_pos (by simp [quo]), hu]
    have : ptErr (some l) = 0 := by simp only [ptErr, hb]; rw [← vErr_3]; simpa using h
    rw [this]; rfl

theorem dbl_und (l : List UInt8) : ∀ r, und l = some r → dbl r = l := by
  induction l using und.induct with
  | case1 => intro r h; simp [und] at h; subst h; rfl
  | case2 => intro r h; simp [und] at h
  | case3 c hc => intro r h; simp [und, hc] at h; subst h; simp [dbl, hc]
  | case4 r ih => intro q h; simp [und] at h; obtain ⟨x, hx, rfl⟩ := h; simp [dbl, ih x hx]
  | case5 d r hd => intro q h; simp [und, hd] at h
  | case6 c d r hc ih => intro q h; simp [und, hc] at h; obtain ⟨x, hx, rfl⟩ := h; simp [dbl, hc, ih x hx]
theorem quo_unq {l r : List UInt8} (h : unqL l = some r) : quo r = l := by
  cases l with
  | nil => simp [unqL] at h
  | cons c q =>
    simp only [unqL] at h
    by_cases hc : c = 39 ∧ q.getLast? = some 39
    · rw [if_pos hc] at h
      unfold quo
      rw [dbl_und _ _ h, hc.1]
      congr 1
      obtain ⟨ys, rfl⟩ := List.getLast?_eq_some_iff.1 hc.2
      simp
    · rw [if_neg hc] at h; simp at h

theorem dec_pos (l : List UInt8) : ∀ acc m, 1 ≤ acc → Lib.decFrom acc l = some m → 1 ≤ m := by
  induction l with
  | nil => intro acc m h e; simp [Lib.decFrom] at e; omega
  | cons c r ih =>
    intro acc m h e
    simp only [Lib.decFrom] at e
    cases hc : Lib.digitVal c with
    | none => rw [hc] at e; simp at e
    | some x => rw [hc] at e; exact ih _ m (by omega) e
theorem digit_inv (c : UInt8) (h : noDig c = false) : Lib.digitVal c = some (c.toNat - 48) ∧ c.toNat - 48 < 10 ∧ c = UInt8.ofNat (48 + (c.toNat - 48)) := by
  unfold noDig at h; simp at h
  refine ⟨by unfold Lib.digitVal; rw [if_pos (by omega)], by omega, ?_⟩
  rw [show 48 + (c.toNat - 48) = c.toNat by omega]; simp
theorem dd_of_len (n : Nat) : ∀ (r : List UInt8) (hn : r.length = n) (c : UInt8) (m : Nat), hasP noDig (c :: r) = false → (¬ c = 48 ∨ r = []) → Lib.decFrom 0 (c :: r) = some m → Lib.decDigits m = c :: r := by
  induction n with
  | zero =>
    intro r hn c m h _ e
    obtain rfl := List.eq_nil_of_length_eq_zero hn
    have hc : noDig c = false := by simpa [hasP] using h
    obtain ⟨d1, d2, d3⟩ := digit_inv c hc
    simp only [Lib.decFrom, d1] at e
    have : m = c.toNat - 48 := by simpa using e.symm
    subst this
    rw [Lib.decDigits, dif_pos d2, ← d3]
  | succ n ih =>
    intro r hn c m h h0 e
    obtain ⟨q, b, rfl⟩ : ∃ q b, r = q ++ [b] := by
      rcases List.eq_nil_or_concat r with e0 | ⟨q, b, e0⟩
      · rw [e0] at hn; simp at hn
      · exact ⟨q, b, by simpa using e0⟩
    have hqn : q.length = n := by simpa using hn
    have hne : ¬ c = 48 := by
      rcases h0 with h0 | h0
      · exact h0
      · simp at h0
    rw [show c :: (q ++ [b]) = (c :: q) ++ [b] from rfl] at h e ⊢
    rw [hasP_append] at h
    have hq : hasP noDig (c :: q) = false := by simp at h; exact h.1
    have hb : noDig b = false := by simp [hasP] at h; exact h.2
    obtain ⟨m', hm'⟩ := dec_of (c :: q) 0 hq
    obtain ⟨d1, d2, d3⟩ := digit_inv b hb
    rw [decFrom_snoc _ 0 m' b _ hm' d1] at e
    have hm : m = m' * 10 + (b.toNat - 48) := by simpa using e.symm
    have hc : noDig c = false := by
      have : noDig c = false ∧ hasP noDig q = false := by simpa [hasP] using hq
      exact this.1
    obtain ⟨c1, c2, c3⟩ := digit_inv c hc
    have hpos : 1 ≤ m' := by
      simp only [Lib.decFrom, c1] at hm'
      refine dec_pos q _ m' ?_ hm'
      have : ¬ c.toNat - 48 = 0 := by intro e0; apply hne; rw [c3, e0]; rfl
      omega
    have i := ih q hqn c m' hq (Or.inl hne) hm'
    rw [Lib.decDigits, dif_neg (by omega), show m / 10 = m' by omega, show m % 10 = b.toNat - 48 by omega, i, ← d3]

theorem dd_of (r : List UInt8) (c : UInt8) (m : Nat) (h : hasP noDig (c :: r) = false) (h0 : ¬ c = 48 ∨ r = []) (e : Lib.decFrom 0 (c :: r) = some m) : Lib.decDigits m = c :: r :=
  dd_of_len r.length r rfl c m h h0 e

theorem itoa_piN {l : List UInt8} (h : piBad l = false) : Lib.itoa (piN l) = l := by
  unfold piBad at h
  simp only [Bool.or_eq_false_iff, Bool.not_eq_false', Bool.and_eq_false_iff, decide_eq_false_iff_not] at h
  obtain ⟨hn, h2⟩ := h
  obtain ⟨hat, hd0, hd1, hd9⟩ := isNum_dec hn
  have hdd : Lib.decDigits (dec (piDig l)).toNat = piDig l ∧ (¬ piDig l = [48] → 1 ≤ dec (piDig l)) := by
    cases hdl : piDig l with
    | nil => rw [hdl] at hn; simp [isNum] at hn
    | cons c r =>
      rw [hdl] at hn
      simp only [isNum, Bool.and_eq_true, Bool.not_eq_true', Bool.or_eq_true, decide_eq_true_eq, decide_eq_false_iff_not] at hn
      obtain ⟨⟨h8, hz⟩, hd⟩ := hn
      obtain ⟨m, hm⟩ := dec_of (c :: r) 0 hd
      have hz' : ¬ c = 48 ∨ r = [] := by
        rcases hz with hz | hz
        · exact Or.inl hz
        · exact Or.inr (by simpa using hz)
      have hdec : dec (c :: r) = (m : Int) := by unfold dec; rw [hm]; rfl
      have hdm := dd_of r c m hd hz' hm
      refine ⟨by rw [hdec]; exact hdm, fun hne => ?_⟩
      rw [hdec]
      by_cases hm0 : m = 0
      · subst hm0; rw [dd_zero] at hdm; exact absurd hdm.symm hne
      · omega
  by_cases hg : piNeg l = true
  · have hne : ¬ piDig l = [48] := by
      rcases h2 with h2 | h2
      · rw [hg] at h2; simp at h2
      · exact h2
    have h1 := hdd.2 hne
    have e : piN l = -(dec (piDig l)) := by unfold piN; rw [if_pos hg]
    unfold Lib.itoa
    rw [if_pos (by omega), e, show (-(dec (piDig l))).natAbs = (dec (piDig l)).toNat by omega, hdd.1]
    cases hl : l with
    | nil => rw [hl] at hg; simp [piNeg, Lib.hasPrefix] at hg
    | cons c r =>
      rw [hl] at hg
      have hc : c = 45 := by simp [piNeg, Lib.hasPrefix] at hg; first | exact hg | exact hg.symm
      subst hc
      simp [piDig, Lib.trimPrefix, Lib.hasPrefix]
  · have e : piN l = dec (piDig l) := by unfold piN; rw [if_neg hg]
    have hd : piDig l = l := by
      unfold piDig Lib.trimPrefix; rw [if_neg (by simpa [piNeg] using hg)]
    unfold Lib.itoa
    rw [if_neg (by omega), e, hdd.1, hd]

theorem show_parse {l : List UInt8} (h : (parseL l).1 = 0) : vErr (parseL l).2.1 (parseL l).2.2.1 (parseL l).2.2.2 = 0 ∧ showL (parseL l).2.1 (parseL l).2.2.1 (parseL l).2.2.2 = l := by
  unfold parseL at h ⊢
  by_cases hF : l = [102, 97, 108, 115, 101]
  · subst hF; exact ⟨by decide, by decide⟩
  by_cases hT : l = [116, 114, 117, 101]
  · subst hT; exact ⟨by decide, by decide⟩
  rw [if_neg hF, if_neg hT] at h ⊢
  by_cases hQ : l.head? = some 39
  · rw [if_pos hQ] at h ⊢
    dsimp only at h ⊢
    cases hu : unqL l with
    | none => rw [hu] at h; simp [ptErr] at h
    | some r =>
      rw [hu] at h
      by_cases hb : hasP badB r = true
      · simp [ptErr, hb] at h
      · have ht : tErr r = 0 := by simpa [ptErr, hb] using h
        refine ⟨by simpa [vErr_3] using ht, ?_⟩
        unfold showL; rw [if_neg (by decide), if_neg (by decide)]
        exact quo_unq hu
  · rw [if_neg hQ] at h ⊢
    dsimp only at h ⊢
    unfold piErr at h
    by_cases hb : piBad l = true
    · rw [if_pos hb] at h; simp at h
    · rw [if_neg hb] at h
      refine ⟨h, ?_⟩
      unfold showL; rw [if_pos rfl]
      exact itoa_piN (by simpa using hb)

end Go.Proofs.YteabdlandbmdaaaGreatDoor

/-
  What the walk of the law ValueBack says of its calls and of memory.
-/
namespace Go.Proofs.YteabdlandbmdaaaGreatDoor
open Go.RowKit
set_option linter.unusedVariables false
set_option linter.unusedSimpArgs false

abbrev agg (t n : Int) (s : ByteArray) : Value := .agg #[.int .i64 t, .int .i64 n, .string s]

theorem tabOn {w w' : World} (hT : Tab w) (hb : Below w.heap.size w w') : Tab w' := Lib.tabBelow_of_tabIs hT w' hb
theorem on1B {W0 W W' : World} (hK : Below W0.heap.size W0 W) (hb : Below W.heap.size W W') : Below W0.heap.size W0 W' := hK.trans (hb.mono hK.size)
end Go.Proofs.YteabdlandbmdaaaGreatDoor

/-
  What package record says, in plain functions: the fault of a record, two records joined; and how a record lies in memory.
-/
namespace Go.Proofs.YteabdlandbmdaaaGreatDoor
open Go.RowKit
set_option linter.unusedVariables false
set_option linter.unusedSimpArgs false

structure Pr where
  nm : ByteArray
  t : Int
  n : Int
  s : ByteArray

def Pr.cells (p : Pr) : List Value := [.string p.nm, .int .i64 p.t, .int .i64 p.n, .string p.s]
abbrev Pr.one (p : Pr) : Value := .agg #[.string p.nm, .int .i64 p.t, .int .i64 p.n, .string p.s]
def Pr.l (p : Pr) : List UInt8 := p.nm.data.toList
def Pr.bad (p : Pr) : Int := vErr p.t p.n p.s.data.toList
def Pr.lt (p q : Pr) : Bool := Op.bytesLess p.nm.toList q.nm.toList
def Pr.low (p q : Pr) : Bool := Op.bytesLess p.nm.toList q.nm.toList || p.nm.toList == q.nm.toList

def chk : Option Pr → List Pr → Int
  | _, [] => 0
  | none, p :: r => if nErr p.l = 0 then (if p.bad = 0 then chk (some p) r else p.bad) else nErr p.l
  | some q, p :: r => if nErr p.l = 0 then (if p.bad = 0 then (if p.low q = true then 7 else chk (some p) r) else p.bad) else nErr p.l
def rErr (L : List Pr) : Int := if 8 < L.length then 4 else chk none L

def prv (L : List Pr) (k : Nat) : Option Pr := if k = 0 then none else L[k - 1]?

def Sz (L : List Pr) : Prop := ∀ p ∈ L, p.nm.size ≤ maxLen ∧ p.s.size ≤ maxLen

def Lies (w : World) (b off : Nat) (L : List Pr) : Prop :=
  ∀ k p, L[k]? = some p → w.cell? ⟨b, off + k * 4, none⟩ = some (.string p.nm) ∧ w.cell? ⟨b, off + k * 4 + 1, none⟩ = some (.int .i64 p.t) ∧ w.cell? ⟨b, off + k * 4 + 2, none⟩ = some (.int .i64 p.n) ∧ w.cell? ⟨b, off + k * 4 + 3, none⟩ = some (.string p.s)

theorem chk_end (o : Option Pr) : chk o [] = 0 := by cases o <;> rfl
theorem drop_at {L : List Pr} {k : Nat} {p : Pr} (h : L[k]? = some p) : L.drop k = p :: L.drop (k + 1) := by
  obtain ⟨hk, rfl⟩ := List.getElem?_eq_some_iff.1 h
  exact List.drop_eq_getElem_cons hk
theorem chk_name {o : Option Pr} {p : Pr} {r : List Pr} (h : ¬ nErr p.l = 0) : chk o (p :: r) = nErr p.l := by cases o <;> simp [chk, h]
theorem chk_bad {o : Option Pr} {p : Pr} {r : List Pr} (h : nErr p.l = 0) (h2 : ¬ p.bad = 0) : chk o (p :: r) = p.bad := by cases o <;> simp [chk, h, h2]
theorem chk_first {p : Pr} {r : List Pr} (h : nErr p.l = 0) (h2 : p.bad = 0) : chk none (p :: r) = chk (some p) r := by simp [chk, h, h2]
theorem chk_low {q p : Pr} {r : List Pr} (h : nErr p.l = 0) (h2 : p.bad = 0) (h3 : p.low q = true) : chk (some q) (p :: r) = 7 := by simp [chk, h, h2, h3]
theorem chk_up {q p : Pr} {r : List Pr} (h : nErr p.l = 0) (h2 : p.bad = 0) (h3 : p.low q = false) : chk (some q) (p :: r) = chk (some p) r := by simp [chk, h, h2, h3]
theorem low_parts {p q : Pr} (h : p.low q = true) : Op.bytesLess p.nm.toList q.nm.toList = true ∨ (Op.bytesLess p.nm.toList q.nm.toList = false ∧ (p.nm.toList == q.nm.toList) = true) := by
  unfold Pr.low at h
  cases h1 : Op.bytesLess p.nm.toList q.nm.toList
  · right; rw [h1, Bool.false_or] at h; exact ⟨rfl, h⟩
  · left; rfl
theorem up_parts {p q : Pr} (h : ¬ p.low q = true) : Op.bytesLess p.nm.toList q.nm.toList = false ∧ (p.nm.toList == q.nm.toList) = false := by
  unfold Pr.low at h
  cases h1 : Op.bytesLess p.nm.toList q.nm.toList
  · refine ⟨rfl, ?_⟩
    cases h2 : (p.nm.toList == q.nm.toList)
    · rfl
    · rw [h1, h2] at h; exact absurd rfl h
  · rw [h1] at h; exact absurd rfl h
end Go.Proofs.YteabdlandbmdaaaGreatDoor
