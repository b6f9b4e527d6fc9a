/-
  A text's lines, each with its end: what they are, and that they make the text.
-/
import Derived.Test.YteabdlandbmdaaaGreatDoorM01
import Derived.Lib.IndexLaws
import Derived.Lib.Walk
import Derived.Lib.Bytealg
import Derived.Test.YteabdlandbmdaaaGreatDoorM10
import Derived.Lib.AtoiAll
namespace Go.Proofs.YteabdlandbmdaaaGreatDoor
open Go.RowKit
set_option linter.unusedVariables false
set_option linter.unusedSimpArgs false


abbrev Nm := List UInt8
def bs (l : Nm) : ByteArray := ⟨l.toArray⟩
theorem bs_toList (l : Nm) : (bs l).toList = l := by rw [Lib.toList_data]; simp [bs]
theorem bs_data (l : Nm) : (bs l).data.toList = l := by simp [bs]
theorem bs_self (s : ByteArray) : bs s.toList = s := by rw [Lib.toList_data]; cases s; simp [bs]
theorem bs_size (l : Nm) : (bs l).size = l.length := by simp [bs, ByteArray.size]
attribute [simp, go_sem] bs_toList bs_data
theorem cellB {w : World} {b i : Nat} {cs : Array Value} {t : TypeId} {u : Value} (h : w.heap[b]? = some (.cells cs t (0, 0))) (hu : cs[i]? = some u) : w.cell? ⟨b, i, none⟩ = some u := by simp [World.cell?, h, hu]
theorem frzB {w : World} {b i : Nat} {cs : Array Value} {t : TypeId} (h : w.heap[b]? = some (.cells cs t (0, 0))) : w.frozen? ⟨b, i, none⟩ = false := by simp [World.frozen?, h]
def cutL (l : Nm) : Nm × Nm := if Lib.indexByte l 10 = -1 then (l, []) else (l.take ((Lib.indexByte l 10).toNat + 1), l.drop ((Lib.indexByte l 10).toNat + 1))
def linesF : Nat → Nm → List Nm
  | 0, _ => []
  | k + 1, l => if l = [] then [] else (cutL l).1 :: linesF k (cutL l).2
def linesL (l : Nm) : List Nm := linesF l.length l
theorem cutL_len {l : Nm} (h : l ≠ []) : (cutL l).2.length < l.length := by
  have : 0 < l.length := List.length_pos_iff.2 h
  unfold cutL
  split
  · exact this
  · simp; omega
theorem linesF_any : ∀ (k m : Nat) (l : Nm), l.length ≤ k → l.length ≤ m → linesF k l = linesF m l
  | 0, 0, _, _, _ => rfl
  | 0, m + 1, l, h, _ => by
    have : l = [] := List.eq_nil_of_length_eq_zero (by omega)
    subst this; rfl
  | k + 1, 0, l, _, h => by
    have : l = [] := List.eq_nil_of_length_eq_zero (by omega)
    subst this; rfl
  | k + 1, m + 1, l, h, h' => by
    unfold linesF
    split
    · rfl
    · rename_i hl
      have := cutL_len hl
      rw [linesF_any k m _ (by omega) (by omega)]
theorem linesL_cons {l : Nm} (h : l ≠ []) : linesL l = (cutL l).1 :: linesL (cutL l).2 := by
  unfold linesL
  have hl := cutL_len h
  obtain ⟨k, hk⟩ : ∃ k, l.length = k + 1 := ⟨l.length - 1, by omega⟩
  rw [hk]
  show (if l = [] then [] else _) = _
  rw [if_neg h, linesF_any k _ _ (by omega) (Nat.le_refl _)]
theorem linesL_nil : linesL [] = [] := rfl

theorem linesF_le : ∀ (k : Nat) (l : Nm), (linesF k l).length ≤ k
  | 0, _ => Nat.le_refl _
  | k + 1, l => by
    unfold linesF
    split
    · exact Nat.zero_le _
    · have := linesF_le k (cutL l).2
      simp only [List.length_cons]
      omega
theorem suf_trim {y p : Nm} (h : Lib.hasSuffix y p = true) : Lib.trimSuffix y p ++ p = y := by
  unfold Lib.trimSuffix
  rw [if_pos h]
  unfold Lib.hasSuffix at h
  obtain ⟨t, ht⟩ := List.isSuffixOf_iff_suffix.1 h
  subst ht
  simp
theorem suf_app (x p : Nm) : Lib.hasSuffix (x ++ p) p = true := List.isSuffixOf_iff_suffix.2 ⟨x, rfl⟩
theorem trim_app (x p : Nm) : Lib.trimSuffix (x ++ p) p = x := by
  unfold Lib.trimSuffix
  rw [if_pos (suf_app x p)]
  simp
theorem idxB_app {c : UInt8} (s : Nm) : ∀ {w : Nm}, c ∉ w → Lib.indexByte (w ++ c :: s) c = w.length
  | [], _ => by simp [Lib.indexByte]
  | x :: r, h => by
    have ih := idxB_app s (w := r) (fun hh => h (List.mem_cons_of_mem _ hh))
    have hx : ¬ x = c := fun e => h (by rw [e]; exact List.mem_cons_self ..)
    rw [List.cons_append, Lib.indexByte, ih, if_neg (by simpa using hx), if_neg (by simp)]
    simp
theorem cutL_app {w : Nm} (h : (10 : UInt8) ∉ w) (s : Nm) : cutL (w ++ 10 :: s) = (w ++ [10], s) := by
  have e := idxB_app s h
  have e2 : w ++ 10 :: s = (w ++ [10]) ++ s := by simp
  have e3 : ((w.length : Int)).toNat + 1 = (w ++ [10]).length := by simp
  unfold cutL
  rw [if_neg (by rw [e]; omega), e, e3, e2, List.take_left, List.drop_left]
theorem linesL_app {w : Nm} (h : (10 : UInt8) ∉ w) (s : Nm) : linesL (w ++ 10 :: s) = (w ++ [10]) :: linesL s := by
  rw [linesL_cons (by simp), cutL_app h]
theorem cutL_join (l : Nm) : (cutL l).1 ++ (cutL l).2 = l := by
  unfold cutL
  split
  · simp
  · exact List.take_append_drop _ _
theorem lines_flat : ∀ (k : Nat) (l : Nm), l.length ≤ k → (linesL l).flatten = l
  | 0, l, h => by
    have : l = [] := List.eq_nil_of_length_eq_zero (by omega)
    subst this; rfl
  | k + 1, l, h => by
    by_cases hl : l = []
    · subst hl; rfl
    · have := cutL_len hl
      rw [linesL_cons hl, List.flatten_cons, lines_flat k _ (by omega), cutL_join]
theorem linesL_flat (l : Nm) : (linesL l).flatten = l := lines_flat _ l (Nat.le_refl _)
theorem linesL_many : ∀ (ws : List Nm) (s : Nm), (∀ w ∈ ws, (10 : UInt8) ∉ w) → linesL ((ws.flatMap fun w => w ++ [10]) ++ s) = (ws.map fun w => w ++ [10]) ++ linesL s
  | [], s, _ => rfl
  | w :: r, s, h => by
    rw [List.flatMap_cons, List.append_assoc, List.append_assoc, List.singleton_append, linesL_app (h w (by simp)), linesL_many r s (fun x hx => h x (List.mem_cons_of_mem _ hx))]
    rfl
end Go.Proofs.YteabdlandbmdaaaGreatDoor

/-
  What package text says, in plain functions: a graph's lines, what a line reads as, what lines make; there and back.
-/
namespace Go.Proofs.YteabdlandbmdaaaGreatDoor
open Go.RowKit
set_option linter.unusedVariables false
set_option linter.unusedSimpArgs false

def wNode : Nm := [110, 111, 100, 101]
def wTie : Nm := [116, 105, 101]
def j4 (a b c d : Nm) : Nm := a ++ 32 :: (b ++ 32 :: (c ++ 32 :: d))
def ndL (n : Nd) : Nm := j4 wNode (Lib.itoa n.id) n.kd.data.toList (showR n.rc)
def teL (t : Te) : Nm := j4 wTie t.bd.data.toList (Lib.itoa t.fr) (Lib.itoa t.tt)
def gText (N : List Nd) (T : List Te) : Nm := (N.flatMap fun n => ndL n ++ [10]) ++ (T.flatMap fun t => teL t ++ [10])

def cut1 (l : Nm) : Option (Nm × Nm) := if Lib.indexByte l 32 = -1 then none else some (l.take (Lib.indexByte l 32).toNat, l.drop ((Lib.indexByte l 32).toNat + 1))
theorem cut1_app {a : Nm} (s : Nm) (h : (32 : UInt8) ∉ a) : cut1 (a ++ 32 :: s) = some (a, s) := by
  have e := idxB_app s h
  unfold cut1
  rw [if_neg (by rw [e]; omega), e]
  simp
theorem cut1_some {l a s : Nm} (h : cut1 l = some (a, s)) : l = a ++ 32 :: s := by
  unfold cut1 at h
  split at h
  · cases h
  · rename_i hm
    obtain ⟨i, hi⟩ : ∃ i : Nat, Lib.indexByte l 32 = i := ⟨(Lib.indexByte l 32).toNat, by have := Lib.indexByte_ge l 32; omega⟩
    have hx := (Lib.indexByte_some hi).1
    rw [hi] at h
    injection h with h
    injection h with h1 h2
    obtain ⟨hl, hv⟩ := List.getElem?_eq_some_iff.1 hx
    rw [← h1, ← h2]
    have e := List.take_append_drop i l
    rw [List.drop_eq_getElem_cons hl, hv] at e
    simpa using e.symm
theorem cut1_none {l : Nm} (h : cut1 l = none) : Lib.indexByte l 32 = -1 := by
  unfold cut1 at h
  split at h
  · assumption
  · cases h
def w4 (l : Nm) : Option (Nm × Nm × Nm × Nm) :=
  match cut1 l with
  | none => none
  | some (a, r) => match cut1 r with
    | none => none
    | some (b, q) => match cut1 q with
      | none => none
      | some (c, d) => some (a, b, c, d)
theorem w4_app {a b c : Nm} (ha : (32 : UInt8) ∉ a) (hb : (32 : UInt8) ∉ b) (hc : (32 : UInt8) ∉ c) (d : Nm) : w4 (j4 a b c d) = some (a, b, c, d) := by
  unfold w4 j4
  simp only [cut1_app _ ha, cut1_app _ hb, cut1_app _ hc]
theorem w4_some {l a b c d : Nm} (h : w4 l = some (a, b, c, d)) : l = j4 a b c d := by
  unfold w4 at h
  cases h1 : cut1 l with
  | none => rw [h1] at h; cases h
  | some p =>
    obtain ⟨a', r⟩ := p
    rw [h1] at h
    simp only at h
    cases h2 : cut1 r with
    | none => rw [h2] at h; cases h
    | some p =>
      obtain ⟨b', q⟩ := p
      rw [h2] at h
      simp only at h
      cases h3 : cut1 q with
      | none => rw [h3] at h; cases h
      | some p =>
        obtain ⟨c', d'⟩ := p
        rw [h3] at h
        simp only [Option.some.injEq, Prod.mk.injEq] at h
        obtain ⟨rfl, rfl, rfl, rfl⟩ := h
        rw [cut1_some h1, cut1_some h2, cut1_some h3]
        rfl

def numN (w : Nm) : Option Int := match Lib.atoiAll w with
  | .ok v => if (0 ≤ v ∧ v ≤ 9999) ∧ Lib.itoa v = w then some v else none
  | _ => none
theorem numN_some {w : Nm} {v : Int} (h : numN w = some v) : Lib.itoa v = w := by
  unfold numN at h
  split at h
  · split at h
    · rename_i hh; injection h with h; subst h; exact hh.2
    · cases h
  · cases h
theorem numN_all : ∀ k : Fin 1001, numN (Lib.itoa (k.val : Int)) = some (k.val : Int) := by decide +kernel
theorem numN_itoa {v : Int} (h1 : 1 ≤ v) (h2 : v ≤ 1000) : numN (Lib.itoa v) = some v := by
  obtain ⟨k, rfl⟩ : ∃ k : Nat, v = k := ⟨v.toNat, by omega⟩
  exact numN_all ⟨k, by omega⟩
theorem itoa_no {v : Int} (h1 : 1 ≤ v) (h2 : v ≤ 1000) {c : UInt8} (hc : c = 32 ∨ c = 10) : c ∉ Lib.itoa v := fun hm => by
  have := itoa_bytes v (by omega) (by omega) c hm
  rcases hc with rfl | rfl
  · revert this; decide
  · revert this; decide
theorem name_no {l : Nm} (h : nErr l = 0) {c : UInt8} (hc : c = 32 ∨ c = 10) : c ∉ l := fun hm => by
  have := name_bytes h c hm
  rcases hc with rfl | rfl
  · revert this; decide
  · revert this; decide
theorem name_ne {l : Nm} (h : nErr l = 0) : l ≠ [] := fun e => by
  subst e; revert h; decide
theorem dbl_mem (l : Nm) : ∀ c ∈ dbl l, c = 39 ∨ c ∈ l := by
  induction l with
  | nil => intro c h; simp [dbl] at h
  | cons a r ih =>
    intro c h
    unfold dbl at h
    split at h
    · rcases List.mem_cons.1 h with h | h
      · exact .inl h
      · rcases List.mem_cons.1 h with h | h
        · exact .inl h
        · rcases ih c h with h | h
          · exact .inl h
          · exact .inr (List.mem_cons_of_mem _ h)
    · rcases List.mem_cons.1 h with h | h
      · exact .inr (h ▸ List.mem_cons_self ..)
      · rcases ih c h with h | h
        · exact .inl h
        · exact .inr (List.mem_cons_of_mem _ h)
theorem show_no {t n : Int} {l : Nm} (h : vErr t n l = 0) : (10 : UInt8) ∉ showL t n l := by
  have ht : t = 1 ∨ t = 2 ∨ t = 3 := by
    unfold vErr at h; split at h
    · assumption
    · exact absurd h (by decide)
  have hr : inR t n = true := by
    unfold vErr at h; rw [if_pos ht] at h; split at h
    · assumption
    · exact absurd h (by decide)
  unfold showL
  rcases ht with rfl | rfl | rfl
  · rw [if_pos rfl]
    have hr' : -1000000 ≤ n ∧ n ≤ 1000000 := by simpa [inR] using hr
    intro hm
    have := itoa_bytes n hr'.1 hr'.2 _ hm
    revert this; decide
  · rw [if_neg (by decide), if_pos rfl]
    split <;> decide
  · rw [if_neg (by decide), if_neg (by decide)]
    have hb : hasP badB l = false := by
      unfold vErr at h; rw [if_pos (by omega), if_pos hr, if_pos rfl] at h
      unfold tErr at h
      split at h
      · exact absurd h (by decide)
      · split at h
        · exact absurd h (by decide)
        · rename_i hq; simpa using hq
    intro hm
    unfold quo at hm
    rcases List.mem_cons.1 hm with e | hm
    · revert e; decide
    · rcases List.mem_append.1 hm with hm | hm
      · rcases dbl_mem l _ hm with e | hm
        · revert e; decide
        · unfold hasP at hb
          rw [List.any_eq_false] at hb
          have := hb _ hm
          revert this; decide
      · revert hm; decide
theorem joinW_mem (ws : List Nm) : ∀ c ∈ joinW ws, c = 44 ∨ ∃ w ∈ ws, c ∈ w := by
  rw [← joinW_eq]
  unfold Lib.join
  induction ws with
  | nil => intro c hc; simp at hc
  | cons a r ih =>
    intro c hc
    cases r with
    | nil => right; exact ⟨a, by simp, by simpa using hc⟩
    | cons b q =>
      rw [List.intercalate_cons_cons] at hc
      rcases List.mem_append.1 hc with hc | hc
      · rcases List.mem_append.1 hc with hc | hc
        · exact .inr ⟨a, by simp, hc⟩
        · exact .inl (by simpa using hc)
      · rcases ih c hc with h | ⟨w, h1, h2⟩
        · exact .inl h
        · exact .inr ⟨w, List.mem_cons_of_mem _ h1, h2⟩
theorem showR_no {L : List Pr} (h : rErr L = 0) : (10 : UInt8) ∉ showR L := by
  have hok := rErr_ok h
  unfold showR
  split
  · decide
  · intro hm
    rcases joinW_mem _ _ hm with e | ⟨w, h1, h2⟩
    · revert e; decide
    · obtain ⟨p, hp, rfl⟩ := List.mem_map.1 h1
      unfold wordOf at h2
      rcases List.mem_append.1 h2 with h2 | h2
      · exact name_no (hok p hp).1 (.inr rfl) h2
      · rcases List.mem_cons.1 h2 with e | h2
        · revert e; decide
        · exact show_no (hok p hp).2 h2
theorem showR_le {L : List Pr} (h : rErr L = 0) : (showR L).length ≤ 416 := by
  have hl := rErr_len h
  have hok := rErr_ok h
  unfold showR
  split
  · decide
  · have := joinW_len (L.map wordOf) (fun w hw => by
      obtain ⟨p, hp, rfl⟩ := List.mem_map.1 hw
      exact word_len (hok p hp))
    simp at this; omega

def ndO (a b c : Nm) : Option Nd := match numN a, readR c with
  | some v, some M => if b ≠ [] ∧ rErr M = 0 then some ⟨v, bs b, .nilIface, M⟩ else none
  | _, _ => none
def teO (a b c : Nm) : Option Te := match numN b, numN c with
  | some x, some y => if a ≠ [] then some ⟨bs a, x, y⟩ else none
  | _, _ => none
def capN (N : List Nd) (n : Nd) : List Nd := if 60 < N.length then N else N ++ [n]
def capT (T : List Te) (t : Te) : List Te := if 120 < T.length then T else T ++ [t]
def adS (N : List Nd) (T : List Te) (l : Nm) : Option (List Nd × List Te) := match w4 l with
  | none => none
  | some (a, b, c, d) =>
    if a = wNode then (match ndO b c d with
      | some n => if T = [] then some (capN N n, T) else none
      | none => none)
    else if a = wTie then (match teO b c d with
      | some t => some (N, capT T t)
      | none => none)
    else none
def lnS (st : List Nd × List Te) (y : Nm) : Option (List Nd × List Te) := if Lib.hasSuffix y [10] = true then adS st.1 st.2 (Lib.trimSuffix y [10]) else none
def lnF (ys : List Nm) : Option (List Nd × List Te) := ys.foldl (fun o y => o.bind fun st => lnS st y) (some ([], []))
theorem lnF_snoc (ys : List Nm) (y : Nm) : lnF (ys ++ [y]) = (lnF ys).bind fun st => lnS st y := by
  unfold lnF
  rw [List.foldl_append]
  rfl

structure NOk (n : Nd) : Prop where
  id1 : 1 ≤ n.id
  id2 : n.id ≤ 1000
  kd : nErr n.kd.data.toList = 0
  rc : rErr n.rc = 0
structure TOk (t : Te) : Prop where
  bd : nErr t.bd.data.toList = 0
  f1 : 1 ≤ t.fr
  f2 : t.fr ≤ 1000
  t1 : 1 ≤ t.tt
  t2 : t.tt ≤ 1000
theorem idOk_iff {i : Int} (h : idOk i = true) : 1 ≤ i ∧ i ≤ 1000 := by unfold idOk at h; simpa using h
theorem chkN_nok : ∀ (N : List Nd) (o : Option Nd), chkN o N = 0 → ∀ n ∈ N, NOk n
  | [], _, _, n, hn => by simp at hn
  | a :: r, o, h, n, hn => by
    by_cases h0 : ndE o a = 0
    · rw [chkN_ok h0] at h
      rcases List.mem_cons.1 hn with rfl | hn
      · unfold ndE at h0
        split at h0
        · rename_i hi
          split at h0
          · exact absurd h0 (by decide)
          · split at h0
            · rename_i hk; exact ⟨(idOk_iff hi).1, (idOk_iff hi).2, hk, h0⟩
            · rename_i hk; exact absurd h0 hk
        · exact absurd h0 (by decide)
      · exact chkN_nok r _ h n hn
    · rw [chkN_bad h0] at h; exact absurd h h0
theorem chkT_tok : ∀ (T : List Te) (o : Option Te), chkT o T = 0 → ∀ t ∈ T, TOk t
  | [], _, _, n, hn => by simp at hn
  | a :: r, o, h, n, hn => by
    by_cases h0 : teE o a = 0
    · rw [chkT_ok h0] at h
      rcases List.mem_cons.1 hn with rfl | hn
      · unfold teE at h0
        split at h0
        · rename_i hk
          split at h0
          · rename_i hi
            rw [Bool.and_eq_true] at hi
            exact ⟨hk, (idOk_iff hi.1).1, (idOk_iff hi.1).2, (idOk_iff hi.2).1, (idOk_iff hi.2).2⟩
          · exact absurd h0 (by decide)
        · rename_i hk; exact absurd h0 hk
      · exact chkT_tok r _ h n hn
    · rw [chkT_bad h0] at h; exact absurd h h0
theorem gErr_zero {N : List Nd} {T : List Te} (h : gErr N T = 0) : N.length ≤ 60 ∧ T.length ≤ 120 ∧ (∀ n ∈ N, NOk n) ∧ ∀ t ∈ T, TOk t := by
  unfold gErr at h
  split at h
  · exact absurd h (by decide)
  · split at h
    · rename_i h1 h2
      exact ⟨by omega, by omega, chkN_nok _ _ h2, chkT_tok _ _ h⟩
    · rename_i h1 h2; exact absurd h h2

theorem gText_c (N : List Nd) (T : List Te) : gText (cN N) T = gText N T := by
  unfold gText cN
  rw [List.flatMap_map]
  rfl
theorem wNode_no {c : UInt8} (hc : c = 32 ∨ c = 10) : c ∉ wNode := by rcases hc with rfl | rfl <;> decide
theorem wTie_no {c : UInt8} (hc : c = 32 ∨ c = 10) : c ∉ wTie := by rcases hc with rfl | rfl <;> decide
theorem j4_no {a b c d : Nm} {x : UInt8} (hx : x ≠ 32) (ha : x ∉ a) (hb : x ∉ b) (hc : x ∉ c) (hd : x ∉ d) : x ∉ j4 a b c d := by
  unfold j4
  simp only [List.mem_append, List.mem_cons, not_or]
  exact ⟨ha, hx, hb, hx, hc, hx, hd⟩
theorem ndL_no {n : Nd} (h : NOk n) : (10 : UInt8) ∉ ndL n := j4_no (by decide) (wNode_no (.inr rfl)) (itoa_no h.id1 h.id2 (.inr rfl)) (name_no h.kd (.inr rfl)) (showR_no h.rc)
theorem teL_no {t : Te} (h : TOk t) : (10 : UInt8) ∉ teL t := j4_no (by decide) (wTie_no (.inr rfl)) (name_no h.bd (.inr rfl)) (itoa_no h.f1 h.f2 (.inr rfl)) (itoa_no h.t1 h.t2 (.inr rfl))
theorem ndO_show {n : Nd} (h : NOk n) : ndO (Lib.itoa n.id) n.kd.data.toList (showR n.rc) = some n.c := by
  unfold ndO
  rw [numN_itoa h.id1 h.id2, read_show h.rc]
  simp only
  rw [if_pos ⟨name_ne h.kd, h.rc⟩]
  rfl
theorem teO_show {t : Te} (h : TOk t) : teO t.bd.data.toList (Lib.itoa t.fr) (Lib.itoa t.tt) = some t := by
  unfold teO
  rw [numN_itoa h.f1 h.f2, numN_itoa h.t1 h.t2]
  simp only
  rw [if_pos (name_ne h.bd)]
  rfl
theorem lnS_node {N : List Nd} {n : Nd} (h : NOk n) (hN : N.length ≤ 60) : lnS (N, []) (ndL n ++ [10]) = some (N ++ [n.c], []) := by
  unfold lnS
  rw [if_pos (suf_app _ _), trim_app]
  unfold adS
  rw [show w4 (ndL n) = some (wNode, Lib.itoa n.id, n.kd.data.toList, showR n.rc) from w4_app (wNode_no (.inl rfl)) (itoa_no h.id1 h.id2 (.inl rfl)) (name_no h.kd (.inl rfl)) _]
  simp only
  rw [if_pos trivial, ndO_show h]
  simp only
  rw [if_pos trivial]
  unfold capN
  rw [if_neg (by omega)]
theorem lnS_tie {N : List Nd} {T : List Te} {t : Te} (h : TOk t) (hT : T.length ≤ 120) : lnS (N, T) (teL t ++ [10]) = some (N, T ++ [t]) := by
  unfold lnS
  rw [if_pos (suf_app _ _), trim_app]
  unfold adS
  rw [show w4 (teL t) = some (wTie, t.bd.data.toList, Lib.itoa t.fr, Lib.itoa t.tt) from w4_app (wTie_no (.inl rfl)) (name_no h.bd (.inl rfl)) (itoa_no h.f1 h.f2 (.inl rfl)) _]
  simp only
  rw [if_neg (by decide), if_pos trivial, teO_show h]
  simp only
  unfold capT
  rw [if_neg (by omega)]
theorem fold_nodes : ∀ (M N : List Nd), (∀ n ∈ M, NOk n) → N.length + M.length ≤ 61 → (M.map fun n => ndL n ++ [10]).foldl (fun o y => o.bind fun st => lnS st y) (some (N, ([] : List Te))) = some (N ++ cN M, [])
  | [], N, _, _ => by simp [cN]
  | n :: r, N, h, hl => by
    simp only [List.length_cons] at hl
    rw [List.map_cons, List.foldl_cons, Option.bind_some, lnS_node (h n (by simp)) (by omega), fold_nodes r _ (fun x hx => h x (List.mem_cons_of_mem _ hx)) (by simp; omega)]
    simp [cN]
theorem fold_ties (N : List Nd) : ∀ (M T : List Te), (∀ t ∈ M, TOk t) → T.length + M.length ≤ 121 → (M.map fun t => teL t ++ [10]).foldl (fun o y => o.bind fun st => lnS st y) (some (N, T)) = some (N, T ++ M)
  | [], T, _, _ => by simp
  | t :: r, T, h, hl => by
    simp only [List.length_cons] at hl
    rw [List.map_cons, List.foldl_cons, Option.bind_some, lnS_tie (h t (by simp)) (by omega), fold_ties N r _ (fun x hx => h x (List.mem_cons_of_mem _ hx)) (by simp; omega)]
    simp
theorem gText_lines {N : List Nd} {T : List Te} (h : gErr N T = 0) : linesL (gText N T) = (N.map fun n => ndL n ++ [10]) ++ T.map fun t => teL t ++ [10] := by
  obtain ⟨_, _, hn, ht⟩ := gErr_zero h
  have := linesL_many (N.map ndL ++ T.map teL) [] (fun w hw => by
    rcases List.mem_append.1 hw with hw | hw
    · obtain ⟨n, hm, rfl⟩ := List.mem_map.1 hw; exact ndL_no (hn n hm)
    · obtain ⟨n, hm, rfl⟩ := List.mem_map.1 hw; exact teL_no (ht n hm))
  rw [List.append_nil, linesL_nil, List.append_nil, List.flatMap_append, List.flatMap_map, List.flatMap_map, List.map_append, List.map_map, List.map_map] at this
  exact this
theorem read_print {N : List Nd} {T : List Te} (h : gErr N T = 0) : lnF (linesL (gText N T)) = some (cN N, T) := by
  obtain ⟨h1, h2, hn, ht⟩ := gErr_zero h
  rw [gText_lines h]
  unfold lnF
  rw [List.foldl_append, fold_nodes N [] hn (by simp; omega), List.nil_append, fold_ties _ T [] ht (by simp; omega), List.nil_append]

theorem numN_w {w : Nm} {v : Int} (h : numN w = some v) : w = Lib.itoa v := (numN_some h).symm
theorem step_text {N N' : List Nd} {T T' : List Te} {y : Nm} (h : lnS (N, T) y = some (N', T')) (h1 : N'.length ≤ 60) (h2 : T'.length ≤ 120) : N.length ≤ 60 ∧ T.length ≤ 120 ∧ gText N' T' = gText N T ++ y := by
  unfold lnS at h
  split at h
  · rename_i hs
    have hy := suf_trim hs
    generalize Lib.trimSuffix y [10] = l at h hy
    simp only at h
    subst hy
    unfold adS at h
    cases hw : w4 l with
    | none => rw [hw] at h; cases h
    | some q =>
      obtain ⟨a, b, c, d⟩ := q
      have hl := w4_some hw
      rw [hw] at h
      simp only at h
      split at h
      · rename_i ha
        subst ha
        unfold ndO at h
        cases hn : numN b with
        | none => rw [hn] at h; simp at h
        | some v =>
          cases hr : readR d with
          | none => rw [hn, hr] at h; simp at h
          | some M =>
            rw [hn, hr] at h
            simp only at h
            by_cases hc : c ≠ [] ∧ rErr M = 0
            · rw [if_pos hc] at h
              simp only at h
              by_cases hT : T = []
              · subst hT
                rw [if_pos rfl] at h
                simp only [Option.some.injEq, Prod.mk.injEq] at h
                obtain ⟨rfl, rfl⟩ := h
                unfold capN at h1 ⊢
                by_cases h6 : 60 < N.length
                · rw [if_pos h6] at h1; omega
                · rw [if_neg h6] at h1 ⊢
                  refine ⟨by omega, by simp, ?_⟩
                  have e : ndL ⟨v, bs c, .nilIface, M⟩ = l := by
                    unfold ndL
                    simp only [bs_data]
                    rw [hl, numN_w hn, show_read hr hc.2]
                  unfold gText
                  rw [List.flatMap_append]
                  simp [e]
              · rw [if_neg hT] at h; cases h
            · rw [if_neg hc] at h; simp at h
      · split at h
        · rename_i ha hb
          subst hb
          unfold teO at h
          cases hn : numN c with
          | none => rw [hn] at h; simp at h
          | some v =>
            cases hr : numN d with
            | none => rw [hn, hr] at h; simp at h
            | some u =>
              rw [hn, hr] at h
              simp only at h
              by_cases hc : b ≠ []
              · rw [if_pos hc] at h
                simp only [Option.some.injEq, Prod.mk.injEq] at h
                obtain ⟨rfl, rfl⟩ := h
                unfold capT at h2 ⊢
                by_cases h6 : 120 < T.length
                · rw [if_pos h6] at h2; omega
                · rw [if_neg h6] at h2 ⊢
                  refine ⟨h1, by omega, ?_⟩
                  have e : teL ⟨bs b, v, u⟩ = l := by
                    unfold teL
                    simp only [bs_data]
                    rw [hl, numN_w hn, numN_w hr]
                  unfold gText
                  rw [List.flatMap_append]
                  simp [e]
              · rw [if_neg hc] at h; simp at h
        · cases h
  · cases h
theorem fold_none : ∀ ys : List Nm, ys.foldl (fun o y => o.bind fun st => lnS st y) (none : Option (List Nd × List Te)) = none
  | [] => rfl
  | _ :: r => fold_none r
theorem fold_from : ∀ (ys : List Nm) (N0 : List Nd) (T0 : List Te) {N : List Nd} {T : List Te}, ys.foldl (fun o y => o.bind fun st => lnS st y) (some (N0, T0)) = some (N, T) → N.length ≤ 60 → T.length ≤ 120 → N0.length ≤ 60 ∧ T0.length ≤ 120 ∧ gText N T = gText N0 T0 ++ ys.flatten
  | [], N0, T0, N, T, h, h1, h2 => by
    simp only [List.foldl_nil, Option.some.injEq, Prod.mk.injEq] at h
    obtain ⟨rfl, rfl⟩ := h
    exact ⟨h1, h2, by simp⟩
  | y :: r, N0, T0, N, T, h, h1, h2 => by
    rw [List.foldl_cons, Option.bind_some] at h
    cases hs : lnS (N0, T0) y with
    | none => rw [hs, fold_none] at h; cases h
    | some q =>
      obtain ⟨N1, T1⟩ := q
      rw [hs] at h
      obtain ⟨g1, g2, g3⟩ := fold_from r N1 T1 h h1 h2
      obtain ⟨k1, k2, k3⟩ := step_text hs g1 g2
      exact ⟨k1, k2, by rw [g3, k3]; simp⟩
theorem print_read {x : Nm} {N : List Nd} {T : List Te} (h : lnF (linesL x) = some (N, T)) (hg : gErr N T = 0) : gText N T = x := by
  obtain ⟨h1, h2, _, _⟩ := gErr_zero hg
  obtain ⟨_, _, e⟩ := fold_from _ _ _ h h1 h2
  rw [e, linesL_flat]
  rfl

theorem ndL_le {n : Nd} (h : NOk n) : (ndL n).length ≤ 460 := by
  have h1 := Lib.itoa_length_le n.id (by have := h.id1; omega) (by have := h.id2; omega)
  have h2 := name_len h.kd
  have h3 := showR_le h.rc
  unfold ndL j4 wNode
  simp only [List.length_append, List.length_cons, List.length_nil]
  omega
theorem teL_le {t : Te} (h : TOk t) : (teL t).length ≤ 60 := by
  have h1 := Lib.itoa_length_le t.fr (by have := h.f1; omega) (by have := h.f2; omega)
  have h3 := Lib.itoa_length_le t.tt (by have := h.t1; omega) (by have := h.t2; omega)
  have h2 := name_len h.bd
  unfold teL j4 wTie
  simp only [List.length_append, List.length_cons, List.length_nil]
  omega
theorem lines_le {α : Type} (f : α → Nm) (m : Nat) : ∀ l : List α, (∀ x ∈ l, (f x).length ≤ m) → (l.flatMap fun x => f x ++ [10]).length ≤ (m + 1) * l.length
  | [], _ => by simp
  | a :: r, h => by
    have h1 := h a (by simp)
    have h2 := lines_le f m r (fun x hx => h x (List.mem_cons_of_mem _ hx))
    simp only [List.flatMap_cons, List.length_append, List.length_cons, List.length_nil] at h2 ⊢
    rw [Nat.mul_add, Nat.mul_one]
    omega
theorem gText_le {N : List Nd} {T : List Te} (h : gErr N T = 0) : (gText N T).length ≤ 36000 := by
  obtain ⟨h1, h2, hn, ht⟩ := gErr_zero h
  have a := lines_le ndL 460 N (fun n hm => ndL_le (hn n hm))
  have b := lines_le teL 60 T (fun n hm => teL_le (ht n hm))
  have c : 461 * N.length ≤ 461 * 60 := Nat.mul_le_mul_left _ h1
  have d : 61 * T.length ≤ 61 * 120 := Nat.mul_le_mul_left _ h2
  unfold gText
  rw [List.length_append]
  omega
end Go.Proofs.YteabdlandbmdaaaGreatDoor
