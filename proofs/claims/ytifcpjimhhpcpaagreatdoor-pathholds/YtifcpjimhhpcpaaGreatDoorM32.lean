/-
  The mathematics of rows: what a row of a path is; that a path which is turned round has the same rows, turned round.
-/
import Derived.Test.YtifcpjimhhpcpaaGreatDoorM31
namespace Go.Proofs.YtifcpjimhhpcpaaGreatDoor
open Go.RowKit
set_option linter.unusedVariables false
set_option linter.unusedSimpArgs false

/-- A row of a path. -/
def Row (L : List Kd) (N : List Nd) (T : List Te) : List Sp → List Int → Prop
  | [], [] => True
  | [p], [x] => x ∈ fitI L N p
  | p :: q :: l, x :: y :: r => x ∈ fitI L N p ∧ tiedB T q x y = true ∧ Row L N T (q :: l) (y :: r)
  | _, _ => False
section
variable {L : List Kd} {N : List Nd} {T : List Te}
theorem row_len : ∀ (l : List Sp) (r : List Int), Row L N T l r → r.length = l.length
  | [], [], _ => rfl
  | [], _ :: _, h => by simp [Row] at h
  | [_], [], h => by simp [Row] at h
  | [_], [_], _ => rfl
  | [_], _ :: _ :: _, h => by simp [Row] at h
  | _ :: _ :: _, [], h => by simp [Row] at h
  | _ :: _ :: _, [_], h => by simp [Row] at h
  | p :: q :: l, x :: y :: r, h => by
    have := row_len (q :: l) (y :: r) h.2.2
    simp at this ⊢
    omega
theorem row_snoc : ∀ (l : List Sp) (r : List Int) (p : Sp) (i : Int), r.length = l.length → (Row L N T (l ++ [p]) (r ++ [i]) ↔ Row L N T l r ∧ i ∈ fitI L N p ∧ leadB T p r i = true)
  | [], [], p, i, _ => by simp [Row, leadB]
  | [q], [x], p, i, _ => by
    show (x ∈ fitI L N q ∧ tiedB T p x i = true ∧ i ∈ fitI L N p) ↔ (x ∈ fitI L N q) ∧ i ∈ fitI L N p ∧ leadB T p [x] i = true
    have : leadB T p [x] i = tiedB T p x i := by simp [leadB, lastI]
    rw [this]
    exact ⟨fun ⟨a, b, c⟩ => ⟨a, c, b⟩, fun ⟨a, b, c⟩ => ⟨a, c, b⟩⟩
  | q :: q2 :: l, x :: y :: r, p, i, h => by
    have ih := row_snoc (q2 :: l) (y :: r) p i (by simpa using h)
    have hl : leadB T p (x :: y :: r) i = leadB T p (y :: r) i := by simp [leadB, lastI]
    show (x ∈ fitI L N q ∧ tiedB T q2 x y = true ∧ Row L N T ((q2 :: l) ++ [p]) ((y :: r) ++ [i])) ↔ (x ∈ fitI L N q ∧ tiedB T q2 x y = true ∧ Row L N T (q2 :: l) (y :: r)) ∧ i ∈ fitI L N p ∧ leadB T p (x :: y :: r) i = true
    rw [ih, hl]
    exact ⟨fun ⟨a, b, c, d, e⟩ => ⟨⟨a, b, c⟩, d, e⟩, fun ⟨⟨a, b, c⟩, d, e⟩ => ⟨a, b, c, d, e⟩⟩
  | [], _ :: _, p, i, h => by simp at h
  | [_], [], p, i, h => by simp at h
  | [_], _ :: _ :: _, p, i, h => by simp at h
  | _ :: _ :: _, [], p, i, h => by simp at h
  | _ :: _ :: _, [_], p, i, h => by simp at h
theorem row_fit : ∀ (l : List Sp) (r : List Int) (k : Nat) (p : Sp) (x : Int), Row L N T l r → l[k]? = some p → r[k]? = some x → x ∈ fitI L N p
  | [q], [y], k, p, x, h, hp, hx => by
    have hk : k < 1 := (List.getElem?_eq_some_iff.1 hp).1
    obtain rfl : k = 0 := by omega
    obtain rfl : q = p := by simpa using hp
    obtain rfl : y = x := by simpa using hx
    exact h
  | q :: q2 :: l, y :: y2 :: r, k, p, x, h, hp, hx => by
    cases k with
    | zero =>
      obtain rfl : q = p := by simpa using hp
      obtain rfl : y = x := by simpa using hx
      exact h.1
    | succ k => exact row_fit (q2 :: l) (y2 :: r) k p x h.2.2 (by simpa using hp) (by simpa using hx)
  | [], _, k, p, x, h, hp, hx => by simp at hp
  | [_], [], k, p, x, h, hp, hx => by simp at hx
  | [_], _ :: _ :: _, k, p, x, h, hp, hx => by simp [Row] at h
  | _ :: _ :: _, [], k, p, x, h, hp, hx => by simp at hx
  | _ :: _ :: _, [_], k, p, x, h, hp, hx => by simp [Row] at h
theorem row_tied : ∀ (l : List Sp) (r : List Int) (k : Nat) (p : Sp) (x y : Int), Row L N T l r → l[k + 1]? = some p → r[k]? = some x → r[k + 1]? = some y → tiedB T p x y = true
  | q :: q2 :: l, z :: z2 :: r, k, p, x, y, h, hp, hx, hy => by
    cases k with
    | zero =>
      obtain rfl : q2 = p := by simpa using hp
      obtain rfl : z = x := by simpa using hx
      obtain rfl : z2 = y := by simpa using hy
      exact h.2.1
    | succ k => exact row_tied (q2 :: l) (z2 :: r) k p x y h.2.2 (by simpa using hp) (by simpa using hx) (by simpa using hy)
  | [], _, k, p, x, y, h, hp, hx, hy => by simp at hp
  | [_], _, k, p, x, y, h, hp, hx, hy => by simp at hp
  | _ :: _ :: _, [], k, p, x, y, h, hp, hx, hy => by simp at hx
  | _ :: _ :: _, [_], k, p, x, y, h, hp, hx, hy => by simp at hy

/-- All rows, however many. -/
def rowsF (L : List Kd) (N : List Nd) (T : List Te) : List Sp → List (List Int) → List (List Int)
  | [], R => R
  | p :: l, R => rowsF L N T l (lngr T p (fitI L N p) R)
theorem walkR_rows : ∀ (l : List Sp) (R Q : List (List Int)), walkR L N T l R = some Q → Q = rowsF L N T l R
  | [], R, Q, h => (Option.some.inj h).symm
  | p :: l, R, Q, h => by
    unfold walkR at h
    split at h
    · cases h
    · exact walkR_rows l _ Q h
theorem rowsF_snoc : ∀ (l : List Sp) (p : Sp) (R : List (List Int)), rowsF L N T (l ++ [p]) R = lngr T p (fitI L N p) (rowsF L N T l R)
  | [], p, R => rfl
  | q :: l, p, R => rowsF_snoc l p _
theorem mem_lngr {p : Sp} {I : List Int} {R : List (List Int)} (r : List Int) : r ∈ lngr T p I R ↔ ∃ q ∈ R, ∃ i ∈ I, leadB T p q i = true ∧ r = q ++ [i] := by
  unfold lngr
  rw [List.mem_flatMap]
  constructor
  · rintro ⟨q, hq, h⟩
    obtain ⟨i, hi, rfl⟩ := List.mem_map.1 h
    obtain ⟨h1, h2⟩ := List.mem_filter.1 hi
    exact ⟨q, hq, i, h1, h2, rfl⟩
  · rintro ⟨q, hq, i, h1, h2, rfl⟩
    exact ⟨q, hq, List.mem_map.2 ⟨i, List.mem_filter.2 ⟨h1, h2⟩, rfl⟩⟩
theorem list_snoc {α : Type} (l : List α) : l = [] ∨ ∃ m x, l = m ++ [x] := by
  by_cases h : l = []
  · exact .inl h
  · exact .inr ⟨l.dropLast, l.getLast h, (List.dropLast_concat_getLast h).symm⟩
theorem mem_rowsN : ∀ (n : Nat) (l : List Sp), l.length = n → ∀ r : List Int, r ∈ rowsF L N T l [[]] ↔ Row L N T l r
  | 0, l, hl, r => by
    obtain rfl := List.eq_nil_of_length_eq_zero hl
    cases r with
    | nil => simp [rowsF, Row]
    | cons x r => simp [rowsF, Row]
  | n + 1, l, hl, r => by
    obtain rfl | ⟨m, p, rfl⟩ := list_snoc l
    · simp at hl
    have hm : m.length = n := by simpa using hl
    rw [rowsF_snoc, mem_lngr]
    constructor
    · rintro ⟨q, hq, i, hi, hL, rfl⟩
      have hq' := (mem_rowsN n m hm q).1 hq
      exact (row_snoc m q p i (row_len m q hq')).2 ⟨hq', hi, hL⟩
    · intro h
      have hlen := row_len _ _ h
      obtain rfl | ⟨q, i, rfl⟩ := list_snoc r
      · simp at hlen
      have hql : q.length = m.length := by simpa using hlen
      obtain ⟨h1, h2, h3⟩ := (row_snoc m q p i hql).1 h
      exact ⟨q, (mem_rowsN n m hm q).2 h1, i, h2, h3, rfl⟩
theorem mem_rows (l : List Sp) (r : List Int) : r ∈ rowsF L N T l [[]] ↔ Row L N T l r := mem_rowsN _ l rfl r

theorem lngr_nodup {p : Sp} {I : List Int} (hI : I.Nodup) : ∀ R : List (List Int), R.Nodup → (lngr T p I R).Nodup
  | [], _ => by simp [lngr]
  | r :: R, h => by
    obtain ⟨h1, h2⟩ := List.nodup_cons.1 h
    have e : lngr T p I (r :: R) = ((I.filter (leadB T p r)).map fun i => r ++ [i]) ++ lngr T p I R := by simp [lngr]
    rw [e, List.nodup_append]
    refine ⟨?_, lngr_nodup hI R h2, ?_⟩
    · have hf : (I.filter (leadB T p r)).Nodup := List.Pairwise.filter _ hI
      exact List.pairwise_map.2 (List.Pairwise.imp (fun {a b} hab e => hab (by simpa using e)) hf)
    · intro a ha b hb e
      obtain ⟨i, _, rfl⟩ := List.mem_map.1 ha
      obtain ⟨q, hq, j, _, _, rfl⟩ := (mem_lngr b).1 hb
      have := (List.append_inj' e rfl).1
      exact h1 (this ▸ hq)
theorem fitI_nodup (hs : SrtN N) (p : Sp) : (fitI L N p).Nodup := by
  unfold fitI
  have : (N.filter (fitB L p)).Pairwise fun a b => a.id < b.id := List.Pairwise.filter _ hs
  exact List.pairwise_map.2 (List.Pairwise.imp (fun {a b} hab e => by omega) this)
theorem rowsF_nodup (hs : SrtN N) : ∀ (l : List Sp) (R : List (List Int)), R.Nodup → (rowsF L N T l R).Nodup
  | [], R, h => h
  | p :: l, R, h => rowsF_nodup hs l _ (lngr_nodup (fitI_nodup hs p) R h)
theorem nodup_le {α : Type} [DecidableEq α] : ∀ (a b : List α), a.Nodup → (∀ x ∈ a, x ∈ b) → a.length ≤ b.length
  | [], b, _, _ => Nat.zero_le _
  | x :: a, b, h, hs => by
    obtain ⟨h1, h2⟩ := List.nodup_cons.1 h
    have hx := hs x (List.mem_cons_self ..)
    have := nodup_le a (b.erase x) h2 (fun y hy => (List.mem_erase_of_ne (fun e : y = x => h1 (by rw [← e]; exact hy))).2 (hs y (List.mem_cons_of_mem _ hy)))
    rw [List.length_erase_of_mem hx] at this
    have h0 : 0 < b.length := List.length_pos_of_mem hx
    simp
    omega

/-- A step of the path that is turned round. -/
def revQ (o : Option Sp) (p : Sp) : Sp := match o with
  | none => ⟨[], false, p.kd, p.vt, p.ts⟩
  | some q => ⟨q.bd, !q.back, p.kd, p.vt, p.ts⟩
/-- A path turned round. -/
def revP : List Sp → List Sp
  | [] => []
  | p :: r => revP r ++ [revQ r.head? p]
theorem revP_len : ∀ l : List Sp, (revP l).length = l.length
  | [] => rfl
  | p :: r => by simp [revP, revP_len r]
theorem fit_rev (o : Option Sp) (p : Sp) : fitI L N (revQ o p) = fitI L N p := by cases o <;> rfl
theorem tied_rev (q p : Sp) (x y : Int) : tiedB T (revQ (some q) p) y x = tiedB T q x y := by
  obtain ⟨bd, back, kd, vt, ts⟩ := q
  cases back <;> rfl
theorem row_rev : ∀ (l : List Sp) (r : List Int), Row L N T (revP l) r.reverse ↔ Row L N T l r
  | [], [] => Iff.rfl
  | [], x :: r => by
    constructor
    · intro h; have := row_len _ _ h; simp [revP] at this
    · intro h; simp [Row] at h
  | [p], [x] => by
    show x ∈ fitI L N (revQ none p) ↔ x ∈ fitI L N p
    rw [fit_rev]
  | [p], [] => by simp [revP, Row]
  | [p], x :: y :: r => by
    constructor
    · intro h; have := row_len _ _ h; simp [revP] at this
    · intro h; simp [Row] at h
  | p :: q :: l, [] => by
    constructor
    · intro h; have := row_len _ _ h; simp [revP_len] at this
    · intro h; simp [Row] at h
  | p :: q :: l, [x] => by
    constructor
    · intro h; have := row_len _ _ h; simp [revP_len] at this
    · intro h; simp [Row] at h
  | p :: q :: l, x :: y :: r => by
    have ih := row_rev (q :: l) (y :: r)
    have e1 : revP (p :: q :: l) = revP (q :: l) ++ [revQ (some q) p] := rfl
    have e2 : (x :: y :: r).reverse = (y :: r).reverse ++ [x] := by simp
    rw [e1, e2]
    by_cases hl : r.length = l.length
    · rw [row_snoc _ _ _ _ (by rw [revP_len]; simp [hl]), ih, fit_rev]
      have hld : leadB T (revQ (some q) p) (y :: r).reverse x = tiedB T q x y := by
        have h1 : ((y :: r).reverse).isEmpty = false := by simp
        have h2 : lastI (y :: r).reverse = y := by simp [lastI]
        unfold leadB
        rw [h1, h2, tied_rev]; rfl
      rw [hld]
      show _ ↔ x ∈ fitI L N p ∧ tiedB T q x y = true ∧ Row L N T (q :: l) (y :: r)
      exact ⟨fun ⟨a, b, c⟩ => ⟨b, c, a⟩, fun ⟨a, b, c⟩ => ⟨c, a, b⟩⟩
    · constructor
      · intro h
        have := row_len _ _ h
        simp [revP_len] at this
        exact absurd this hl
      · intro h
        have := row_len _ _ h
        simp at this
        exact absurd this hl
/-- As many rows, each of them turned round. -/
theorem rows_rev (hs : SrtN N) (l : List Sp) : (rowsF L N T (revP l) [[]]).length = (rowsF L N T l [[]]).length ∧ ∀ r ∈ rowsF L N T (revP l) [[]], r.reverse ∈ rowsF L N T l [[]] := by
  have hA : ∀ r ∈ rowsF L N T (revP l) [[]], r.reverse ∈ rowsF L N T l [[]] := fun r hr => by
    rw [mem_rows] at hr ⊢
    have := (row_rev (L := L) (N := N) (T := T) l r.reverse).1
    rw [List.reverse_reverse] at this
    exact this hr
  refine ⟨Nat.le_antisymm ?_ ?_, hA⟩
  · have h1 : ((rowsF L N T (revP l) [[]]).map List.reverse).Nodup := List.pairwise_map.2 (List.Pairwise.imp (fun {a b} hab e => hab (List.reverse_inj.1 e)) (rowsF_nodup hs (revP l) [[]] (by simp)))
    have := nodup_le _ (rowsF L N T l [[]]) h1 (fun x hx => by
      obtain ⟨r, hr, rfl⟩ := List.mem_map.1 hx
      exact hA r hr)
    rwa [List.length_map] at this
  · have h1 : ((rowsF L N T l [[]]).map List.reverse).Nodup := List.pairwise_map.2 (List.Pairwise.imp (fun {a b} hab e => hab (List.reverse_inj.1 e)) (rowsF_nodup hs l [[]] (by simp)))
    have := nodup_le _ (rowsF L N T (revP l) [[]]) h1 (fun x hx => by
      obtain ⟨r, hr, rfl⟩ := List.mem_map.1 hx
      rw [mem_rows] at hr ⊢
      exact (row_rev l r).2 hr)
    rwa [List.length_map] at this
end

/-! ### The path that is turned round is right -/
section
variable {L : List Kd} {B : List Bd}
theorem wayE_swap {q p r : Sp} (o' : Sp) (h : wayE L B (some p) q = 0) (hk : r.kd = q.kd) : wayE L B (some r) (revQ (some q) p) = 0 := by
  unfold wayE at h ⊢
  simp only at h ⊢
  have e1 : (revQ (some q) p).bd = q.bd := rfl
  have e2 : (revQ (some q) p).back = !q.back := rfl
  have e3 : (revQ (some q) p).kd = p.kd := rfl
  rw [e1, e2, e3, hk]
  by_cases h1 : (bdTell L B q.bd).2 = 0
  · rw [if_pos h1] at h ⊢
    by_cases h2 : (isKin L p.kd (endA q.back (bdTell L B q.bd).1.fr (bdTell L B q.bd).1.tt) && isKin L q.kd (endA q.back (bdTell L B q.bd).1.tt (bdTell L B q.bd).1.fr)) = true
    · rw [if_pos]
      obtain ⟨a, b⟩ := Bool.and_eq_true .. ▸ h2
      rw [Bool.and_eq_true]
      cases hb : q.back
      · rw [hb] at a b; exact ⟨b, a⟩
      · rw [hb] at a b; exact ⟨b, a⟩
    · rw [if_neg h2] at h; cases h
  · rw [if_neg h1] at h; exact absurd h h1
theorem spE_parts {o : Option Sp} {p : Sp} (h : spE L B o p = 0) : nmErr L p.kd = 0 ∧ wayE L B o p = 0 ∧ p.ts.length ≤ 8 ∧ tsE (fields L p.kd) p.ts = 0 := by
  unfold spE at h
  by_cases e1 : nmErr L p.kd = 0
  · rw [if_pos e1] at h
    by_cases e2 : wayE L B o p = 0
    · rw [if_pos e2] at h
      by_cases e3 : 8 < p.ts.length
      · rw [if_pos e3] at h; cases h
      · rw [if_neg e3] at h; exact ⟨e1, e2, by omega, h⟩
    · rw [if_neg e2] at h; exact absurd h e2
  · rw [if_neg e1] at h; exact absurd h e1
theorem spE_mk {o : Option Sp} {p : Sp} (h1 : nmErr L p.kd = 0) (h2 : wayE L B o p = 0) (h3 : p.ts.length ≤ 8) (h4 : tsE (fields L p.kd) p.ts = 0) : spE L B o p = 0 := by
  unfold spE; rw [if_pos h1, if_pos h2, if_neg (by omega)]; exact h4
/-- The last of a list, or another one. -/
def lastO (o : Option Sp) (l : List Sp) : Option Sp := match l.getLast? with | some q => some q | none => o
theorem sps_snoc : ∀ (l : List Sp) (o : Option Sp) (k : Nat) (p : Sp), (spsE L B o l k).2 = 0 → spE L B (lastO o l) p = 0 → (spsE L B o (l ++ [p]) k).2 = 0
  | [], o, k, p, _, h => by
    have h' : spE L B o p = 0 := h
    show (if spE L B o p = 0 then (0, 0) else (k, spE L B o p) : Nat × Int).2 = 0
    rw [if_pos h']
  | q :: l, o, k, p, h1, h2 => by
    unfold spsE at h1
    by_cases e : spE L B o q = 0
    · rw [if_pos e] at h1
      show (if spE L B o q = 0 then spsE L B (some q) (l ++ [p]) (k + 1) else (k, spE L B o q)).2 = 0
      rw [if_pos e]
      refine sps_snoc l (some q) (k + 1) p h1 ?_
      have : lastO (some q) l = lastO o (q :: l) := by
        unfold lastO
        cases l with
        | nil => rfl
        | cons a l =>
          rw [List.getLast?_cons_cons]
          obtain ⟨z, hz⟩ : ∃ z, (a :: l).getLast? = some z := ⟨(a :: l).getLast (by simp), List.getLast?_eq_some_getLast (by simp)⟩
          rw [hz]
      rw [this]; exact h2
    · rw [if_neg e] at h1; exact absurd h1 e
theorem revP_last : ∀ (p : Sp) (l : List Sp), ∃ r, (revP (p :: l)).getLast? = some r ∧ r.kd = p.kd
  | p, [] => ⟨revQ none p, by simp [revP], rfl⟩
  | p, q :: l => ⟨revQ (some q) p, by simp [revP], rfl⟩
theorem sps_rev : ∀ (l : List Sp) (o : Option Sp) (k : Nat), (spsE L B o l k).2 = 0 → (spsE L B none (revP l) 0).2 = 0
  | [], o, k, _ => rfl
  | [p], o, k, h => by
    unfold spsE at h
    by_cases e : spE L B o p = 0
    · obtain ⟨a, b, c, d⟩ := spE_parts e
      show (spsE L B none [revQ none p] 0).2 = 0
      unfold spsE
      have : spE L B none (revQ none p) = 0 := spE_mk a (by unfold wayE revQ; simp) c d
      rw [if_pos this]; rfl
    · rw [if_neg e] at h; exact absurd h e
  | p :: q :: l, o, k, h => by
    unfold spsE at h
    by_cases e : spE L B o p = 0
    · rw [if_pos e] at h
      have ih := sps_rev (q :: l) (some p) (k + 1) h
      obtain ⟨a, _, c, d⟩ := spE_parts e
      have e2 : spE L B (some p) q = 0 := by
        unfold spsE at h
        by_cases e2 : spE L B (some p) q = 0
        · exact e2
        · rw [if_neg e2] at h; exact absurd h e2
      obtain ⟨_, w2, _, _⟩ := spE_parts e2
      obtain ⟨r, hr, hrk⟩ := revP_last q l
      show (spsE L B none (revP (q :: l) ++ [revQ (some q) p]) 0).2 = 0
      refine sps_snoc _ _ _ _ ih ?_
      have : lastO none (revP (q :: l)) = some r := by unfold lastO; rw [hr]
      rw [this]
      exact spE_mk a (wayE_swap p w2 hrk) c d
    · rw [if_neg e] at h; exact absurd h e
theorem pt_rev {l : List Sp} (h : (ptE L B l).2 = 0) : (ptE L B (revP l)).2 = 0 := by
  obtain ⟨h1, h2, h3, h4⟩ := pt_ok h
  unfold ptE
  rw [if_pos h1, if_neg (fun e => h2 (List.eq_nil_of_length_eq_zero (by rw [← revP_len, e]; rfl))), if_neg (by rw [revP_len]; omega)]
  exact sps_rev l none 0 h4
/-- What Walk tells of the path turned round, if it told rows of the path. -/
theorem walk_rev {N : List Nd} {T : List Te} {l : List Sp} (h : walkE L B N T l = 0) : walkE L B N T (revP l) = 0 ∨ walkE L B N T (revP l) = 4 := by
  unfold walkE at h ⊢
  by_cases h1 : (ptE L B l).2 = 0
  · rw [if_pos h1] at h
    rw [if_pos (pt_rev h1)]
    by_cases h2 : inE L B N T = 0
    · rw [if_pos h2] at h ⊢
      by_cases h3 : confB L B N T = true
      · rw [if_pos h3]
        cases walkR L N T (revP l) [[]] with
        | none => exact .inr rfl
        | some R => exact .inl rfl
      · rw [if_neg h3] at h; cases h
    · rw [if_neg h2] at h; exact absurd h h2
  · rw [if_neg h1] at h; exact absurd h h1
theorem walk_zero {N : List Nd} {T : List Te} {l : List Sp} (h : walkE L B N T l = 0) : (ptE L B l).2 = 0 ∧ gErr N T = 0 := by
  unfold walkE at h
  by_cases h1 : (ptE L B l).2 = 0
  · rw [if_pos h1] at h
    by_cases h2 : inE L B N T = 0
    · refine ⟨h1, ?_⟩
      unfold inE at h2
      rw [if_pos (pt_ok h1).1] at h2
      exact h2
    · rw [if_neg h2] at h; exact absurd h h2
  · rw [if_neg h1] at h; exact absurd h h1
end

/-! ### What fits is of its kind, and passes -/
theorem unds_of (L : List Kd) (a : Nm) : ∀ (xs : List Nat) (b : Nm), b ∈ unds L a xs → ∃ i k, L[i]? = some k ∧ k.nm = b ∧ ¬ idxK a (kinOf (L.take (i + 1))) 0 = -1
  | [], b, h => by simp [unds] at h
  | j :: r, b, h => by
    simp only [unds] at h
    cases e : L[j]? with
    | none => rw [e] at h; exact unds_of L a r b h
    | some x =>
      rw [e] at h
      simp only at h
      split at h
      · exact unds_of L a r b h
      · rename_i hne
        rcases List.mem_cons.1 h with rfl | h
        · exact ⟨j, x, e, rfl, hne⟩
        · exact unds_of L a r b h
theorem under_kin {L : List Kd} {a b : Nm} (h : nmErr L a = 0) (hb : hasN (under L a) b = true) : isErr L b a = 0 ∧ isKin L b a = true := by
  obtain ⟨hG, h12, ja, qa, hxa, _, hqa, hqn⟩ := nmErr_zero h
  have hb' : b ∈ under L a := by simpa [hasN] using hb
  obtain ⟨i, k, hk, rfl, hne⟩ := unds_of L a _ b hb'
  have hks : (ksErr L).2 = 0 := ksErr_good.2 ⟨hG, h12⟩
  have hnb : nmErr L k.nm = 0 := by
    unfold nmErr
    rw [if_pos hks, if_neg]
    intro e
    exact idxK_none e k (List.mem_of_getElem? hk) rfl
  obtain ⟨_, _, j, q, hx, hat, hq, hqn2⟩ := nmErr_zero hnb
  have hij : j = i := right_names hG.right j i q k hq hk hqn2
  have he : isErr L k.nm a = 0 := by
    unfold isErr
    rw [if_pos hnb, if_neg (by omega)]
  refine ⟨he, ?_⟩
  unfold isKin
  rw [if_pos he]
  have hkin : kin L k.nm = kinOf (L.take (i + 1)) := by unfold kin; rw [hat, hij]
  rw [hkin]
  rcases idxK_spec a (kinOf (L.take (i + 1))) 0 with e | ⟨m, z, _, hz, hzn⟩
  · exact absurd e hne
  · show (nms (kinOf (L.take (i + 1)))).contains a = true
    rw [List.contains_iff_mem]
    exact List.mem_map.2 ⟨z, List.mem_of_getElem? hz, hzn⟩
theorem fit_node {L : List Kd} {N : List Nd} {p : Sp} {x : Int} (h : x ∈ fitI L N p) : ∃ n ∈ N, n.id = x ∧ hasN (under L p.kd) n.kd.toList = true ∧ p.ts.all (pass n.rc) = true := by
  unfold fitI at h
  obtain ⟨n, hn, rfl⟩ := List.mem_map.1 h
  obtain ⟨h1, h2⟩ := List.mem_filter.1 hn
  unfold fitB at h2
  rw [Bool.and_eq_true] at h2
  exact ⟨n, h1, rfl, h2.1, h2.2⟩
theorem tsE_all {F : List Fd} : ∀ (ts : List Tst), tsE F ts = 0 → ∀ x ∈ ts, nErr x.nm.data.toList = 0 ∧ howE x = 0
  | [], _, x, hx => by cases hx
  | y :: r, h, x, hx => by
    unfold tsE at h
    by_cases e : tstE F y = 0
    · rw [if_pos e] at h
      rcases List.mem_cons.1 hx with rfl | hx
      · unfold tstE at e
        by_cases e1 : nErr x.nm.data.toList = 0
        · refine ⟨e1, ?_⟩
          rw [if_pos e1] at e
          cases hf : fdOf F x.nm.toList with
          | none => rw [hf] at e; cases e
          | some f =>
            rw [hf] at e
            simp only at e
            by_cases e2 : howE x = 0
            · exact e2
            · rw [if_neg e2] at e; exact absurd e e2
        · rw [if_neg e1] at e; exact absurd e e1
      · exact tsE_all r h x hx
    · rw [if_neg e] at h; exact absurd h e
theorem fndT_mem {t : Te} {T : List Te} (h : fndT t T = true) : t ∈ T := by
  unfold fndT at h
  cases e : T[loT t T]? with
  | none => rw [e] at h; cases h
  | some g =>
    rw [e] at h
    have h' : tCmp g t = 0 := by simpa using h
    rw [← (tCmp_zero g t).1 h']
    exact List.mem_of_getElem? e
end Go.Proofs.YtifcpjimhhpcpaaGreatDoor
