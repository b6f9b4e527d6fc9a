/-
  The mathematics of PathRows: along a row of nodes.
-/
import Derived.Test.YtifcpjimhhpcpaaM30
import Derived.Test.YtifcpjimhhpcpaaM31
import Derived.Test.YtifcpjimhhpcpaaM25
import Derived.Test.YtifcpjimhhpcpaaM22
namespace Go.Proofs.Ytifcpjimhhpcpaa
open Go.RowKit
set_option linter.unusedVariables false
set_option linter.unusedSimpArgs false

/-- The steps of the law. -/
def spA : Sp := ⟨[], false, [97], .slice none 0 0, []⟩
def spB (back : Bool) : Sp := ⟨[112], back, [97], .slice none 0 0, []⟩
def pathL (back : Bool) (m : Nat) : List Sp := spA :: List.replicate m (spB back)
/-- Numbers that rise one by one. -/
def up (a : Int) (c : Nat) : List Int := (List.range c).map fun j : Nat => a + (j : Int)
theorem up_succ (a : Int) (c : Nat) : up a (c + 1) = a :: up (a + 1) c := by
  unfold up
  rw [List.range_succ_eq_map, List.map_cons, List.map_map]
  refine List.cons_eq_cons.2 ⟨by simp, List.map_congr_left fun j _ => ?_⟩
  simp
  omega
theorem up_snoc (a : Int) (c : Nat) : up a (c + 1) = up a c ++ [a + (c : Int)] := by
  unfold up; rw [List.range_succ, List.map_append]; rfl
theorem up_len (a : Int) (c : Nat) : (up a c).length = c := by simp [up]
theorem up_pick (x : Int) : ∀ (c : Nat) (a : Int), (up a c).filter (fun i => decide (i = x)) = if a ≤ x ∧ x < a + (c : Int) then [x] else []
  | 0, a => by
    rw [if_neg (by omega)]; rfl
  | c + 1, a => by
    rw [up_succ]
    have ih := up_pick x c (a + 1)
    by_cases h : a = x
    · rw [List.filter_cons_of_pos (by simpa using h), ih, if_neg (by omega), if_pos (by omega), h]
    · rw [List.filter_cons_of_neg (by simpa using h), ih]
      by_cases h2 : a + 1 ≤ x ∧ x < a + 1 + (c : Int)
      · rw [if_pos h2, if_pos (by omega)]
      · rw [if_neg h2, if_neg (by omega)]

theorem fndT_iff {T : List Te} (hs : SrtT T) (t : Te) : fndT t T = true ↔ t ∈ T := by
  constructor
  · intro h
    unfold fndT at h
    cases e : T[loT t T]? with
    | none => rw [e] at h; cases h
    | some g =>
      rw [e] at h
      have h' : tCmp g t = 0 := by simpa using h
      rw [← (tCmp_zero g t).1 h']
      exact List.mem_of_getElem? e
  · intro h
    obtain ⟨i, hi⟩ := List.getElem?_of_mem h
    have hz : tCmp t t = 0 := (tCmp_zero t t).2 rfl
    have h1 := loT_spec t hs i t hi
    have hil : i < T.length := (List.getElem?_eq_some_iff.1 hi).1
    have hle : loT t T ≤ i := by
      by_cases h : i < loT t T
      · have := h1.1 h; omega
      · omega
    have heq : loT t T = i := by
      by_cases h : loT t T < i
      · have hl : loT t T < T.length := by omega
        have hg : T[loT t T]? = some T[loT t T] := by simp [hl]
        have h2 := loT_spec t hs (loT t T) _ hg
        have h3 := List.pairwise_iff_getElem.1 hs (loT t T) i hl hil h
        have h4 : T[i] = t := by
          obtain ⟨_, e⟩ := List.getElem?_eq_some_iff.1 hi
          exact e
        rw [h4] at h3
        have := h2.2 h3
        omega
      · omega
    unfold fndT
    rw [heq, hi]
    simp [hz]
theorem mem_rowT (m : Nat) (t : Te) : t ∈ rowT m ↔ ∃ j, j < m ∧ tK j = t := by
  unfold rowT
  rw [List.mem_map]
  constructor
  · rintro ⟨j, hj, rfl⟩; exact ⟨j, List.mem_range.1 hj, rfl⟩
  · rintro ⟨j, hj, rfl⟩; exact ⟨j, List.mem_range.2 hj, rfl⟩
theorem tie_in (m : Nat) (a b : Int) : (⟨bs [112], a, b⟩ : Te) ∈ rowT m ↔ b = a + 1 ∧ 1 ≤ a ∧ a ≤ m := by
  rw [mem_rowT]
  constructor
  · rintro ⟨j, hj, e⟩
    unfold tK at e
    injection e with _ e1 e2
    omega
  · rintro ⟨h1, h2, h3⟩
    refine ⟨(a - 1).toNat, by omega, ?_⟩
    unfold tK
    have e : ((a - 1).toNat : Int) = a - 1 := Int.toNat_of_nonneg (by omega)
    rw [e]
    have e1 : a - 1 + 1 = a := by omega
    rw [e1, h1]; rfl
theorem tied_f {m : Nat} (hs : SrtT (rowT m)) (a : Int) (i : Int) : tiedB (rowT m) (spB false) a i = decide (i = a + 1 ∧ 1 ≤ a ∧ a ≤ m) := by
  have h := (fndT_iff hs ⟨bs [112], a, i⟩).trans (tie_in m a i)
  show fndT ⟨bs [112], a, i⟩ (rowT m) = _
  by_cases hc : i = a + 1 ∧ 1 ≤ a ∧ a ≤ m
  · rw [h.2 hc, decide_eq_true hc]
  · rw [decide_eq_false hc]
    cases hf : fndT ⟨bs [112], a, i⟩ (rowT m)
    · rfl
    · exact absurd (h.1 hf) hc
theorem tied_b {m : Nat} (hs : SrtT (rowT m)) (a : Int) (i : Int) : tiedB (rowT m) (spB true) a i = decide (a = i + 1 ∧ 1 ≤ i ∧ i ≤ m) := by
  have h := (fndT_iff hs ⟨bs [112], i, a⟩).trans (tie_in m i a)
  show fndT ⟨bs [112], i, a⟩ (rowT m) = _
  by_cases hc : a = i + 1 ∧ 1 ≤ i ∧ i ≤ m
  · rw [h.2 hc, decide_eq_true hc]
  · rw [decide_eq_false hc]
    cases hf : fndT ⟨bs [112], i, a⟩ (rowT m)
    · rfl
    · exact absurd (h.1 hf) hc
/-- Where a node leads. -/
def goes (back : Bool) (m : Nat) (a : Int) : List Int := if back = true then (if 2 ≤ a ∧ a ≤ (m : Int) + 1 then [a - 1] else []) else (if 1 ≤ a ∧ a ≤ m then [a + 1] else [])
theorem goes_eq {m : Nat} (hs : SrtT (rowT m)) (back : Bool) (a : Int) : (up 1 (m + 1)).filter (tiedB (rowT m) (spB back) a) = goes back m a := by
  cases back
  · have e : tiedB (rowT m) (spB false) a = fun i => decide (i = a + 1) && decide (1 ≤ a ∧ a ≤ m) := by
      funext i; rw [tied_f hs]; by_cases h1 : i = a + 1 <;> by_cases h2 : 1 ≤ a ∧ a ≤ (m : Int) <;> simp [h1, h2]
    rw [e]
    unfold goes
    rw [if_neg Bool.false_ne_true]
    by_cases h2 : 1 ≤ a ∧ a ≤ (m : Int)
    · rw [if_pos h2]
      simp only [h2, and_self, decide_true, Bool.and_true]
      rw [up_pick, if_pos (by omega)]
    · rw [if_neg h2, decide_eq_false h2]
      simp
  · have e : tiedB (rowT m) (spB true) a = fun i => decide (i = a - 1) && decide (2 ≤ a ∧ a ≤ (m : Int) + 1) := by
      funext i; rw [tied_b hs]
      by_cases h1 : i = a - 1
      · subst h1
        have : (a = a - 1 + 1 ∧ 1 ≤ a - 1 ∧ a - 1 ≤ (m : Int)) ↔ (2 ≤ a ∧ a ≤ (m : Int) + 1) := by omega
        simp only [this]; simp
      · rw [decide_eq_false (by omega), decide_eq_false h1]; rfl
    rw [e]
    unfold goes
    rw [if_pos rfl]
    by_cases h2 : 2 ≤ a ∧ a ≤ (m : Int) + 1
    · rw [if_pos h2]
      simp only [h2, and_self, decide_true, Bool.and_true]
      rw [up_pick, if_pos (by omega)]
    · rw [if_neg h2, decide_eq_false h2]
      simp
theorem goes_f (m : Nat) : ∀ (c : Nat) (a : Int), 1 ≤ a → (c = 0 ∨ a + (c : Int) = (m : Int) + 2) → (up a c).flatMap (goes false m) = up (a + 1) (c - 1)
  | 0, a, _, _ => rfl
  | c + 1, a, h1, h => by
    rw [up_succ, List.flatMap_cons, goes_f m c (a + 1) (by omega) (by omega)]
    unfold goes
    rw [if_neg Bool.false_ne_true]
    cases c with
    | zero => rw [if_neg (by omega)]; rfl
    | succ c =>
      rw [if_pos (by omega)]
      simp only [Nat.add_sub_cancel]
      rw [up_succ]; rfl
theorem goes_b (m : Nat) : ∀ (c : Nat), c ≤ m + 1 → (up 1 c).flatMap (goes true m) = up 1 (c - 1)
  | 0, _ => rfl
  | c + 1, h => by
    rw [up_snoc, List.flatMap_append, goes_b m c (by omega)]
    unfold goes
    simp only [List.flatMap_cons, List.flatMap_nil, List.append_nil]
    rw [if_pos trivial]
    cases c with
    | zero => rw [if_neg (by omega)]; rfl
    | succ c =>
      rw [if_pos (by omega)]
      simp only [Nat.add_sub_cancel]
      rw [up_snoc]
      congr 2
      omega
theorem lasts_lngr {T : List Te} {p : Sp} {I : List Int} : ∀ R : List (List Int), (∀ r ∈ R, r ≠ []) → (lngr T p I R).map lastI = (R.map lastI).flatMap fun a => I.filter (tiedB T p a)
  | [], _ => rfl
  | r :: R, h => by
    have ih := lasts_lngr (T := T) (p := p) (I := I) R (fun x hx => h x (List.mem_cons_of_mem _ hx))
    have e : lngr T p I (r :: R) = ((I.filter (leadB T p r)).map fun i => r ++ [i]) ++ lngr T p I R := by simp [lngr]
    have hl : leadB T p r = tiedB T p (lastI r) := by
      funext i
      unfold leadB
      have : r.isEmpty = false := by simpa using h r (List.mem_cons_self ..)
      rw [this]; rfl
    rw [e, List.map_append, ih, List.map_cons, List.flatMap_cons, hl, List.map_map]
    congr 1
    have : (lastI ∘ fun i => r ++ [i]) = id := by funext i; simp [lastI]
    rw [this, List.map_id]
theorem lngr_ne {T : List Te} {p : Sp} {I : List Int} {R : List (List Int)} : ∀ r ∈ lngr T p I R, r ≠ [] := fun r hr => by
  unfold lngr at hr
  obtain ⟨q, _, hr⟩ := List.mem_flatMap.1 hr
  obtain ⟨i, _, rfl⟩ := List.mem_map.1 hr
  simp
/-- How the rows stand. -/
def Iv (back : Bool) (m : Nat) (R : List (List Int)) (c : Nat) : Prop := (∀ r ∈ R, r ≠ []) ∧ ∃ a, 1 ≤ a ∧ R.map lastI = up a c ∧ (back = true → a = 1 ∧ c ≤ m + 1) ∧ (back = false → c = 0 ∨ a + (c : Int) = (m : Int) + 2)
theorem Iv.len {back : Bool} {m c : Nat} {R : List (List Int)} (h : Iv back m R c) : R.length = c := by
  obtain ⟨_, a, _, e, _⟩ := h
  have := congrArg List.length e
  rwa [List.length_map, up_len] at this
theorem Iv.next {back : Bool} {m c : Nat} {R : List (List Int)} (hs : SrtT (rowT m)) (h : Iv back m R c) : Iv back m (lngr (rowT m) (spB back) (up 1 (m + 1)) R) (c - 1) := by
  obtain ⟨h1, a, h2, h3, h4, h5⟩ := h
  have e : (lngr (rowT m) (spB back) (up 1 (m + 1)) R).map lastI = (up a c).flatMap (goes back m) := by
    rw [lasts_lngr R h1, h3]
    congr 1
    funext b
    exact goes_eq hs back b
  refine ⟨lngr_ne, ?_⟩
  cases back
  · have h5' := h5 rfl
    refine ⟨a + 1, by omega, ?_, by simp, fun _ => by omega⟩
    rw [e, goes_f m c a h2 h5']
  · obtain ⟨rfl, h6⟩ := h4 rfl
    exact ⟨1, by omega, by rw [e, goes_b m c h6], fun _ => ⟨rfl, by omega⟩, by simp⟩
theorem Iv.first (back : Bool) (m : Nat) (T : List Te) : Iv back m (lngr T spA (up 1 (m + 1)) [[]]) (m + 1) := by
  refine ⟨lngr_ne, 1, by omega, ?_, fun _ => ⟨rfl, by omega⟩, fun _ => .inr (by omega)⟩
  have e : lngr T spA (up 1 (m + 1)) [[]] = (up 1 (m + 1)).map fun i => [i] := by
    have : leadB T spA [] = fun _ => true := by funext i; simp [leadB]
    unfold lngr
    rw [List.flatMap_cons, List.flatMap_nil, List.append_nil, this, List.filter_eq_self.2 (fun _ _ => rfl)]; rfl
  rw [e, List.map_map]
  have : (lastI ∘ fun i => [i]) = id := by funext i; simp [lastI]
  rw [this, List.map_id]

theorem under_a (vo vf : Value) : under [kdA vo vf] [97] = [[97]] := by rfl
theorem fit_all {vo vf : Value} {N : List Nd} {κ : Nat → Int} (hN : RowP N κ) {p : Sp} (hk : p.kd = [97]) (ht : p.ts = []) : fitI [kdA vo vf] N p = up 1 N.length := by
  unfold fitI
  have hf : ∀ n ∈ N, fitB [kdA vo vf] p n = true := fun n hn => by
    obtain ⟨j, hj⟩ := List.getElem?_of_mem hn
    obtain ⟨_, hkd, _⟩ := hN j n hj
    unfold fitB
    have e : (⟨#[97]⟩ : ByteArray).toList = [97] := by rw [Lib.toList_data]
    rw [hk, ht, under_a, hkd, e]; rfl
  rw [List.filter_eq_self.2 hf]
  apply List.ext_getElem?
  intro j
  rw [List.getElem?_map]
  unfold up
  rw [List.getElem?_map]
  by_cases hj : j < N.length
  · obtain ⟨n, hn⟩ : ∃ n, N[j]? = some n := ⟨N[j], by simp [hj]⟩
    obtain ⟨hid, _⟩ := hN j n hn
    rw [hn, List.getElem?_range hj]
    simp only [Option.map_some]
    rw [hid]; congr 1; omega
  · rw [List.getElem?_eq_none (by omega), List.getElem?_eq_none (by simp; omega)]; rfl
theorem walk_rep {vo vf : Value} {N : List Nd} {κ : Nat → Int} {m : Nat} (hN : RowP N κ) (hl : N.length = m + 1) (hs : SrtT (rowT m)) (back : Bool) : ∀ (k : Nat) (R : List (List Int)) (c : Nat), Iv back m R c → c ≤ 200 → ∃ Q, walkR [kdA vo vf] N (rowT m) (List.replicate k (spB back)) R = some Q ∧ Q.length = c - k
  | 0, R, c, h, _ => ⟨R, rfl, by rw [h.len]; rfl⟩
  | k + 1, R, c, h, hc => by
    have hf : fitI [kdA vo vf] N (spB back) = up 1 (m + 1) := by rw [fit_all hN rfl rfl, hl]
    have hn := h.next hs
    obtain ⟨Q, h1, h2⟩ := walk_rep (vo := vo) (vf := vf) hN hl hs back k _ (c - 1) hn (by omega)
    refine ⟨Q, ?_, by omega⟩
    rw [List.replicate_succ]
    unfold walkR
    rw [hf, if_neg (by rw [hn.len]; omega)]
    exact h1
theorem walk_path {vo vf : Value} {N : List Nd} {κ : Nat → Int} {m : Nat} (hN : RowP N κ) (hl : N.length = m + 1) (hm : m ≤ 100) (hs : SrtT (rowT m)) (back : Bool) (k : Nat) : ∃ Q, walkR [kdA vo vf] N (rowT m) (pathL back k) [[]] = some Q ∧ Q.length = m + 1 - k := by
  have hf : fitI [kdA vo vf] N spA = up 1 (m + 1) := by rw [fit_all hN rfl rfl, hl]
  have hn := Iv.first back m (rowT m)
  obtain ⟨Q, h1, h2⟩ := walk_rep (vo := vo) (vf := vf) hN hl hs back k _ (m + 1) hn (by omega)
  refine ⟨Q, ?_, h2⟩
  unfold pathL walkR
  rw [hf, if_neg (by rw [hn.len]; omega)]
  exact h1

theorem nm_a0 (vo vf : Value) : nmErr [kdA vo vf] [97] = 0 := by rfl
theorem kin_a0 (vo vf : Value) : isKin [kdA vo vf] [97] [97] = true := by rfl
theorem sp_a (vo vf : Value) : spE [kdA vo vf] [bdP (-1)] none spA = 0 := by
  unfold spE
  rw [show spA.kd = [97] from rfl, nm_a0, if_pos rfl, show wayE [kdA vo vf] [bdP (-1)] none spA = 0 from rfl, if_pos rfl]
  rfl
theorem sp_b (vo vf : Value) (back : Bool) {q : Sp} (hq : q.kd = [97]) : spE [kdA vo vf] [bdP (-1)] (some q) (spB back) = 0 := by
  have hb : bdTell [kdA vo vf] [bdP (-1)] [112] = (bdP (-1), 0) := by
    unfold bdTell
    rw [if_pos (sErr_a vo vf (.inl rfl))]
    rfl
  have hw : wayE [kdA vo vf] [bdP (-1)] (some q) (spB back) = 0 := by
    unfold wayE
    simp only
    rw [show (spB back).bd = [112] from rfl, hb, hq, show (spB back).kd = [97] from rfl]
    simp only
    rw [if_pos trivial]
    have e : ∀ b : Bool, endA b (bdP (-1)).fr (bdP (-1)).tt = [97] ∧ endA b (bdP (-1)).tt (bdP (-1)).fr = [97] := fun b => by cases b <;> exact ⟨rfl, rfl⟩
    rw [(e _).1, (e _).2, kin_a0]
    rfl
  unfold spE
  rw [show (spB back).kd = [97] from rfl, nm_a0, if_pos rfl, hw, if_pos rfl]
  rfl
theorem sps_rep (vo vf : Value) (back : Bool) : ∀ (k : Nat) (q : Sp) (j : Nat), q.kd = [97] → (spsE [kdA vo vf] [bdP (-1)] (some q) (List.replicate k (spB back)) j).2 = 0
  | 0, q, j, _ => rfl
  | k + 1, q, j, hq => by
    rw [List.replicate_succ]
    unfold spsE
    rw [if_pos (sp_b vo vf back hq)]
    exact sps_rep vo vf back k _ _ rfl
theorem pt_a (vo vf : Value) (back : Bool) {k : Nat} (hk : k ≤ 5) : (ptE [kdA vo vf] [bdP (-1)] (pathL back k)).2 = 0 := by
  unfold ptE
  rw [if_pos (sErr_a vo vf (.inl rfl)), if_neg (by simp [pathL]), if_neg (by simp [pathL]; omega)]
  unfold pathL spsE
  rw [if_pos (sp_a vo vf)]
  exact sps_rep vo vf back k spA 1 rfl
theorem walkE_a {vo vf : Value} {N : List Nd} {m : Nat} (hN : RowP N (fun j => (j : Int) + 1)) (hl : N.length = m + 1) (hm : m ≤ 39) (back : Bool) {k : Nat} (hk : k ≤ 5) : walkE [kdA vo vf] [bdP (-1)] N (rowT m) (pathL back k) = 0 ∧ ∃ Q, walkR [kdA vo vf] N (rowT m) (pathL back k) [[]] = some Q ∧ Q.length = m + 1 - k := by
  have hg : gErr N (rowT m) = 0 := rowP_gErr hN (fun j hj => by rw [hl] at hj; constructor <;> omega) (by omega) (by omega)
  obtain ⟨_, ⟨_, hs, _⟩⟩ := (gErr_iff _ _).1 hg
  obtain ⟨Q, h1, h2⟩ := walk_path (vo := vo) (vf := vf) hN hl (by omega) hs back k
  refine ⟨?_, Q, h1, h2⟩
  have hi : inE [kdA vo vf] [bdP (-1)] N (rowT m) = 0 := by unfold inE; rw [if_pos (sErr_a vo vf (.inl rfl)), hg]
  have hc : confB [kdA vo vf] [bdP (-1)] N (rowT m) = true := by
    unfold confB
    rw [hi, row_all hN (by omega)]
    rfl
  unfold walkE
  rw [if_pos (pt_a vo vf back hk), if_pos hi, if_pos hc, h1]
end Go.Proofs.Ytifcpjimhhpcpaa

/-
  Steps of the call's own.
-/
namespace Go.Proofs.Ytifcpjimhhpcpaa
open Go.RowKit
set_option linter.unusedVariables false
set_option linter.unusedSimpArgs false

def Sp.cells (p : Sp) : List Value := [.string (bs p.bd), .bool p.back, .string (bs p.kd), p.vt]
def cellsSp (L : List Sp) : List Value := L.flatMap Sp.cells
theorem cellsSp_snoc (L : List Sp) (p : Sp) : cellsSp (L ++ [p]) = cellsSp L ++ p.cells := by simp [cellsSp]
theorem infoSp : (Try.prog.info? 24).map (fun i => (i.zero, i.size, i.bytes)) = some (some (.agg #[.string ⟨#[]⟩, .bool false, .string ⟨#[]⟩, .slice none 0 0]), 4, 64) := by kernel_rfl
theorem own_isSp {w : World} {base : Nat} {v : Value} {M : List Sp} (h : w.ownsRow base 24 4 v M.length (cellsSp M)) (ht : ∀ p ∈ M, IsTs w p.vt p.ts) : IsSp w v M := by
  have hc : ∀ g, v.ownBlock = some g → ∀ j u, (cellsSp M)[j]? = some u → w.cell? ((⟨g, 0, none⟩ : Addr).add j) = some u := fun g hg => h.cells hg
  rcases h.2 with ⟨rfl, h0⟩ | ⟨g, cap, cur, rfl, hb, hg, hle, hcm, hcs, _⟩
  · obtain rfl := List.eq_nil_of_length_eq_zero h0
    exact ⟨none, 0, rfl, Nat.le_refl _, Nat.zero_le _, .inl rfl⟩
  · refine ⟨_, cap, rfl, hle, hcm, .inr ⟨g, 0, rfl, (Array.getElem?_eq_some_iff.1 hg).1, fun k p hp => ⟨?_, ht p (List.mem_of_getElem? hp)⟩⟩⟩
    have hat := flat_at Sp.cells 4 (fun _ => rfl) M k p
    have hc' := hc g rfl
    have d0 := hc' _ _ ((hat 0 hp (by decide)).trans rfl)
    have d1 := hc' _ _ ((hat 1 hp (by decide)).trans rfl)
    have d2 := hc' _ _ ((hat 2 hp (by decide)).trans rfl)
    have d3 := hc' _ _ ((hat 3 hp (by decide)).trans rfl)
    rw [Addr.add_lit] at d0 d1 d2 d3
    exact ⟨d0, by rw [Nat.add_assoc]; exact d1, by rw [Nat.add_assoc]; exact d2, by rw [Nat.add_assoc]; exact d3⟩
theorem isTs_nil (w : World) : IsTs w (.slice none 0 0) [] := ⟨none, 0, rfl, .inl rfl⟩
end Go.Proofs.Ytifcpjimhhpcpaa

/-
  The walk of many.
-/
namespace Go.Proofs.Ytifcpjimhhpcpaa
open Go.RowKit
set_option linter.unusedVariables false
set_option linter.unusedSimpArgs false

theorem number_any (k : Int) (w : World) : Calls Try.prog 13 #[.int .i64 k] w fun e w' => e = .returned (.agg #[.int .i64 1, .int .i64 k, .string ⟨#[]⟩]) ∧ w' = w.alloc (.cells #[.int .i64 1, .int .i64 k, .string ⟨#[]⟩] 61) := by
  go_enter Try.func13, Try.ntmps13
  go_wp2
  exact bodyPost_ret (v := .agg #[.int .i64 1, .int .i64 k, .string ⟨#[]⟩]) (by simp [results, Try.results13, go_sem]) rfl ⟨rfl, rfl⟩
theorem cell_oth {w : World} {b i j : Nat} {u : Value} (h : i ≠ j) : (w.setCell ⟨b, i, none⟩ u).cell? ⟨b, j, none⟩ = w.cell? ⟨b, j, none⟩ := World.cell?_setCell_other _ _ _ _ (by intro e; exact h (by injection e))
/-- What many gives. -/
def ManyP (w : World) (n m : Nat) (e : Ending) (w' : World) : Prop := ∃ an cn am cm, e = .returned (.agg #[.slice an n cn, .slice am m cm]) ∧ RowN w.heap.size w' (.slice an n cn) n ∧ IsT w' (.slice am m cm) (rowT m) ∧ Below w.heap.size w w'
set_option maxHeartbeats 2000000 in
set_option maxRecDepth 100000 in
theorem many_any (n m : Nat) (hn : n ≤ 80) (hm : m ≤ 140) (w : World) : Calls Try.prog 6 #[.int .i64 n, .int .i64 m] w (ManyP w n m) := by
  obtain ⟨i0, hi0, hz0, hz1, hz2⟩ := info_parts infoN
  obtain ⟨i1, ji0, jz0, jz1, jz2⟩ := info_parts infoT
  go_enter Try.func6, Try.ntmps6
  go_wp2
  go_loopw [6] (fun i wr => M1 w n i wr) (fun i _ => n + 1 - (intOf i).toNat)
  case atStart => exact ⟨[], .slice none 0 0, Nat.zero_le _, rfl, World.ownsRow_nil _ _ _ _, (by have := heap_alloc_new (w.alloc (.cells #[.slice none 0 0, .slice none 0 0] 39)) (.cells #[.slice none 0 0, .slice none 0 0] 39); rwa [World.size_alloc] at this), (Below.heap_alloc _ _ _ (by simp)).trans (heap_alloc_new w _), fun j n h => by simp at h, b_alloc (b_alloc (Below.refl _ _) _) _⟩
  case round =>
    obtain ⟨N, v, hk, rfl, hO, hG, hR, hRe, hB⟩ := hrel
    have g0 := cell_of (i := 0) hG rfl
    have f0 := frz_of (i := 0) hG
    have g1 := cell_of (i := 1) hG rfl
    have HH : Hid (Recs wr N ∧ Below w.heap.size w wr ∧ wr.heap[w.heap.size + 1]? = some (.cells #[v, .slice none 0 0] 39 (0, 0)) ∧ wr.heap[w.heap.size]? = some (.cells #[.slice none 0 0, .slice none 0 0] 39 (0, 0))) := ⟨hRe, hB, hG, hR⟩
    have hgl : w.heap.size + 1 < wr.heap.size := (Array.getElem?_eq_some_iff.1 hG).1
    have hgn : ¬ w.heap.size + 1 = wr.heap.size := by omega
    obtain ⟨k, hkk⟩ : ∃ k, N.length = k := ⟨_, rfl⟩
    rw [hkk] at hk hO ⊢
    by_cases hlt : k < n
    · have hle : ((k : Int) + 1 ≤ (n : Int)) := by omega
      have hO' : (wK wr k).ownsRow w.heap.size 68 3 v k (cellsN N) := own_drew (((hO.alloc _).alloc _).alloc _)
      have hcs : ∀ j u, (ndK k (wr.heap.size + 1)).cells[j]? = some u → (wK wr k).cell? ((⟨wr.heap.size + 1 + 1, 0, none⟩ : Addr).add j) = some u := by
        have := new_at ((wr.alloc (.cells #[.int .i64 1, .int .i64 ((k : Int) + 1), .string ⟨#[]⟩] 61)).alloc (.cells #[.string ⟨#[107]⟩, .int .i64 1, .int .i64 ((k : Int) + 1), .string ⟨#[]⟩] 64)) (ndK k (wr.heap.size + 1)).cells 68
        simp only [World.size_alloc] at this
        exact this
      have h1c : ∀ u ∈ (ndK k (wr.heap.size + 1)).cells, u.oneCell' = true := by simp [Nd.cells, Value.oneCell']
      have hbs : w.heap.size ≤ (wK wr k).heap.size := by simp [wK]; omega
      have HO : Hid ((wK wr k).ownsRow w.heap.size 68 3 v k (cellsN N) ∧ (∀ j u, (ndK k (wr.heap.size + 1)).cells[j]? = some u → (wK wr k).cell? ((⟨wr.heap.size + 1 + 1, 0, none⟩ : Addr).add j) = some u) ∧ (∀ u ∈ (ndK k (wr.heap.size + 1)).cells, u.oneCell' = true) ∧ w.heap.size ≤ (wK wr k).heap.size ∧ (k + 1 ≤ maxLen ∧ (k + 1) * 48 ≤ 140737488355328)) := ⟨hO', hcs, h1c, hbs, by unfold maxLen; omega, by omega⟩
      have HK : Hid (∀ w1, (wK wr k).grownBy w1 v.ownBlock → w1.cell? ⟨w.heap.size + 1, 0, none⟩ = some v ∧ w1.frozen? ⟨w.heap.size + 1, 0, none⟩ = false ∧ w1.cell? ⟨w.heap.size + 1, 1, none⟩ = some (.slice none 0 0)) := fun w1 hg1 => by
        have hne := row_apart hO hG (by decide)
        have hbk : w1.heap[w.heap.size + 1]? = some (.cells #[v, .slice none 0 0] 39 (0, 0)) := (hg1.block _ (Nat.lt_of_lt_of_le hgl (bK wr k).size) (fun h => hne h.symm)).trans (((bK wr k).block _ hgl).trans hG)
        exact ⟨cell_of hbk rfl, frz_of hbk, cell_of hbk rfl⟩
      have hx3 : (wK wr k).cell? ⟨w.heap.size + 1, 0, none⟩ = some v := (bK wr k).cell hgl |>.trans g0
      unfold wK at hx3
      have hy3 : (wK wr k).cell? ⟨w.heap.size + 1, 1, none⟩ = some (.slice none 0 0) := (bK wr k).cell hgl |>.trans g1
      unfold wK at hy3
      have hx2 : ((wr.alloc (.cells #[.int .i64 1, .int .i64 ((k : Int) + 1), .string ⟨#[]⟩] 61)).alloc (.cells #[.string ⟨#[107]⟩, .int .i64 1, .int .i64 ((k : Int) + 1), .string ⟨#[]⟩] 64)).drew.cell? ⟨w.heap.size + 1, 0, none⟩ = some v := ((b_drew (b_alloc (b_alloc (Below.refl wr.heap.size wr) _) _)).cell hgl).trans g0
      have hx1 : (wr.alloc (.cells #[.int .i64 1, .int .i64 ((k : Int) + 1), .string ⟨#[]⟩] 61)).drew.cell? ⟨w.heap.size + 1, 0, none⟩ = some v := ((b_drew (b_alloc (Below.refl wr.heap.size wr) _)).cell hgl).trans g0
      have HQ : Hid (N.length = k ∧ wr.ownsRow w.heap.size 68 3 v k (cellsN N)) := ⟨hkk, hO⟩
      have hwi : IntKind.i64.wrap ((k : Int) + 1 + 1) = (k : Int) + 1 + 1 := by rw [IntKind.wrap_i64]; omega
      clear hRe hB hG hR hkk hO hO' hcs h1c hbs
      go_wp2
      go_region_law (first | (go_simp; go_at_call 13; refine (number_any _ _).mono ?_; rintro e W1 ⟨rfl, rfl⟩) | (refine step_append_own rfl (.tmp 14) (.tmp 21) 36 rfl w.heap.size 68 i0 _ 3 48 Try.underlying36 hi0 hz0 hz1 hz2 rfl (by decide) v k (cellsN N) (by simp [Act.eval, Act.put]) HO.out.1 ⟨wr.heap.size + 1 + 1, 0, none⟩ 1 1 (ndK k (wr.heap.size + 1)).cells (by simp [Act.eval, Act.put]) rfl HO.out.2.1 HO.out.2.2.1 HO.out.2.2.2.2.1 HO.out.2.2.2.2.2 HO.out.2.2.2.1 ?_; intro v1 w1 hown1 hgrow1; obtain ⟨q0, q1, q2⟩ := HK.out w1 hgrow1; obtain ⟨a1, c1, rfl⟩ := own_slice hown1))
      all_goals
        have HR2 : Hid (M1 w n (.int .i64 ((k : Int) + 1 + 1)) (w1.setCell ⟨w.heap.size + 1, 0, none⟩ (.slice a1 (k + 1) c1))) := m1_step HQ.out.1 hlt HH.out.1 HH.out.2.1 HH.out.2.2.1 HH.out.2.2.2 HQ.out.2 hown1 hgrow1
        clear hown1 hgrow1
        go_wp2
        refine ⟨?_, ?_⟩
        · first | exact HR2.out | ((repeat apply Exists.intro); refine ⟨?_, rfl⟩; exact HR2.out)
        · simp [intOf]
          try omega
    · obtain rfl : k = n := by omega
      obtain ⟨an, cn, rfl⟩ := own_slice hO
      have HX : Hid (N.length = k ∧ wr.ownsRow w.heap.size 68 3 (.slice an k cn) k (cellsN N) ∧ Recs wr N ∧ wr.heap[w.heap.size]? = some (.cells #[.slice none 0 0, .slice none 0 0] 39 (0, 0))) := ⟨hkk, hO, hRe, hR⟩
      have HS : Hid (wr.heap[w.heap.size + 1]? = some (.cells #[.slice an k cn, .slice none 0 0] 39 (0, 0)) ∧ Below w.heap.size w wr) := ⟨hG, hB⟩
      clear hkk hO hRe hR hB hG HH g0 g1 f0
      obtain ⟨W, hW⟩ : ∃ W, W = wr := ⟨wr, rfl⟩
      subst hW
      go_wp2
      go_loopw [7] (fun i wr => M2 w W (.slice an k cn) m i wr) (fun i _ => m + 1 - (intOf i).toNat)
      case atStart => exact ⟨0, .slice none 0 0, Nat.zero_le _, rfl, World.ownsRow_nil _ _ _ _, HS.out.1, fun _ _ _ => rfl, Nat.le_refl _, HS.out.2⟩
      case round =>
        obtain ⟨j, v2, hj, rfl, hO, hG, hK, hs, hB⟩ := hrel
        obtain ⟨a2, c2, rfl⟩ := own_slice hO
        have g0 := cell_of (i := 0) hG rfl
        have g1 := cell_of (i := 1) hG rfl
        have f1 := frz_of (i := 1) hG
        have hgr : w.heap.size + 1 < wr.heap.size := (Array.getElem?_eq_some_iff.1 hG).1
        have hgn2 : ¬ w.heap.size + 1 = wr.heap.size := by omega
        have HH : Hid (wr.ownsRow W.heap.size 70 3 (.slice a2 j c2) j (cellsT (rowT j)) ∧ wr.heap[w.heap.size + 1]? = some (.cells #[.slice an k cn, .slice a2 j c2] 39 (0, 0)) ∧ (∀ b, b < W.heap.size → b ≠ w.heap.size + 1 → wr.heap[b]? = W.heap[b]?) ∧ W.heap.size ≤ wr.heap.size ∧ Below w.heap.size w wr) := ⟨hO, hG, hK, hs, hB⟩
        by_cases hlt2 : j < m
        · have hle2 : (j : Int) + 1 ≤ (m : Int) := by omega
          have hwj : IntKind.i64.wrap ((j : Int) + 1 + 1) = (j : Int) + 1 + 1 := by rw [IntKind.wrap_i64]; omega
          have HO : Hid ((wr.alloc (.cells #[.string ⟨#[112]⟩, .int .i64 ((j : Int) + 1), .int .i64 ((j : Int) + 1 + 1)] 70)).ownsRow W.heap.size 70 3 (.slice a2 j c2) j (cellsT (rowT j)) ∧ (j + 1 ≤ maxLen ∧ (j + 1) * 32 ≤ 140737488355328) ∧ W.heap.size ≤ (wr.alloc (.cells #[.string ⟨#[112]⟩, .int .i64 ((j : Int) + 1), .int .i64 ((j : Int) + 1 + 1)] 70)).heap.size) := ⟨hO.alloc _, ⟨by unfold maxLen; omega, by omega⟩, by simp; omega⟩
          have HK : Hid (∀ w1, (wr.alloc (.cells #[.string ⟨#[112]⟩, .int .i64 ((j : Int) + 1), .int .i64 ((j : Int) + 1 + 1)] 70)).grownBy w1 (Value.slice a2 j c2).ownBlock → w1.cell? ⟨w.heap.size + 1, 1, none⟩ = some (.slice a2 j c2) ∧ w1.frozen? ⟨w.heap.size + 1, 1, none⟩ = false) := fun w1 hg1 => by
            have hne := row_apart hO hG (by decide)
            have hbk : w1.heap[w.heap.size + 1]? = some (.cells #[.slice an k cn, .slice a2 j c2] 39 (0, 0)) := (hg1.block _ (by simp; omega) (fun h => hne h.symm)).trans ((Below.heap_alloc _ _ _ hgr).trans hG)
            exact ⟨cell_of hbk rfl, frz_of hbk⟩
          clear hO hG hK hs hB
          go_wp2_with (at_builtin; refine wpList_append_own _ rfl (.tmp 30) (.tmp 35) 37 rfl W.heap.size 70 i1 _ 3 32 Try.underlying37 ji0 jz0 jz1 jz2 rfl (by decide) (.slice a2 j c2) j (cellsT (rowT j)) rfl HO.out.1 ⟨wr.heap.size, 0, none⟩ 1 1 (tK j).cells rfl rfl (new_at wr (tK j).cells 70) (by simp [tK, Te.cells, Value.oneCell']) HO.out.2.1.1 HO.out.2.1.2 HO.out.2.2 ?_; intro v1 w1 hown1 hgrow1 _; obtain ⟨q0, q1⟩ := HK.out w1 hgrow1; obtain ⟨a1, c1, rfl⟩ := own_slice hown1)
          have HR2 : Hid (M2 w W (.slice an k cn) m (.int .i64 ((j : Int) + 1 + 1)) (w1.setCell ⟨w.heap.size + 1, 1, none⟩ (.slice a1 (j + 1) c1))) := m2_step hlt2 hgl HH.out.1 HH.out.2.1 HH.out.2.2.1 HH.out.2.2.2.1 HH.out.2.2.2.2 hown1 hgrow1
          refine ⟨?_, ?_⟩
          · first | exact HR2.out | ((repeat apply Exists.intro); refine ⟨?_, rfl⟩; exact HR2.out)
          · simp [intOf]
            try omega
        · obtain rfl : j = m := by omega
          have hR2 : wr.heap[w.heap.size]? = some (.cells #[.slice none 0 0, .slice none 0 0] 39 (0, 0)) := (hK _ (by omega) (by omega)).trans HX.out.2.2.2
          have r0 := cell_of (i := 0) hR2 rfl
          have r1 := cell_of (i := 1) hR2 rfl
          have fr0 := frz_of (i := 0) hR2
          have fr1 := frz_of (i := 1) hR2
          have hfin := many_end HX.out.1 HX.out.2.1 HX.out.2.2.1 HX.out.2.2.2 hgl HS.out.1 HH.out.1 HH.out.2.1 HH.out.2.2.1 HH.out.2.2.2.1 HH.out.2.2.2.2
          have HF : Hid (RowN w.heap.size ((wr.setCell ⟨w.heap.size, 0, none⟩ (.slice an k cn)).setCell ⟨w.heap.size, 1, none⟩ (.slice a2 j c2)) (.slice an k cn) k ∧ IsT ((wr.setCell ⟨w.heap.size, 0, none⟩ (.slice an k cn)).setCell ⟨w.heap.size, 1, none⟩ (.slice a2 j c2)) (.slice a2 j c2) (rowT j) ∧ Below w.heap.size w ((wr.setCell ⟨w.heap.size, 0, none⟩ (.slice an k cn)).setCell ⟨w.heap.size, 1, none⟩ (.slice a2 j c2))) := hfin
          clear hO hG hK hs hB hfin hR2
          have s1 : ((wr.setCell ⟨w.heap.size, 0, none⟩ (.slice an k cn)).setCell ⟨w.heap.size, 1, none⟩ (.slice a2 j c2)).cell? ⟨w.heap.size, 1, none⟩ = some (.slice a2 j c2) := World.cell?_setCell_same' _ _ _ (by rw [cell_oth (by simp), r1]; rfl)
          have s0 : ((wr.setCell ⟨w.heap.size, 0, none⟩ (.slice an k cn)).setCell ⟨w.heap.size, 1, none⟩ (.slice a2 j c2)).cell? ⟨w.heap.size, 0, none⟩ = some (.slice an k cn) := by
            refine (cell_oth (by simp)).trans ?_
            exact World.cell?_setCell_same' _ _ _ (by rw [r0]; rfl)
          have HS01 : Hid (((wr.setCell ⟨w.heap.size, 0, none⟩ (.slice an k cn)).setCell ⟨w.heap.size, 1, none⟩ (.slice a2 j c2)).cell? ⟨w.heap.size, 0, none⟩ = some (.slice an k cn) ∧ ((wr.setCell ⟨w.heap.size, 0, none⟩ (.slice an k cn)).setCell ⟨w.heap.size, 1, none⟩ (.slice a2 j c2)).cell? ⟨w.heap.size, 1, none⟩ = some (.slice a2 j c2)) := ⟨s0, s1⟩
          clear s0 s1
          go_wp2
          refine bodyPost_ret (v := .agg #[.slice an k cn, .slice a2 j c2]) ?_ rfl ⟨an, cn, a2, c2, rfl, HF.out⟩
          obtain ⟨s0, s1⟩ := HS01.out
          simp [results, Try.results6, go_sem, s0, s1]
end Go.Proofs.Ytifcpjimhhpcpaa

/-
  The walk of the simple schema.
-/
namespace Go.Proofs.Ytifcpjimhhpcpaa
open Go.RowKit
set_option linter.unusedVariables false
set_option linter.unusedSimpArgs false

/-- The world behind it. -/
abbrev simW (w : World) (mx : Int) : World := (((w.alloc (.cells #[.slice (some ⟨w.heap.size + 1 + 1, 0, none⟩) 1 1, .slice (some ⟨w.heap.size + 1 + 1 + 1, 0, none⟩) 1 1] 34)).alloc (.cells #[.string ⟨#[107]⟩, .int .i64 1, .bool true, .bool true] 53)).alloc (.cells #[.string ⟨#[97]⟩, .slice none 0 0, .slice (some ⟨w.heap.size + 1, 0, none⟩) 1 1] 57)).alloc (.cells #[.string ⟨#[112]⟩, .string ⟨#[97]⟩, .string ⟨#[97]⟩, .int .i64 0, .int .i64 mx] 59)
set_option maxHeartbeats 1000000 in
theorem simple_any (mx : Int) (w : World) : Calls Try.prog 5 #[.int .i64 mx] w fun e w' => e = .returned (.agg #[.slice (some ⟨w.heap.size + 1 + 1, 0, none⟩) 1 1, .slice (some ⟨w.heap.size + 1 + 1 + 1, 0, none⟩) 1 1]) ∧ w' = simW w mx := by
  go_enter Try.func5, Try.ntmps5
  go_wp2
  refine bodyPost_ret (v := .agg #[.slice (some ⟨w.heap.size + 1 + 1, 0, none⟩) 1 1, .slice (some ⟨w.heap.size + 1 + 1 + 1, 0, none⟩) 1 1]) ?_ rfl ?_
  · simp [results, Try.results5, go_sem]
  · exact ⟨rfl, rfl⟩
theorem simple_sc (mx : Int) (w : World) : Calls Try.prog 5 #[.int .i64 mx] w fun e w' => ∃ vs vo vf, e = .returned vs ∧ IsSc w' vs [kdA vo vf] [bdP mx] ∧ Below w.heap.size w w' := by
  refine (simple_any mx w).mono ?_
  rintro e w' ⟨rfl, rfl⟩
  have hB : Below w.heap.size w (simW w mx) := b_allocKC (b_allocKC (b_allocKC (b_allocKC (Below.refl _ _) (Nat.le_refl _) _) (Nat.le_refl _) _) (Nat.le_refl _) _) (Nat.le_refl _) _
  have hF : (simW w mx).heap[w.heap.size + 1]? = some (.cells #[.string ⟨#[107]⟩, .int .i64 1, .bool true, .bool true] 53 (0, 0)) := by
    have := heap_alloc_new (w.alloc (.cells #[.slice (some ⟨w.heap.size + 1 + 1, 0, none⟩) 1 1, .slice (some ⟨w.heap.size + 1 + 1 + 1, 0, none⟩) 1 1] 34)) (.cells #[.string ⟨#[107]⟩, .int .i64 1, .bool true, .bool true] 53)
    rw [World.size_alloc] at this
    exact (Below.heap_alloc _ _ _ (by simp)).trans ((Below.heap_alloc _ _ _ (by simp)).trans this)
  have hK : (simW w mx).heap[w.heap.size + 1 + 1]? = some (.cells #[.string ⟨#[97]⟩, .slice none 0 0, .slice (some ⟨w.heap.size + 1, 0, none⟩) 1 1] 57 (0, 0)) := by
    have := heap_alloc_new ((w.alloc (.cells #[.slice (some ⟨w.heap.size + 1 + 1, 0, none⟩) 1 1, .slice (some ⟨w.heap.size + 1 + 1 + 1, 0, none⟩) 1 1] 34)).alloc (.cells #[.string ⟨#[107]⟩, .int .i64 1, .bool true, .bool true] 53)) (.cells #[.string ⟨#[97]⟩, .slice none 0 0, .slice (some ⟨w.heap.size + 1, 0, none⟩) 1 1] 57)
    rw [World.size_alloc, World.size_alloc] at this
    exact (Below.heap_alloc _ _ _ (by simp)).trans this
  have hP : (simW w mx).heap[w.heap.size + 1 + 1 + 1]? = some (.cells #[.string ⟨#[112]⟩, .string ⟨#[97]⟩, .string ⟨#[97]⟩, .int .i64 0, .int .i64 mx] 59 (0, 0)) := by
    have := heap_alloc_new (((w.alloc (.cells #[.slice (some ⟨w.heap.size + 1 + 1, 0, none⟩) 1 1, .slice (some ⟨w.heap.size + 1 + 1 + 1, 0, none⟩) 1 1] 34)).alloc (.cells #[.string ⟨#[107]⟩, .int .i64 1, .bool true, .bool true] 53)).alloc (.cells #[.string ⟨#[97]⟩, .slice none 0 0, .slice (some ⟨w.heap.size + 1, 0, none⟩) 1 1] 57)) (.cells #[.string ⟨#[112]⟩, .string ⟨#[97]⟩, .string ⟨#[97]⟩, .int .i64 0, .int .i64 mx] 59)
    rw [World.size_alloc, World.size_alloc, World.size_alloc] at this
    exact this
  have one : ∀ {α : Type} {a x : α} {i : Nat}, [a][i]? = some x → i = 0 ∧ a = x := fun {α a x i} h => by
    match i with
    | 0 => exact ⟨rfl, by simpa using h⟩
    | i + 1 => simp at h
  refine ⟨_, .slice none 0 0, .slice (some ⟨w.heap.size + 1, 0, none⟩) 1 1, rfl, ⟨_, _, rfl, .inr ⟨w.heap.size + 1 + 1, 0, 1, rfl, Nat.le_refl _, by unfold maxLen; omega, (Array.getElem?_eq_some_iff.1 hK).1, fun i k hk => ?_⟩, fun k hk => ?_, fun k hk => ?_, .inr ⟨w.heap.size + 1 + 1 + 1, 0, 1, rfl, Nat.le_refl _, by unfold maxLen; omega, (Array.getElem?_eq_some_iff.1 hP).1, fun i x hx => ?_⟩, fun x hx => ?_⟩, hB⟩
  · obtain ⟨rfl, rfl⟩ := one hk
    exact ⟨cell_atC hK rfl, cell_atC hK rfl, cell_atC hK rfl⟩
  · obtain rfl := List.mem_singleton.1 hk
    refine ⟨.inl ⟨none, 0, rfl, rfl, Nat.zero_le _, fun _ => rfl⟩, .inr ⟨w.heap.size + 1, 0, 1, rfl, Nat.le_refl _, by unfold maxLen; omega, (Array.getElem?_eq_some_iff.1 hF).1, fun i f hf => ?_⟩⟩
    obtain ⟨rfl, rfl⟩ := one hf
    exact ⟨cell_atC hF rfl, cell_atC hF rfl, cell_atC hF rfl, cell_atC hF rfl⟩
  · obtain rfl := List.mem_singleton.1 hk
    refine ⟨by show (1 : Nat) ≤ maxLen; decide, fun f hf => ?_⟩
    obtain rfl := List.mem_singleton.1 hf
    show (1 : Nat) ≤ maxLen
    decide
  · obtain ⟨rfl, rfl⟩ := one hx
    exact ⟨cell_atC hP rfl, cell_atC hP rfl, cell_atC hP rfl, cell_atC hP rfl, cell_atC hP rfl⟩
  · obtain rfl := List.mem_singleton.1 hx
    show (1 : Nat) ≤ maxLen
    decide
end Go.Proofs.Ytifcpjimhhpcpaa
