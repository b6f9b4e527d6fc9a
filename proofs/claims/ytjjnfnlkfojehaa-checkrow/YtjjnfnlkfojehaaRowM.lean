/-
  A row of nodes is right: the mathematics of CheckRow.
-/
import Derived.Test.YtjjnfnlkfojehaaFulA
namespace Go.Proofs.Ytjjnfnlkfojehaa
open Go.RowKit
set_option linter.unusedVariables false
set_option linter.unusedSimpArgs false

/-- The field and the bond of the simple schema. -/
def fdK : Fd := ⟨[107], 1, true, true⟩
def bdP (mx : Int) : Bd := ⟨[112], [97], [97], 0, mx⟩
/-- Its kind; the two values are where what it has lies. -/
def kdA (vo vf : Value) : Kd := ⟨[97], [], [fdK], vo, vf⟩
def shA (mx : Int) : Sh := ⟨[[97]], [fdK], [bdP mx]⟩
theorem shp_a (vo vf : Value) (mx : Int) : shp [kdA vo vf] [bdP mx] [97] = shA mx := by rfl
theorem shO_a (vo vf : Value) (mx : Int) : shO [kdA vo vf] [bdP mx] [kdA vo vf] ⟨#[97]⟩ = some (shA mx) := by rfl
theorem bdO_p (mx : Int) : bdO [bdP mx] ⟨#[112]⟩ = some (bdP mx) := by rfl
theorem sErr_a (vo vf : Value) {mx : Int} (h : mx = -1 ∨ (0 ≤ mx ∧ mx ≤ 20)) : (sErr [kdA vo vf] [bdP mx]).2 = 0 := by
  have h1 : (ksErr [kdA vo vf]).2 = 0 := by kernel_rfl
  unfold sErr
  rw [if_pos h1, if_neg (by simp)]
  unfold bsGo
  have h2 : bErr [kdA vo vf] [] (bdP mx) = 0 := by
    unfold bErr
    have e1 : nErr (bdP mx).nm = 0 := by show nErr [112] = 0; decide
    have e2 : idxB (bdP mx).nm [] 0 = -1 := rfl
    have e3 : hasK [kdA vo vf] (bdP mx).fr = true := by rfl
    have e4 : hasK [kdA vo vf] (bdP mx).tt = true := by rfl
    have e5 : inRB (bdP mx).mn (bdP mx).mx = true := by
      rw [inR_iff]
      show (0 : Int) ≤ 0 ∧ (0 : Int) ≤ 20 ∧ (mx = -1 ∨ ((0 : Int) ≤ mx ∧ mx ≤ 20))
      omega
    rw [if_pos e1, if_pos e2, if_pos e3, if_pos e4, if_pos e5]
  rw [if_pos h2]
  rfl

/-- The key of a number. -/
def keyN (i : Int) : KeyV := (⟨#[107]⟩, 1, i, ⟨#[]⟩)
/-- What is taken behind so many nodes. -/
def takeN : Nat → Tk
  | 0 => fun _ => none
  | k + 1 => upd (takeN k) (keyN ((k : Int) + 1)) ((k : Int) + 1)
theorem keyN_inj {i j : Int} (h : keyN i = keyN j) : i = j := by
  unfold keyN at h
  simp at h
  exact h
theorem takeN_new : ∀ (k : Nat) (i : Int), (k : Int) < i → takeN k (keyN i) = none
  | 0, _, _ => rfl
  | k + 1, i, h => by
    unfold takeN upd
    rw [if_neg (fun e => by have := keyN_inj e; omega)]
    exact takeN_new k i (by omega)
theorem takeN_old : ∀ (k : Nat) (i : Int), 1 ≤ i → i ≤ k → takeN k (keyN i) = some i
  | 0, i, h1, h2 => by omega
  | k + 1, i, h1, h2 => by
    unfold takeN upd
    split
    · rename_i e; rw [keyN_inj e]
    · rename_i e
      refine takeN_old k i h1 ?_
      have : i ≠ (k : Int) + 1 := fun h => e (by rw [h])
      omega
theorem nm_a (i : Int) : (prK i).nm.toList = [107] := by
  show (⟨#[107]⟩ : ByteArray).toList = [107]
  rw [Lib.toList_data]
theorem prop_a (mx : Int) (id i : Int) : propF (shA mx).fs id [prK i] = [] := by
  show propS [fdK] id [] (prK i) = []
  have h : fits [fdK] (prK i) = true := by
    unfold fits fit1
    simp only [List.any_cons, List.any_nil, nm_a]
    rfl
  unfold propS
  rw [if_pos h]
theorem getP_a (i : Int) : getP [107] [prK i] = some (prK i) := by
  have h : idxP [107] [prK i] 0 = 0 := by
    unfold idxP
    rw [nm_a, if_pos (by decide)]
    rfl
  unfold getP
  rw [h, if_neg (by decide)]
  rfl
theorem noF_a (i : Int) : noF [prK i] fdK = false := by
  unfold noF
  show (true && (getP [107] [prK i]).isNone) = false
  rw [getP_a]
  rfl
theorem keyP_a (i : Int) : keyP [prK i] fdK = keyN i := by
  unfold keyP
  show (bs [107], valP (getP [107] [prK i])) = _
  rw [getP_a]
  rfl
theorem nodeS_eq (H : ByteArray → Option Sh) (O : Ou) (S : List Ft × Tk) (n : Nd) : nodeS H O S n = (S.1 ++ (ownF (H n.kd) n S.2).1 ++ bondF ((H n.kd).getD sh0).bn n.id O, (ownF (H n.kd) n S.2).2) := rfl
theorem sameF_a (i : Int) (T : Tk) : sameF [prK i] T fdK = ((T (keyN i)).getD 0 != 0) := by
  unfold sameF
  rw [keyP_a]
  show ((true && (valP (getP [107] [prK i])).1 == 1) && _) = _
  rw [getP_a]
  rfl
theorem own_new (mx : Int) {n : Nd} {i : Int} (hr : n.rc = [prK i]) {T : Tk} (hT : T (keyN i) = none) : ownF (some (shA mx)) n T = ([], upd T (keyN i) n.id) := by
  have h1 : sameF [prK i] T fdK = false := by rw [sameF_a, hT]; rfl
  have h2 : fieldS n.id [prK i] ([], T) fdK = ([], upd T (keyP [prK i] fdK) n.id) := fieldS_put (noF_a i) h1 rfl
  rw [keyP_a] at h2
  unfold ownF
  simp only
  rw [hr, prop_a]
  have e : fieldF (shA mx).fs n.id [prK i] T = ([], upd T (keyN i) n.id) := h2
  rw [e]
  rfl
theorem own_old (mx : Int) {n : Nd} {i : Int} (hr : n.rc = [prK i]) {T : Tk} {j : Int} (hT : T (keyN i) = some j) (hj : j ≠ 0) : (ownF (some (shA mx)) n T).1 = [⟨4, n.id, ⟨#[107]⟩⟩] := by
  have h1 : sameF [prK i] T fdK = true := by rw [sameF_a, hT]; simpa using hj
  have h2 : fieldS n.id [prK i] ([], T) fdK = ([⟨4, n.id, bs fdK.nm⟩], T) := fieldS_same (noF_a i) h1
  unfold ownF
  simp only
  rw [hr, prop_a]
  have e : fieldF (shA mx).fs n.id [prK i] T = ([⟨4, n.id, bs fdK.nm⟩], T) := h2
  rw [e]
  rfl
theorem outO_s (m : Nat) : outO (rowT (m + 1)) = outS (outO (rowT m)) (tK m) := by
  unfold outO
  rw [rowT_s, List.foldl_append]
  rfl
theorem out_row : ∀ (m : Nat) (i : Int), (outO (rowT m) (⟨#[112]⟩, i)).getD 0 = if 1 ≤ i ∧ i ≤ m then 1 else 0
  | 0, i => by rw [if_neg (by omega)]; rfl
  | m + 1, i => by
    have ih := out_row m i
    have ih2 := out_row m ((m : Int) + 1)
    rw [if_neg (by omega)] at ih2
    rw [outO_s]
    show (upd (outO (rowT m)) (⟨#[112]⟩, (m : Int) + 1) ((outO (rowT m) (⟨#[112]⟩, (m : Int) + 1)).getD 0 + 1) (⟨#[112]⟩, i)).getD 0 = _
    rw [ih2]
    unfold upd
    by_cases h : i = (m : Int) + 1
    · subst h
      rw [if_pos rfl, if_pos (by omega)]
      rfl
    · rw [if_neg (by simpa using h), ih]
      by_cases h2 : 1 ≤ i ∧ i ≤ (m : Int)
      · rw [if_pos h2, if_pos (by omega)]
      · rw [if_neg h2, if_neg (by omega)]
theorem bond_row (m : Nat) (id mx : Int) : bondF [bdP mx] id (outO (rowT m)) = if mx = 0 ∧ 1 ≤ id ∧ id ≤ m then [⟨8, id, ⟨#[112]⟩⟩] else [] := by
  have hc : cnt (outO (rowT m)) id (bdP mx) = if 1 ≤ id ∧ id ≤ m then 1 else 0 := out_row m id
  show bondS id (outO (rowT m)) [] (bdP mx) = _
  have hmn : (bdP mx).mn = 0 := rfl
  have hmx : (bdP mx).mx = mx := rfl
  have h0 : ¬ cnt (outO (rowT m)) id (bdP mx) < (bdP mx).mn := by
    rw [hc, hmn]; split <;> omega
  by_cases h : mx = 0 ∧ 1 ≤ id ∧ id ≤ m
  · rw [if_pos h, bondS_many h0 (by rw [hmx]; omega) (by rw [hmx, hc, if_pos h.2]; omega)]
    rfl
  · rw [if_neg h, bondS_ok h0]
    rw [hmx, hc]
    by_cases h2 : 1 ≤ id ∧ id ≤ (m : Int)
    · rw [if_pos h2]; omega
    · rw [if_neg h2]; omega
/-- A row of nodes with these keys. -/
def RowP (N : List Nd) (κ : Nat → Int) : Prop := ∀ (j : Nat) (x : Nd), N[j]? = some x → x.id = (j : Int) + 1 ∧ x.kd = ⟨#[97]⟩ ∧ x.rc = [prK (κ j)]
theorem node_row {H : ByteArray → Option Sh} {mx : Int} (hH : H ⟨#[97]⟩ = some (shA mx)) {N : List Nd} {κ : Nat → Int} (hN : RowP N κ) (m : Nat) : ∀ k : Nat, k ≤ N.length → (∀ j, j < k → κ j = (j : Int) + 1) →
    ((N.take k).foldl (nodeS H (outO (rowT m))) ([], fun _ => none)).2 = takeN k ∧ ((N.take k).foldl (nodeS H (outO (rowT m))) ([], fun _ => none)).1.length = if mx = 0 then min k m else 0
  | 0, _, _ => by
    refine ⟨rfl, ?_⟩
    split <;> simp
  | k + 1, hk, hκ => by
    obtain ⟨x, hx⟩ : ∃ x, N[k]? = some x := ⟨N[k], by simp⟩
    obtain ⟨h1, h2, h3⟩ := hN k x hx
    obtain ⟨i1, i2⟩ := node_row hH hN m k (by omega) (fun j hj => hκ j (by omega))
    rw [foldl_take _ _ hx]
    rw [nodeS_eq, h2, hH, i1]
    rw [hκ k (by omega)] at h3
    rw [own_new mx h3 (takeN_new k _ (by omega)), h1]
    refine ⟨rfl, ?_⟩
    show (_ ++ _ ++ bondF [bdP mx] ((k : Int) + 1) (outO (rowT m))).length = _
    rw [bond_row, List.length_append, List.length_append, i2]
    by_cases hm0 : mx = 0
    · by_cases hkm : k < m
      · rw [if_pos hm0, if_pos ⟨hm0, by omega, by omega⟩, if_pos hm0]; simp; omega
      · rw [if_pos hm0, if_neg (by omega), if_pos hm0]; simp; omega
    · rw [if_neg hm0, if_neg (fun h => hm0 h.1), if_neg hm0]; rfl
theorem end_row {H : ByteArray → Option Sh} {mx : Int} (hH : H ⟨#[97]⟩ = some (shA mx)) {N : List Nd} {κ : Nat → Int} (hN : RowP N κ) : ∀ k : Nat, k ≤ N.length → ∀ i : Int, 1 ≤ i → i ≤ k → endO H (N.take k) i = some (shA mx)
  | 0, _, i, h1, h2 => by omega
  | k + 1, hk, i, h1, h2 => by
    obtain ⟨x, hx⟩ : ∃ x, N[k]? = some x := ⟨N[k], by simp⟩
    obtain ⟨g1, g2, _⟩ := hN k x hx
    rw [endO_take hx, g2, hH, g1]
    unfold upd
    split
    · rfl
    · rename_i hne
      exact end_row hH hN k (by omega) i h1 (by omega)
theorem tie_row {X : ByteArray → Option Bd} {E : En} {mx : Int} (hX : X ⟨#[112]⟩ = some (bdP mx)) : ∀ m : Nat, (∀ i : Int, 1 ≤ i → i ≤ (m : Int) + 1 → E i = some (shA mx)) → tieF X E (rowT m) = []
  | 0, _ => rfl
  | m + 1, hE => by
    have ih := tie_row hX m (fun i h1 h2 => hE i h1 (by omega))
    unfold tieF at ih ⊢
    rw [rowT_s, List.foldl_append, ih]
    have hb : badE E (tK m) (bdP mx) = false := by
      unfold badE
      have e1 : E (tK m).fr = some (shA mx) := hE _ (by show (1 : Int) ≤ (m : Int) + 1; omega) (by show (m : Int) + 1 ≤ ((m + 1 : Nat) : Int) + 1; omega)
      have e2 : E (tK m).tt = some (shA mx) := hE _ (by show (1 : Int) ≤ (m : Int) + 1 + 1; omega) (by show (m : Int) + 1 + 1 ≤ ((m + 1 : Nat) : Int) + 1; omega)
      rw [e1, e2]
      rfl
    exact tieS_ok (t := tK m) hX hb
/-- A row of its own keys. -/
theorem row_all {vo vf : Value} {mx : Int} {N : List Nd} (hN : RowP N (fun j => (j : Int) + 1)) {m : Nat} (hm : m + 1 ≤ N.length) : (allF [kdA vo vf] [bdP mx] N (rowT m)).length = if mx = 0 then m else 0 := by
  unfold allF
  have hH := shO_a vo vf mx
  have h1 := (node_row hH hN m N.length (Nat.le_refl _) (fun _ _ => rfl)).2
  rw [List.take_length] at h1
  have h2 := tie_row (E := endO (shO [kdA vo vf] [bdP mx] [kdA vo vf]) N) (bdO_p mx) m (fun i a b => by
    have := end_row hH hN N.length (Nat.le_refl _) i a (by omega)
    rwa [List.take_length] at this)
  rw [h2, List.append_nil]
  unfold nodeF
  rw [h1]
  split
  · omega
  · rfl
/-- The last one has another one's key. -/
theorem row_same {vo vf : Value} {N : List Nd} {κ : Nat → Int} (hN : RowP N κ) {n : Nat} (hn : N.length = n + 1) (hκ : ∀ j, j < n → κ j = (j : Int) + 1) (h1 : 1 ≤ κ n) (h2 : κ n ≤ n) : allF [kdA vo vf] [bdP (-1)] N (rowT n) = [⟨4, (n : Int) + 1, ⟨#[107]⟩⟩] := by
  unfold allF
  have hH := shO_a vo vf (-1)
  obtain ⟨i1, i2⟩ := node_row hH hN n n (by omega) hκ
  have h3 := tie_row (E := endO (shO [kdA vo vf] [bdP (-1)] [kdA vo vf]) N) (bdO_p (-1)) n (fun i a b => by
    have := end_row hH hN N.length (Nat.le_refl _) i a (by omega)
    rwa [List.take_length] at this)
  rw [h3, List.append_nil]
  obtain ⟨x, hx⟩ : ∃ x, N[n]? = some x := ⟨N[n], by simp⟩
  obtain ⟨g1, g2, g3⟩ := hN n x hx
  have hs := foldl_take (nodeS (shO [kdA vo vf] [bdP (-1)] [kdA vo vf]) (outO (rowT n))) ([], fun _ => none) hx
  rw [show n + 1 = N.length from hn.symm, List.take_length] at hs
  unfold nodeF
  rw [hs]
  have i3 := List.eq_nil_of_length_eq_zero (i2.trans (by simp))
  rw [nodeS_eq, g2, hH, i1, i3]
  have ho := own_old (-1) g3 (takeN_old n (κ n) h1 h2) (by omega)
  show [] ++ (ownF (some (shA (-1))) x (takeN n)).1 ++ bondF [bdP (-1)] x.id (outO (rowT n)) = _
  rw [ho, bond_row, if_neg (by omega), g1]
  rfl
end Go.Proofs.Ytjjnfnlkfojehaa
