/-
  A row of nodes of which the last one's record is set anew: how it lies in memory.
-/
import Derived.Test.YtjjnfnlkfojehaaRowM
namespace Go.Proofs.Ytjjnfnlkfojehaa
open Go.RowKit
set_option linter.unusedVariables false
set_option linter.unusedSimpArgs false

/-- All cells but one stay. -/
def Kx (a0 : Addr) (w w' : World) : Prop := w.heap.size ≤ w'.heap.size ∧ ∀ a v, w.cell? a = some v → a ≠ a0 → w'.cell? a = some v
theorem Kx.plain {a0 : Addr} {w w' : World} (h : Kx a0 w w') {ao : Option Addr} {n c : Nat} (h0 : w.cell? a0 = some (.slice ao n c)) {a : Addr} {v : Value} (hv : w.cell? a = some v) (hn : ∀ ao n c, v ≠ .slice ao n c) : w'.cell? a = some v := by
  refine h.2 a v hv (fun e => ?_)
  subst e
  rw [h0] at hv
  exact hn _ _ _ (Option.some.inj hv).symm
theorem IsR.kx {a0 : Addr} {w w' : World} (h : Kx a0 w w') {ao : Option Addr} {n c : Nat} (h0 : w.cell? a0 = some (.slice ao n c)) {v : Value} {L : List Pr} (hR : IsR w v L) : IsR w' v L := by
  obtain ⟨ao', c', rfl, h1 | ⟨b, off, rfl, hb, hL⟩⟩ := hR
  · exact ⟨ao', c', rfl, .inl h1⟩
  · refine ⟨_, c', rfl, .inr ⟨b, off, rfl, Nat.lt_of_lt_of_le hb h.1, fun k p hp => ?_⟩⟩
    obtain ⟨c0, c1, c2, c3⟩ := hL k p hp
    exact ⟨h.plain h0 c0 (by intros; simp), h.plain h0 c1 (by intros; simp), h.plain h0 c2 (by intros; simp), h.plain h0 c3 (by intros; simp)⟩
theorem IsT.kx {a0 : Addr} {w w' : World} (h : Kx a0 w w') {ao : Option Addr} {n c : Nat} (h0 : w.cell? a0 = some (.slice ao n c)) {v : Value} {T : List Te} (hT : IsT w v T) : IsT w' v T := by
  obtain ⟨ao', c', rfl, hc, h1 | ⟨b, off, rfl, hb, hL⟩⟩ := hT
  · exact ⟨ao', c', rfl, hc, .inl h1⟩
  · refine ⟨_, c', rfl, hc, .inr ⟨b, off, rfl, Nat.lt_of_lt_of_le hb h.1, fun k p hp => ?_⟩⟩
    obtain ⟨c0, c1, c2⟩ := hL k p hp
    exact ⟨h.plain h0 c0 (by intros; simp), h.plain h0 c1 (by intros; simp), h.plain h0 c2 (by intros; simp)⟩
/-- The last node of a row, and where it lies. -/
theorem row_last {b0 : Nat} {w : World} {vN : Value} {k : Nat} (h : RowN b0 w vN (k + 1)) : ∃ (g cn : Nat) (av : Option Addr) (lv cv : Nat), vN = .slice (some ⟨g, 0, none⟩) (k + 1) cn ∧ w.cell? ⟨g, k * 3 + 2, none⟩ = some (.slice av lv cv) ∧ w.frozen? ⟨g, k * 3 + 2, none⟩ = false ∧ g < w.heap.size ∧ b0 ≤ g := by
  obtain ⟨N, base, hb0, hl, hN, hr, ho⟩ := h
  rcases ho.2 with ⟨_, h0⟩ | ⟨g, cap, cur, rfl, hb, hg, hle, hcm, hcs, ht⟩
  · cases h0
  · obtain ⟨x, hx⟩ : ∃ x, N[k]? = some x := ⟨N[k], by simp⟩
    obtain ⟨b, off, c, hv, hb', e0, e1, e2, eR⟩ := hN.at hx
    injection hv with hv1 _ _
    injection hv1 with hv1
    injection hv1 with hg' ho' _
    subst hg' ho'
    obtain ⟨av, cv, hav, _⟩ := eR
    rw [hav, Nat.zero_add] at e2
    exact ⟨g, cap, av, _, cv, rfl, e2, frz_at hg, hb', Nat.le_trans hb0 hb⟩
theorem RowN.on {b0 : Nat} {w w' : World} {vN : Value} {n : Nat} (h : RowN b0 w vN n) (hB : Below w.heap.size w w') : RowN b0 w' vN n := by
  obtain ⟨N, base, h0, h1, h2, h3, h4⟩ := h
  exact ⟨N, base, h0, h1, h2.on hB, h3, own_below h4 hB⟩
theorem row_set_last {b0 : Nat} {w w' : World} {g cn k nb : Nat} {av : Option Addr} {lv cv : Nat} {key : Int} (h : RowN b0 w (.slice (some ⟨g, 0, none⟩) (k + 1) cn) (k + 1)) (h0 : w.cell? ⟨g, k * 3 + 2, none⟩ = some (.slice av lv cv)) (hK : Kx ⟨g, k * 3 + 2, none⟩ w w')
    (h1 : w'.cell? ⟨g, k * 3 + 2, none⟩ = some (.slice (some ⟨nb, 0, none⟩) 1 1)) (h2 : w'.heap[nb]? = some (.cells #[.string ⟨#[107]⟩, .int .i64 1, .int .i64 key, .string ⟨#[]⟩] 51 (0, 0))) :
    ∃ N κ, List.length N = k + 1 ∧ IsN w' (.slice (some ⟨g, 0, none⟩) (k + 1) cn) N ∧ RowP N κ ∧ (∀ j, j < k → κ j = (j : Int) + 1) ∧ κ k = key := by
  obtain ⟨N, base, _, hl, hN, hr, _⟩ := h
  have hcn : k + 1 ≤ cn := by
    obtain ⟨ao, c, hv, hc, _⟩ := hN
    injection hv with _ _ hv3
    omega
  refine ⟨N.take k ++ [⟨(k : Int) + 1, ⟨#[97]⟩, .slice (some ⟨nb, 0, none⟩) 1 1, [prK key]⟩], fun j => if j = k then key else (j : Int) + 1, by simp; omega, ?_, ?_, fun j hj => by simp; omega, by simp⟩
  · have hlen : (N.take k ++ [(⟨(k : Int) + 1, ⟨#[97]⟩, .slice (some ⟨nb, 0, none⟩) 1 1, [prK key]⟩ : Nd)]).length = k + 1 := by simp; omega
    refine ⟨_, cn, by rw [hlen], by rw [hlen]; exact hcn, .inr ⟨g, 0, rfl, ?_, fun j x hx => ?_⟩⟩
    · exact Nat.lt_of_lt_of_le (cell_lt h0) hK.1
    · by_cases hj : j < k
      · rw [List.getElem?_append_left (by simp; omega), List.getElem?_take, if_pos hj] at hx
        obtain ⟨b, off, c, hv, hb', e0, e1, e2, eR⟩ := hN.at hx
        injection hv with hv1 _ _
        injection hv1 with hv1
        injection hv1 with hg' ho' _
        subst hg' ho'
        refine ⟨hK.plain h0 e0 (by intros; simp), hK.plain h0 e1 (by intros; simp), hK.2 _ _ e2 (fun e => ?_), eR.kx hK h0⟩
        injection e with _ e' _
        omega
      · have hjk : j = k := by
          have := (List.getElem?_eq_some_iff.1 hx).1
          rw [hlen] at this
          omega
        subst hjk
        obtain ⟨y, hy⟩ : ∃ y, N[j]? = some y := ⟨N[j], by simp⟩
        obtain ⟨b, off, c, hv, hb', e0, e1, e2, eR⟩ := hN.at hy
        injection hv with hv1 _ _
        injection hv1 with hv1
        injection hv1 with hg' ho' _
        subst hg' ho'
        obtain ⟨r1, r2, _⟩ := hr j y hy
        rw [r1] at e0
        rw [r2] at e1
        have hx' : (⟨(j : Int) + 1, ⟨#[97]⟩, .slice (some ⟨nb, 0, none⟩) 1 1, [prK key]⟩ : Nd) = x := by
          rw [List.getElem?_append_right (by simp; omega)] at hx
          have e : j - (N.take j).length = 0 := by simp; omega
          rw [e] at hx
          simpa using hx
        subst hx'
        refine ⟨hK.plain h0 e0 (by intros; simp), hK.plain h0 e1 (by intros; simp), by rw [Nat.zero_add]; exact h1, ⟨_, 1, rfl, .inr ⟨nb, 0, rfl, (Array.getElem?_eq_some_iff.1 h2).1, fun i p hp => ?_⟩⟩⟩
        match i with
        | 0 =>
          obtain rfl : prK key = p := by simpa using hp
          exact ⟨cell_at h2 rfl, cell_at h2 rfl, cell_at h2 rfl, cell_at h2 rfl⟩
        | i + 1 => simp at hp
  · intro j x hx
    by_cases hj : j < k
    · rw [List.getElem?_append_left (by simp; omega), List.getElem?_take, if_pos hj] at hx
      obtain ⟨r1, r2, r3⟩ := hr j x hx
      refine ⟨r1, r2, ?_⟩
      rw [r3]
      show [prK ((j : Int) + 1)] = [prK (if j = k then key else (j : Int) + 1)]
      have hne : ¬ j = k := by omega
      rw [if_neg hne]
    · have hlen : (N.take k ++ [(⟨(k : Int) + 1, ⟨#[97]⟩, .slice (some ⟨nb, 0, none⟩) 1 1, [prK key]⟩ : Nd)]).length = k + 1 := by simp; omega
      have hjk : j = k := by
        have := (List.getElem?_eq_some_iff.1 hx).1
        rw [hlen] at this
        omega
      subst hjk
      have hx' : (⟨(j : Int) + 1, ⟨#[97]⟩, .slice (some ⟨nb, 0, none⟩) 1 1, [prK key]⟩ : Nd) = x := by
        rw [List.getElem?_append_right (by simp; omega)] at hx
        have e : j - (N.take j).length = 0 := by simp; omega
        rw [e] at hx
        simpa using hx
      subst hx'
      exact ⟨rfl, rfl, by simp⟩
/-- Rows are right. -/
theorem idOk_of {i : Int} (h1 : 1 ≤ i) (h2 : i ≤ 1000) : idOk i = true := by unfold idOk; simp [h1, h2]
theorem rErr_k (i : Int) (h1 : 1 ≤ i) (h2 : i ≤ 1000) : rErr [prK i] = 0 := by
  have hb : (prK i).bad = 0 := by
    have : inR 1 i = true := by simp [inR]; omega
    simp [prK, Pr.bad, vErr, this]
  have hn : nErr (prK i).l = 0 := by show nErr [107] = 0; decide
  unfold rErr
  rw [if_neg (by simp), chk_first hn hb, chk_end]
theorem rowP_chkN : ∀ (N : List Nd) (m : Nat) (o : Option Nd) (κ : Nat → Int), (∀ (j : Nat) (x : Nd), N[j]? = some x → x.id = ((m + j : Nat) : Int) + 1 ∧ x.kd = ⟨#[97]⟩ ∧ x.rc = [prK (κ (m + j))]) → (∀ j, m ≤ j → j < m + N.length → 1 ≤ κ j ∧ κ j ≤ 1000) → (∀ q, o = some q → q.id ≤ m) → m + N.length ≤ 60 → chkN o N = 0
  | [], _, o, _, _, _, _, _ => chkN_end o
  | n :: r, m, o, κ, h, hκ, ho, hl => by
    obtain ⟨h1, h2, h3⟩ := h 0 n rfl
    simp only [Nat.add_zero] at h1 h3
    have hl' : m + (r.length + 1) ≤ 60 := by simpa using hl
    have hk := hκ m (Nat.le_refl _) (by simp)
    have he : ndE o n = 0 := by
      unfold ndE
      rw [if_pos (idOk_of (by omega) (by omega)), if_neg, h2, if_pos (by decide), h3]
      · exact rErr_k _ hk.1 hk.2
      · cases o with
        | none => simp [Nd.low]
        | some q => have := ho q rfl; simp [Nd.low]; omega
    rw [chkN_ok he]
    refine rowP_chkN r (m + 1) (some n) κ (fun j x hx => ?_) (fun j a b => hκ j (by omega) (by simp; omega)) (fun q hq => ?_) (by omega)
    · have := h (j + 1) x (by simpa using hx)
      rwa [show m + (j + 1) = m + 1 + j by omega] at this
    · injection hq with hq; subst hq; rw [h1]; omega
theorem tCmp_up (j : Nat) : tCmp (tK (j + 1)) (tK j) = 1 := by
  have h1 : Lib.compareBytes [112] [112] = 0 := by decide
  have h2 : Lib.compareInt (((j + 1 : Nat) : Int) + 1) ((j : Int) + 1) = 1 := by
    unfold Lib.compareInt
    (repeat' split) <;> first | rfl | (exfalso; omega)
  unfold tCmp
  rw [show Lib.compareBytes (tK (j + 1)).bd.data.toList (tK j).bd.data.toList = 0 from h1, show Lib.compareInt (tK (j + 1)).fr (tK j).fr = 1 from h2]
  unfold or3
  rw [if_pos rfl, if_neg (by decide)]
theorem row_chkT : ∀ (k s : Nat) (o : Option Te), (o = none ∨ ∃ q, s = q + 1 ∧ o = some (tK q)) → s + k ≤ 120 → chkT o ((List.range' s k).map tK) = 0
  | 0, _, o, _, _ => chkT_end o
  | k + 1, s, o, ho, hl => by
    rw [List.range'_succ, List.map_cons]
    have he : teE o (tK s) = 0 := by
      unfold teE
      have h1 : nErr (tK s).bd.data.toList = 0 := by show nErr [112] = 0; decide
      have h2 : (idOk (tK s).fr && idOk (tK s).tt) = true := by
        show (idOk ((s : Int) + 1) && idOk ((s : Int) + 1 + 1)) = true
        rw [idOk_of (by omega) (by omega), idOk_of (by omega) (by omega)]; rfl
      have h3 : ¬ (tK s).low o = true := by
        rcases ho with rfl | ⟨q, rfl, rfl⟩
        · simp [Te.low]
        · simp [Te.low, tCmp_up]
      rw [if_pos h1, if_pos h2, if_neg h3]
    rw [chkT_ok he]
    exact row_chkT k (s + 1) (some (tK s)) (.inr ⟨s, rfl, rfl⟩) (by omega)
theorem rowP_gErr {N : List Nd} {κ : Nat → Int} {m : Nat} (h : RowP N κ) (hκ : ∀ j, j < N.length → 1 ≤ κ j ∧ κ j ≤ 1000) (hn : N.length ≤ 60) (hm : m ≤ 120) : gErr N (rowT m) = 0 := by
  have h1 : chkN none N = 0 := rowP_chkN N 0 none κ (fun j x hx => by rw [Nat.zero_add]; exact h j x hx) (fun j _ b => hκ j (by omega)) (fun q hq => by cases hq) (by omega)
  have h2 : chkT none (rowT m) = 0 := by
    have := row_chkT m 0 none (.inl rfl) (by omega)
    unfold rowT
    rw [List.range_eq_range']; exact this
  unfold gErr
  rw [if_neg (by rw [rowT_len]; omega), if_pos h1, h2]
theorem rowP_szN {N : List Nd} {κ : Nat → Int} (h : RowP N κ) : SzN N := fun n hn => by
  obtain ⟨j, hj⟩ := List.mem_iff_getElem?.1 hn
  obtain ⟨_, h2, h3⟩ := h j n hj
  rw [h2, h3]
  refine ⟨by decide, fun p hp => ?_, by show (1 : Nat) ≤ maxLen; decide⟩
  obtain rfl : p = prK (κ j) := by simpa using hp
  exact ⟨by show (1 : Nat) ≤ maxLen; decide, by show (0 : Nat) ≤ maxLen; decide⟩
theorem row_szT (m : Nat) : SzT (rowT m) := fun t ht => by
  obtain ⟨j, _, rfl⟩ := List.mem_map.1 ht
  show (1 : Nat) ≤ maxLen
  decide
end Go.Proofs.Ytjjnfnlkfojehaa
