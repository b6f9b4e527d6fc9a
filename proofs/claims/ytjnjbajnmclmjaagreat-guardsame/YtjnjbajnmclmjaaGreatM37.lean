/-
  The walk of the simple schema.
-/
import Derived.Test.YtjnjbajnmclmjaaGreatM36
import Derived.Test.YtjnjbajnmclmjaaGreatM04
namespace Go.Proofs.YtjnjbajnmclmjaaGreat
open Go.RowKit
set_option linter.unusedVariables false
set_option linter.unusedSimpArgs false

/-- The world behind it. -/
abbrev simW (w : World) (mx : Int) : World := (((w.alloc (.cells #[.slice (some ⟨w.heap.size + 1 + 1, 0, none⟩) 1 1, .slice (some ⟨w.heap.size + 1 + 1 + 1, 0, none⟩) 1 1] 25)).alloc (.cells #[.string ⟨#[107]⟩, .int .i64 1, .bool true, .bool true] 85)).alloc (.cells #[.string ⟨#[97]⟩, .slice none 0 0, .slice (some ⟨w.heap.size + 1, 0, none⟩) 1 1] 89)).alloc (.cells #[.string ⟨#[112]⟩, .string ⟨#[97]⟩, .string ⟨#[97]⟩, .int .i64 0, .int .i64 mx] 91)
set_option maxHeartbeats 1000000 in
theorem simple_any (mx : Int) (w : World) : Calls Tryz.prog 14 #[.int .i64 mx] w fun e w' => e = .returned (.agg #[.slice (some ⟨w.heap.size + 1 + 1, 0, none⟩) 1 1, .slice (some ⟨w.heap.size + 1 + 1 + 1, 0, none⟩) 1 1]) ∧ w' = simW w mx := by
  go_enter Tryz.func14, Tryz.ntmps14
  go_wp2
  refine bodyPost_ret (v := .agg #[.slice (some ⟨w.heap.size + 1 + 1, 0, none⟩) 1 1, .slice (some ⟨w.heap.size + 1 + 1 + 1, 0, none⟩) 1 1]) ?_ rfl ?_
  · simp [results, Tryz.results14, go_sem]
  · exact ⟨rfl, rfl⟩
theorem simple_sc (mx : Int) (w : World) : Calls Tryz.prog 14 #[.int .i64 mx] w fun e w' => ∃ vs vo vf, e = .returned vs ∧ IsSc w' vs [kdA vo vf] [bdP mx] ∧ Below w.heap.size w w' := by
  refine (simple_any mx w).mono ?_
  rintro e w' ⟨rfl, rfl⟩
  have hB : Below w.heap.size w (simW w mx) := b_allocKC (b_allocKC (b_allocKC (b_allocKC (Below.refl _ _) (Nat.le_refl _) _) (Nat.le_refl _) _) (Nat.le_refl _) _) (Nat.le_refl _) _
  have hF : (simW w mx).heap[w.heap.size + 1]? = some (.cells #[.string ⟨#[107]⟩, .int .i64 1, .bool true, .bool true] 85 (0, 0)) := by
    have := heap_alloc_new (w.alloc (.cells #[.slice (some ⟨w.heap.size + 1 + 1, 0, none⟩) 1 1, .slice (some ⟨w.heap.size + 1 + 1 + 1, 0, none⟩) 1 1] 25)) (.cells #[.string ⟨#[107]⟩, .int .i64 1, .bool true, .bool true] 85)
    rw [World.size_alloc] at this
    exact (Below.heap_alloc _ _ _ (by simp)).trans ((Below.heap_alloc _ _ _ (by simp)).trans this)
  have hK : (simW w mx).heap[w.heap.size + 1 + 1]? = some (.cells #[.string ⟨#[97]⟩, .slice none 0 0, .slice (some ⟨w.heap.size + 1, 0, none⟩) 1 1] 89 (0, 0)) := by
    have := heap_alloc_new ((w.alloc (.cells #[.slice (some ⟨w.heap.size + 1 + 1, 0, none⟩) 1 1, .slice (some ⟨w.heap.size + 1 + 1 + 1, 0, none⟩) 1 1] 25)).alloc (.cells #[.string ⟨#[107]⟩, .int .i64 1, .bool true, .bool true] 85)) (.cells #[.string ⟨#[97]⟩, .slice none 0 0, .slice (some ⟨w.heap.size + 1, 0, none⟩) 1 1] 89)
    rw [World.size_alloc, World.size_alloc] at this
    exact (Below.heap_alloc _ _ _ (by simp)).trans this
  have hP : (simW w mx).heap[w.heap.size + 1 + 1 + 1]? = some (.cells #[.string ⟨#[112]⟩, .string ⟨#[97]⟩, .string ⟨#[97]⟩, .int .i64 0, .int .i64 mx] 91 (0, 0)) := by
    have := heap_alloc_new (((w.alloc (.cells #[.slice (some ⟨w.heap.size + 1 + 1, 0, none⟩) 1 1, .slice (some ⟨w.heap.size + 1 + 1 + 1, 0, none⟩) 1 1] 25)).alloc (.cells #[.string ⟨#[107]⟩, .int .i64 1, .bool true, .bool true] 85)).alloc (.cells #[.string ⟨#[97]⟩, .slice none 0 0, .slice (some ⟨w.heap.size + 1, 0, none⟩) 1 1] 89)) (.cells #[.string ⟨#[112]⟩, .string ⟨#[97]⟩, .string ⟨#[97]⟩, .int .i64 0, .int .i64 mx] 91)
    rw [World.size_alloc, World.size_alloc, World.size_alloc] at this
    exact this
  have one : ∀ {α : Type} {a x : α} {i : Nat}, [a][i]? = some x → i = 0 ∧ a = x := fun {α a x i} h => by
    match i with
    | 0 => exact ⟨rfl, by simpa using h⟩
    | i + 1 => simp at h
  refine ⟨_, .slice none 0 0, .slice (some ⟨w.heap.size + 1, 0, none⟩) 1 1, rfl, ⟨_, _, rfl, .inr ⟨w.heap.size + 1 + 1, 0, 1, rfl, Nat.le_refl _, by unfold maxLen; omega, (Array.getElem?_eq_some_iff.1 hK).1, fun i k hk => ?_⟩, fun k hk => ?_, fun k hk => ?_, .inr ⟨w.heap.size + 1 + 1 + 1, 0, 1, rfl, Nat.le_refl _, by unfold maxLen; omega, (Array.getElem?_eq_some_iff.1 hP).1, fun i x hx => ?_⟩, fun x hx => ?_⟩, hB⟩
  · obtain ⟨rfl, rfl⟩ := one hk
    exact ⟨cell_atC hK rfl, cell_atC hK rfl, cell_atC hK rfl⟩
  · obtain rfl := List.mem_singleton.1 hk
    refine ⟨.inl ⟨none, 0, rfl, rfl, Nat.zero_le _, fun _ => rfl⟩, .inr ⟨w.heap.size + 1, 0, 1, rfl, Nat.le_refl _, by unfold maxLen; omega, (Array.getElem?_eq_some_iff.1 hF).1, fun i f hf => ?_⟩⟩
    obtain ⟨rfl, rfl⟩ := one hf
    exact ⟨cell_atC hF rfl, cell_atC hF rfl, cell_atC hF rfl, cell_atC hF rfl⟩
  · obtain rfl := List.mem_singleton.1 hk
    refine ⟨by show (1 : Nat) ≤ maxLen; decide, fun f hf => ?_⟩
    obtain rfl := List.mem_singleton.1 hf
    show (1 : Nat) ≤ maxLen
    decide
  · obtain ⟨rfl, rfl⟩ := one hx
    exact ⟨cell_atC hP rfl, cell_atC hP rfl, cell_atC hP rfl, cell_atC hP rfl, cell_atC hP rfl⟩
  · obtain rfl := List.mem_singleton.1 hx
    show (1 : Nat) ≤ maxLen
    decide
end Go.Proofs.YtjnjbajnmclmjaaGreat

/-
  A row of nodes of which the last one's record is set anew: how it lies in memory.
-/
namespace Go.Proofs.YtjnjbajnmclmjaaGreat
open Go.RowKit
set_option linter.unusedVariables false
set_option linter.unusedSimpArgs false

/-- All cells but one stay. -/
def Kx (a0 : Addr) (w w' : World) : Prop := w.heap.size ≤ w'.heap.size ∧ ∀ a v, w.cell? a = some v → a ≠ a0 → w'.cell? a = some v
theorem Kx.plain {a0 : Addr} {w w' : World} (h : Kx a0 w w') {ao : Option Addr} {n c : Nat} (h0 : w.cell? a0 = some (.slice ao n c)) {a : Addr} {v : Value} (hv : w.cell? a = some v) (hn : ∀ ao n c, v ≠ .slice ao n c) : w'.cell? a = some v := by
  refine h.2 a v hv (fun e => ?_)
  subst e
  rw [h0] at hv
  exact hn _ _ _ (Option.some.inj hv).symm
theorem IsR.kx {a0 : Addr} {w w' : World} (h : Kx a0 w w') {ao : Option Addr} {n c : Nat} (h0 : w.cell? a0 = some (.slice ao n c)) {v : Value} {L : List Pr} (hR : IsR w v L) : IsR w' v L := by
  obtain ⟨ao', c', rfl, h1 | ⟨b, off, rfl, hb, hL⟩⟩ := hR
  · exact ⟨ao', c', rfl, .inl h1⟩
  · refine ⟨_, c', rfl, .inr ⟨b, off, rfl, Nat.lt_of_lt_of_le hb h.1, fun k p hp => ?_⟩⟩
    obtain ⟨c0, c1, c2, c3⟩ := hL k p hp
    exact ⟨h.plain h0 c0 (by intros; simp), h.plain h0 c1 (by intros; simp), h.plain h0 c2 (by intros; simp), h.plain h0 c3 (by intros; simp)⟩
theorem IsT.kx {a0 : Addr} {w w' : World} (h : Kx a0 w w') {ao : Option Addr} {n c : Nat} (h0 : w.cell? a0 = some (.slice ao n c)) {v : Value} {T : List Te} (hT : IsT w v T) : IsT w' v T := by
  obtain ⟨ao', c', rfl, hc, h1 | ⟨b, off, rfl, hb, hL⟩⟩ := hT
  · exact ⟨ao', c', rfl, hc, .inl h1⟩
  · refine ⟨_, c', rfl, hc, .inr ⟨b, off, rfl, Nat.lt_of_lt_of_le hb h.1, fun k p hp => ?_⟩⟩
    obtain ⟨c0, c1, c2⟩ := hL k p hp
    exact ⟨h.plain h0 c0 (by intros; simp), h.plain h0 c1 (by intros; simp), h.plain h0 c2 (by intros; simp)⟩
/-- The last node of a row, and where it lies. -/
theorem row_last {b0 : Nat} {w : World} {vN : Value} {k : Nat} (h : RowN b0 w vN (k + 1)) : ∃ (g cn : Nat) (av : Option Addr) (lv cv : Nat), vN = .slice (some ⟨g, 0, none⟩) (k + 1) cn ∧ w.cell? ⟨g, k * 3 + 2, none⟩ = some (.slice av lv cv) ∧ w.frozen? ⟨g, k * 3 + 2, none⟩ = false ∧ g < w.heap.size ∧ b0 ≤ g := by
  obtain ⟨N, base, hb0, hl, hN, hr, ho⟩ := h
  rcases ho.2 with ⟨_, h0⟩ | ⟨g, cap, cur, rfl, hb, hg, hle, hcm, hcs, ht⟩
  · cases h0
  · obtain ⟨x, hx⟩ : ∃ x, N[k]? = some x := ⟨N[k], by simp⟩
    obtain ⟨b, off, c, hv, hb', e0, e1, e2, eR⟩ := hN.at hx
    injection hv with hv1 _ _
    injection hv1 with hv1
    injection hv1 with hg' ho' _
    subst hg' ho'
    obtain ⟨av, cv, hav, _⟩ := eR
    rw [hav, Nat.zero_add] at e2
    exact ⟨g, cap, av, _, cv, rfl, e2, frz_atC hg, hb', Nat.le_trans hb0 hb⟩
theorem RowN.on {b0 : Nat} {w w' : World} {vN : Value} {n : Nat} (h : RowN b0 w vN n) (hB : Below w.heap.size w w') : RowN b0 w' vN n := by
  obtain ⟨N, base, h0, h1, h2, h3, h4⟩ := h
  exact ⟨N, base, h0, h1, h2.on hB, h3, own_below h4 hB⟩
theorem row_set_last {b0 : Nat} {w w' : World} {g cn k nb : Nat} {av : Option Addr} {lv cv : Nat} {key : Int} (h : RowN b0 w (.slice (some ⟨g, 0, none⟩) (k + 1) cn) (k + 1)) (h0 : w.cell? ⟨g, k * 3 + 2, none⟩ = some (.slice av lv cv)) (hK : Kx ⟨g, k * 3 + 2, none⟩ w w')
    (h1 : w'.cell? ⟨g, k * 3 + 2, none⟩ = some (.slice (some ⟨nb, 0, none⟩) 1 1)) (h2 : w'.heap[nb]? = some (.cells #[.string ⟨#[107]⟩, .int .i64 1, .int .i64 key, .string ⟨#[]⟩] 45 (0, 0))) :
    ∃ N κ, List.length N = k + 1 ∧ IsN w' (.slice (some ⟨g, 0, none⟩) (k + 1) cn) N ∧ RowP N κ ∧ (∀ j, j < k → κ j = (j : Int) + 1) ∧ κ k = key := by
  obtain ⟨N, base, _, hl, hN, hr, _⟩ := h
  have hcn : k + 1 ≤ cn := by
    obtain ⟨ao, c, hv, hc, _⟩ := hN
    injection hv with _ _ hv3
    omega
  refine ⟨N.take k ++ [⟨(k : Int) + 1, ⟨#[97]⟩, .slice (some ⟨nb, 0, none⟩) 1 1, [prK key]⟩], fun j => if j = k then key else (j : Int) + 1, by simp; omega, ?_, ?_, fun j hj => by simp; omega, by simp⟩
  · have hlen : (N.take k ++ [(⟨(k : Int) + 1, ⟨#[97]⟩, .slice (some ⟨nb, 0, none⟩) 1 1, [prK key]⟩ : Nd)]).length = k + 1 := by simp; omega
    refine ⟨_, cn, by rw [hlen], by rw [hlen]; exact hcn, .inr ⟨g, 0, rfl, ?_, fun j x hx => ?_⟩⟩
    · exact Nat.lt_of_lt_of_le (cell_ltC h0) hK.1
    · by_cases hj : j < k
      · rw [List.getElem?_append_left (by simp; omega), List.getElem?_take, if_pos hj] at hx
        obtain ⟨b, off, c, hv, hb', e0, e1, e2, eR⟩ := hN.at hx
        injection hv with hv1 _ _
        injection hv1 with hv1
        injection hv1 with hg' ho' _
        subst hg' ho'
        refine ⟨hK.plain h0 e0 (by intros; simp), hK.plain h0 e1 (by intros; simp), hK.2 _ _ e2 (fun e => ?_), eR.kx hK h0⟩
        injection e with _ e' _
        omega
      · have hjk : j = k := by
          have := (List.getElem?_eq_some_iff.1 hx).1
          rw [hlen] at this
          omega
        subst hjk
        obtain ⟨y, hy⟩ : ∃ y, N[j]? = some y := ⟨N[j], by simp⟩
        obtain ⟨b, off, c, hv, hb', e0, e1, e2, eR⟩ := hN.at hy
        injection hv with hv1 _ _
        injection hv1 with hv1
        injection hv1 with hg' ho' _
        subst hg' ho'
        obtain ⟨r1, r2, _⟩ := hr j y hy
        rw [r1] at e0
        rw [r2] at e1
        have hx' : (⟨(j : Int) + 1, ⟨#[97]⟩, .slice (some ⟨nb, 0, none⟩) 1 1, [prK key]⟩ : Nd) = x := by
          rw [List.getElem?_append_right (by simp; omega)] at hx
          have e : j - (N.take j).length = 0 := by simp; omega
          rw [e] at hx
          simpa using hx
        subst hx'
        refine ⟨hK.plain h0 e0 (by intros; simp), hK.plain h0 e1 (by intros; simp), by rw [Nat.zero_add]; exact h1, ⟨_, 1, rfl, .inr ⟨nb, 0, rfl, (Array.getElem?_eq_some_iff.1 h2).1, fun i p hp => ?_⟩⟩⟩
        match i with
        | 0 =>
          obtain rfl : prK key = p := by simpa using hp
          exact ⟨cell_atC h2 rfl, cell_atC h2 rfl, cell_atC h2 rfl, cell_atC h2 rfl⟩
        | i + 1 => simp at hp
  · intro j x hx
    by_cases hj : j < k
    · rw [List.getElem?_append_left (by simp; omega), List.getElem?_take, if_pos hj] at hx
      obtain ⟨r1, r2, r3⟩ := hr j x hx
      refine ⟨r1, r2, ?_⟩
      rw [r3]
      show [prK ((j : Int) + 1)] = [prK (if j = k then key else (j : Int) + 1)]
      have hne : ¬ j = k := by omega
      rw [if_neg hne]
    · have hlen : (N.take k ++ [(⟨(k : Int) + 1, ⟨#[97]⟩, .slice (some ⟨nb, 0, none⟩) 1 1, [prK key]⟩ : Nd)]).length = k + 1 := by simp; omega
      have hjk : j = k := by
        have := (List.getElem?_eq_some_iff.1 hx).1
        rw [hlen] at this
        omega
      subst hjk
      have hx' : (⟨(j : Int) + 1, ⟨#[97]⟩, .slice (some ⟨nb, 0, none⟩) 1 1, [prK key]⟩ : Nd) = x := by
        rw [List.getElem?_append_right (by simp; omega)] at hx
        have e : j - (N.take j).length = 0 := by simp; omega
        rw [e] at hx
        simpa using hx
      subst hx'
      exact ⟨rfl, rfl, by simp⟩
/-- Rows are right. -/
theorem idOk_of {i : Int} (h1 : 1 ≤ i) (h2 : i ≤ 1000) : idOk i = true := by unfold idOk; simp [h1, h2]
theorem rErr_k (i : Int) (h1 : 1 ≤ i) (h2 : i ≤ 1000) : rErr [prK i] = 0 := by
  have hb : (prK i).bad = 0 := by
    have : inR 1 i = true := by simp [inR]; omega
    simp [prK, Pr.bad, vErr, this]
  have hn : nErr (prK i).l = 0 := by show nErr [107] = 0; decide
  unfold rErr
  rw [if_neg (by simp), chk_first hn hb, chk_end]
theorem rowP_chkN : ∀ (N : List Nd) (m : Nat) (o : Option Nd) (κ : Nat → Int), (∀ (j : Nat) (x : Nd), N[j]? = some x → x.id = ((m + j : Nat) : Int) + 1 ∧ x.kd = ⟨#[97]⟩ ∧ x.rc = [prK (κ (m + j))]) → (∀ j, m ≤ j → j < m + N.length → 1 ≤ κ j ∧ κ j ≤ 1000) → (∀ q, o = some q → q.id ≤ m) → m + N.length ≤ 60 → chkN o N = 0
  | [], _, o, _, _, _, _, _ => chkN_end o
  | n :: r, m, o, κ, h, hκ, ho, hl => by
    obtain ⟨h1, h2, h3⟩ := h 0 n rfl
    simp only [Nat.add_zero] at h1 h3
    have hl' : m + (r.length + 1) ≤ 60 := by simpa using hl
    have hk := hκ m (Nat.le_refl _) (by simp)
    have he : ndE o n = 0 := by
      unfold ndE
      rw [if_pos (idOk_of (by omega) (by omega)), if_neg, h2, if_pos (by decide), h3]
      · exact rErr_k _ hk.1 hk.2
      · cases o with
        | none => simp [Nd.low]
        | some q => have := ho q rfl; simp [Nd.low]; omega
    rw [chkN_ok he]
    refine rowP_chkN r (m + 1) (some n) κ (fun j x hx => ?_) (fun j a b => hκ j (by omega) (by simp; omega)) (fun q hq => ?_) (by omega)
    · have := h (j + 1) x (by simpa using hx)
      rwa [show m + (j + 1) = m + 1 + j by omega] at this
    · injection hq with hq; subst hq; rw [h1]; omega
theorem tCmp_up (j : Nat) : tCmp (tK (j + 1)) (tK j) = 1 := by
  have h1 : Lib.compareBytes [112] [112] = 0 := by decide
  have h2 : Lib.compareInt (((j + 1 : Nat) : Int) + 1) ((j : Int) + 1) = 1 := by
    unfold Lib.compareInt
    (repeat' split) <;> first | rfl | (exfalso; omega)
  unfold tCmp
  rw [show Lib.compareBytes (tK (j + 1)).bd.data.toList (tK j).bd.data.toList = 0 from h1, show Lib.compareInt (tK (j + 1)).fr (tK j).fr = 1 from h2]
  unfold or3
  rw [if_pos rfl, if_neg (by decide)]
theorem row_chkT : ∀ (k s : Nat) (o : Option Te), (o = none ∨ ∃ q, s = q + 1 ∧ o = some (tK q)) → s + k ≤ 120 → chkT o ((List.range' s k).map tK) = 0
  | 0, _, o, _, _ => chkT_end o
  | k + 1, s, o, ho, hl => by
    rw [List.range'_succ, List.map_cons]
    have he : teE o (tK s) = 0 := by
      unfold teE
      have h1 : nErr (tK s).bd.data.toList = 0 := by show nErr [112] = 0; decide
      have h2 : (idOk (tK s).fr && idOk (tK s).tt) = true := by
        show (idOk ((s : Int) + 1) && idOk ((s : Int) + 1 + 1)) = true
        rw [idOk_of (by omega) (by omega), idOk_of (by omega) (by omega)]; rfl
      have h3 : ¬ (tK s).low o = true := by
        rcases ho with rfl | ⟨q, rfl, rfl⟩
        · simp [Te.low]
        · simp [Te.low, tCmp_up]
      rw [if_pos h1, if_pos h2, if_neg h3]
    rw [chkT_ok he]
    exact row_chkT k (s + 1) (some (tK s)) (.inr ⟨s, rfl, rfl⟩) (by omega)
theorem rowP_gErr {N : List Nd} {κ : Nat → Int} {m : Nat} (h : RowP N κ) (hκ : ∀ j, j < N.length → 1 ≤ κ j ∧ κ j ≤ 1000) (hn : N.length ≤ 60) (hm : m ≤ 120) : gErr N (rowT m) = 0 := by
  have h1 : chkN none N = 0 := rowP_chkN N 0 none κ (fun j x hx => by rw [Nat.zero_add]; exact h j x hx) (fun j _ b => hκ j (by omega)) (fun q hq => by cases hq) (by omega)
  have h2 : chkT none (rowT m) = 0 := by
    have := row_chkT m 0 none (.inl rfl) (by omega)
    unfold rowT
    rw [List.range_eq_range']; exact this
  unfold gErr
  rw [if_neg (by rw [rowT_len]; omega), if_pos h1, h2]
theorem rowP_szN {N : List Nd} {κ : Nat → Int} (h : RowP N κ) : SzN N := fun n hn => by
  obtain ⟨j, hj⟩ := List.mem_iff_getElem?.1 hn
  obtain ⟨_, h2, h3⟩ := h j n hj
  rw [h2, h3]
  refine ⟨by decide, fun p hp => ?_, by show (1 : Nat) ≤ maxLen; decide⟩
  obtain rfl : p = prK (κ j) := by simpa using hp
  exact ⟨by show (1 : Nat) ≤ maxLen; decide, by show (0 : Nat) ≤ maxLen; decide⟩
theorem row_szT (m : Nat) : SzT (rowT m) := fun t ht => by
  obtain ⟨j, _, rfl⟩ := List.mem_map.1 ht
  show (1 : Nat) ≤ maxLen
  decide
end Go.Proofs.YtjnjbajnmclmjaaGreat

/-
  The walk of many.
-/
namespace Go.Proofs.YtjnjbajnmclmjaaGreat
open Go.RowKit
set_option linter.unusedVariables false
set_option linter.unusedSimpArgs false

theorem cell_oth {w : World} {b i j : Nat} {u : Value} (h : i ≠ j) : (w.setCell ⟨b, i, none⟩ u).cell? ⟨b, j, none⟩ = w.cell? ⟨b, j, none⟩ := World.cell?_setCell_other _ _ _ _ (by intro e; exact h (by injection e))
/-- What many gives. -/
def ManyP (w : World) (n m : Nat) (e : Ending) (w' : World) : Prop := ∃ an cn am cm, e = .returned (.agg #[.slice an n cn, .slice am m cm]) ∧ RowN w.heap.size w' (.slice an n cn) n ∧ IsT w' (.slice am m cm) (rowT m) ∧ Below w.heap.size w w'
set_option maxHeartbeats 2000000 in
set_option maxRecDepth 100000 in
theorem many_any (n m : Nat) (hn : n ≤ 80) (hm : m ≤ 140) (w : World) : Calls Tryz.prog 15 #[.int .i64 n, .int .i64 m] w (ManyP w n m) := by
  obtain ⟨i0, hi0, hz0, hz1, hz2⟩ := info_parts infoN
  obtain ⟨i1, ji0, jz0, jz1, jz2⟩ := info_parts infoT
  go_enter Tryz.func15, Tryz.ntmps15
  go_wp2
  go_loopw [6] (fun i wr => M1 w n i wr) (fun i _ => n + 1 - (intOf i).toNat)
  case atStart => exact ⟨[], .slice none 0 0, Nat.zero_le _, rfl, World.ownsRow_nil _ _ _ _, (by have := heap_alloc_new (w.alloc (.cells #[.slice none 0 0, .slice none 0 0] 29)) (.cells #[.slice none 0 0, .slice none 0 0] 29); rwa [World.size_alloc] at this), (Below.heap_alloc _ _ _ (by simp)).trans (heap_alloc_new w _), fun j n h => by simp at h, b_alloc (b_alloc (Below.refl _ _) _) _⟩
  case round =>
    obtain ⟨N, v, hk, rfl, hO, hG, hR, hRe, hB⟩ := hrel
    have g0 := cell_of (i := 0) hG rfl
    have f0 := frz_of (i := 0) hG
    have g1 := cell_of (i := 1) hG rfl
    have HH : Hid (Recs wr N ∧ Below w.heap.size w wr ∧ wr.heap[w.heap.size + 1]? = some (.cells #[v, .slice none 0 0] 29 (0, 0)) ∧ wr.heap[w.heap.size]? = some (.cells #[.slice none 0 0, .slice none 0 0] 29 (0, 0))) := ⟨hRe, hB, hG, hR⟩
    have hgl : w.heap.size + 1 < wr.heap.size := (Array.getElem?_eq_some_iff.1 hG).1
    have hgn : ¬ w.heap.size + 1 = wr.heap.size := by omega
    obtain ⟨k, hkk⟩ : ∃ k, N.length = k := ⟨_, rfl⟩
    rw [hkk] at hk hO ⊢
    by_cases hlt : k < n
    · have hle : ((k : Int) + 1 ≤ (n : Int)) := by omega
      have hO' : (wK wr k).ownsRow w.heap.size 34 3 v k (cellsN N) := own_drew (((hO.alloc _).alloc _).alloc _)
      have hcs : ∀ j u, (ndK k (wr.heap.size + 1)).cells[j]? = some u → (wK wr k).cell? ((⟨wr.heap.size + 1 + 1, 0, none⟩ : Addr).add j) = some u := by
        have := new_at ((wr.alloc (.cells #[.int .i64 1, .int .i64 ((k : Int) + 1), .string ⟨#[]⟩] 43)).alloc (.cells #[.string ⟨#[107]⟩, .int .i64 1, .int .i64 ((k : Int) + 1), .string ⟨#[]⟩] 45)) (ndK k (wr.heap.size + 1)).cells 34
        simp only [World.size_alloc] at this
        exact this
      have h1c : ∀ u ∈ (ndK k (wr.heap.size + 1)).cells, u.oneCell' = true := by simp [Nd.cells, Value.oneCell']
      have hbs : w.heap.size ≤ (wK wr k).heap.size := by simp [wK]; omega
      have HO : Hid ((wK wr k).ownsRow w.heap.size 34 3 v k (cellsN N) ∧ (∀ j u, (ndK k (wr.heap.size + 1)).cells[j]? = some u → (wK wr k).cell? ((⟨wr.heap.size + 1 + 1, 0, none⟩ : Addr).add j) = some u) ∧ (∀ u ∈ (ndK k (wr.heap.size + 1)).cells, u.oneCell' = true) ∧ w.heap.size ≤ (wK wr k).heap.size ∧ (k + 1 ≤ maxLen ∧ (k + 1) * 48 ≤ 140737488355328)) := ⟨hO', hcs, h1c, hbs, by unfold maxLen; omega, by omega⟩
      have HK : Hid (∀ w1, (wK wr k).grownBy w1 v.ownBlock → w1.cell? ⟨w.heap.size + 1, 0, none⟩ = some v ∧ w1.frozen? ⟨w.heap.size + 1, 0, none⟩ = false ∧ w1.cell? ⟨w.heap.size + 1, 1, none⟩ = some (.slice none 0 0)) := fun w1 hg1 => by
        have hne := row_apart hO hG (by decide)
        have hbk : w1.heap[w.heap.size + 1]? = some (.cells #[v, .slice none 0 0] 29 (0, 0)) := (hg1.block _ (Nat.lt_of_lt_of_le hgl (bK wr k).size) (fun h => hne h.symm)).trans (((bK wr k).block _ hgl).trans hG)
        exact ⟨cell_of hbk rfl, frz_of hbk, cell_of hbk rfl⟩
      have hx3 : (wK wr k).cell? ⟨w.heap.size + 1, 0, none⟩ = some v := (bK wr k).cell hgl |>.trans g0
      unfold wK at hx3
      have hy3 : (wK wr k).cell? ⟨w.heap.size + 1, 1, none⟩ = some (.slice none 0 0) := (bK wr k).cell hgl |>.trans g1
      unfold wK at hy3
      have hx2 : ((wr.alloc (.cells #[.int .i64 1, .int .i64 ((k : Int) + 1), .string ⟨#[]⟩] 43)).alloc (.cells #[.string ⟨#[107]⟩, .int .i64 1, .int .i64 ((k : Int) + 1), .string ⟨#[]⟩] 45)).drew.cell? ⟨w.heap.size + 1, 0, none⟩ = some v := ((b_drew (b_alloc (b_alloc (Below.refl wr.heap.size wr) _) _)).cell hgl).trans g0
      have hx1 : (wr.alloc (.cells #[.int .i64 1, .int .i64 ((k : Int) + 1), .string ⟨#[]⟩] 43)).drew.cell? ⟨w.heap.size + 1, 0, none⟩ = some v := ((b_drew (b_alloc (Below.refl wr.heap.size wr) _)).cell hgl).trans g0
      have HQ : Hid (N.length = k ∧ wr.ownsRow w.heap.size 34 3 v k (cellsN N)) := ⟨hkk, hO⟩
      have hwi : IntKind.i64.wrap ((k : Int) + 1 + 1) = (k : Int) + 1 + 1 := by rw [IntKind.wrap_i64]; omega
      clear hRe hB hG hR hkk hO hO' hcs h1c hbs
      go_wp2
      go_region_law (first | (go_simp; go_at_call 27; refine (number_any _ _).mono ?_; rintro e W1 ⟨rfl, rfl⟩) | (refine step_append_own rfl (.tmp 14) (.tmp 21) 26 rfl w.heap.size 34 i0 _ 3 48 Tryz.underlying26 hi0 hz0 hz1 hz2 rfl (by decide) v k (cellsN N) (by simp [Act.eval, Act.put]) HO.out.1 ⟨wr.heap.size + 1 + 1, 0, none⟩ 1 1 (ndK k (wr.heap.size + 1)).cells (by simp [Act.eval, Act.put]) rfl HO.out.2.1 HO.out.2.2.1 HO.out.2.2.2.2.1 HO.out.2.2.2.2.2 HO.out.2.2.2.1 ?_; intro v1 w1 hown1 hgrow1; obtain ⟨q0, q1, q2⟩ := HK.out w1 hgrow1; obtain ⟨a1, c1, rfl⟩ := own_slice hown1))
      all_goals
        have HR2 : Hid (M1 w n (.int .i64 ((k : Int) + 1 + 1)) (w1.setCell ⟨w.heap.size + 1, 0, none⟩ (.slice a1 (k + 1) c1))) := m1_step HQ.out.1 hlt HH.out.1 HH.out.2.1 HH.out.2.2.1 HH.out.2.2.2 HQ.out.2 hown1 hgrow1
        clear hown1 hgrow1
        go_wp2
        refine ⟨?_, ?_⟩
        · first | exact HR2.out | ((repeat apply Exists.intro); refine ⟨?_, rfl⟩; exact HR2.out)
        · simp [intOf]
          try omega
    · obtain rfl : k = n := by omega
      obtain ⟨an, cn, rfl⟩ := own_slice hO
      have HX : Hid (N.length = k ∧ wr.ownsRow w.heap.size 34 3 (.slice an k cn) k (cellsN N) ∧ Recs wr N ∧ wr.heap[w.heap.size]? = some (.cells #[.slice none 0 0, .slice none 0 0] 29 (0, 0))) := ⟨hkk, hO, hRe, hR⟩
      have HS : Hid (wr.heap[w.heap.size + 1]? = some (.cells #[.slice an k cn, .slice none 0 0] 29 (0, 0)) ∧ Below w.heap.size w wr) := ⟨hG, hB⟩
      clear hkk hO hRe hR hB hG HH g0 g1 f0
      obtain ⟨W, hW⟩ : ∃ W, W = wr := ⟨wr, rfl⟩
      subst hW
      go_wp2
      go_loopw [7] (fun i wr => M2 w W (.slice an k cn) m i wr) (fun i _ => m + 1 - (intOf i).toNat)
      case atStart => exact ⟨0, .slice none 0 0, Nat.zero_le _, rfl, World.ownsRow_nil _ _ _ _, HS.out.1, fun _ _ _ => rfl, Nat.le_refl _, HS.out.2⟩
      case round =>
        obtain ⟨j, v2, hj, rfl, hO, hG, hK, hs, hB⟩ := hrel
        obtain ⟨a2, c2, rfl⟩ := own_slice hO
        have g0 := cell_of (i := 0) hG rfl
        have g1 := cell_of (i := 1) hG rfl
        have f1 := frz_of (i := 1) hG
        have hgr : w.heap.size + 1 < wr.heap.size := (Array.getElem?_eq_some_iff.1 hG).1
        have hgn2 : ¬ w.heap.size + 1 = wr.heap.size := by omega
        have HH : Hid (wr.ownsRow W.heap.size 36 3 (.slice a2 j c2) j (cellsT (rowT j)) ∧ wr.heap[w.heap.size + 1]? = some (.cells #[.slice an k cn, .slice a2 j c2] 29 (0, 0)) ∧ (∀ b, b < W.heap.size → b ≠ w.heap.size + 1 → wr.heap[b]? = W.heap[b]?) ∧ W.heap.size ≤ wr.heap.size ∧ Below w.heap.size w wr) := ⟨hO, hG, hK, hs, hB⟩
        by_cases hlt2 : j < m
        · have hle2 : (j : Int) + 1 ≤ (m : Int) := by omega
          have hwj : IntKind.i64.wrap ((j : Int) + 1 + 1) = (j : Int) + 1 + 1 := by rw [IntKind.wrap_i64]; omega
          have HO : Hid ((wr.alloc (.cells #[.string ⟨#[112]⟩, .int .i64 ((j : Int) + 1), .int .i64 ((j : Int) + 1 + 1)] 36)).ownsRow W.heap.size 36 3 (.slice a2 j c2) j (cellsT (rowT j)) ∧ (j + 1 ≤ maxLen ∧ (j + 1) * 32 ≤ 140737488355328) ∧ W.heap.size ≤ (wr.alloc (.cells #[.string ⟨#[112]⟩, .int .i64 ((j : Int) + 1), .int .i64 ((j : Int) + 1 + 1)] 36)).heap.size) := ⟨hO.alloc _, ⟨by unfold maxLen; omega, by omega⟩, by simp; omega⟩
          have HK : Hid (∀ w1, (wr.alloc (.cells #[.string ⟨#[112]⟩, .int .i64 ((j : Int) + 1), .int .i64 ((j : Int) + 1 + 1)] 36)).grownBy w1 (Value.slice a2 j c2).ownBlock → w1.cell? ⟨w.heap.size + 1, 1, none⟩ = some (.slice a2 j c2) ∧ w1.frozen? ⟨w.heap.size + 1, 1, none⟩ = false) := fun w1 hg1 => by
            have hne := row_apart hO hG (by decide)
            have hbk : w1.heap[w.heap.size + 1]? = some (.cells #[.slice an k cn, .slice a2 j c2] 29 (0, 0)) := (hg1.block _ (by simp; omega) (fun h => hne h.symm)).trans ((Below.heap_alloc _ _ _ hgr).trans hG)
            exact ⟨cell_of hbk rfl, frz_of hbk⟩
          clear hO hG hK hs hB
          go_wp2_with (at_builtin; refine wpList_append_own _ rfl (.tmp 30) (.tmp 35) 27 rfl W.heap.size 36 i1 _ 3 32 Tryz.underlying27 ji0 jz0 jz1 jz2 rfl (by decide) (.slice a2 j c2) j (cellsT (rowT j)) rfl HO.out.1 ⟨wr.heap.size, 0, none⟩ 1 1 (tK j).cells rfl rfl (new_at wr (tK j).cells 36) (by simp [tK, Te.cells, Value.oneCell']) HO.out.2.1.1 HO.out.2.1.2 HO.out.2.2 ?_; intro v1 w1 hown1 hgrow1 _; obtain ⟨q0, q1⟩ := HK.out w1 hgrow1; obtain ⟨a1, c1, rfl⟩ := own_slice hown1)
          have HR2 : Hid (M2 w W (.slice an k cn) m (.int .i64 ((j : Int) + 1 + 1)) (w1.setCell ⟨w.heap.size + 1, 1, none⟩ (.slice a1 (j + 1) c1))) := m2_step hlt2 hgl HH.out.1 HH.out.2.1 HH.out.2.2.1 HH.out.2.2.2.1 HH.out.2.2.2.2 hown1 hgrow1
          refine ⟨?_, ?_⟩
          · first | exact HR2.out | ((repeat apply Exists.intro); refine ⟨?_, rfl⟩; exact HR2.out)
          · simp [intOf]
            try omega
        · obtain rfl : j = m := by omega
          have hR2 : wr.heap[w.heap.size]? = some (.cells #[.slice none 0 0, .slice none 0 0] 29 (0, 0)) := (hK _ (by omega) (by omega)).trans HX.out.2.2.2
          have r0 := cell_of (i := 0) hR2 rfl
          have r1 := cell_of (i := 1) hR2 rfl
          have fr0 := frz_of (i := 0) hR2
          have fr1 := frz_of (i := 1) hR2
          have hfin := many_end HX.out.1 HX.out.2.1 HX.out.2.2.1 HX.out.2.2.2 hgl HS.out.1 HH.out.1 HH.out.2.1 HH.out.2.2.1 HH.out.2.2.2.1 HH.out.2.2.2.2
          have HF : Hid (RowN w.heap.size ((wr.setCell ⟨w.heap.size, 0, none⟩ (.slice an k cn)).setCell ⟨w.heap.size, 1, none⟩ (.slice a2 j c2)) (.slice an k cn) k ∧ IsT ((wr.setCell ⟨w.heap.size, 0, none⟩ (.slice an k cn)).setCell ⟨w.heap.size, 1, none⟩ (.slice a2 j c2)) (.slice a2 j c2) (rowT j) ∧ Below w.heap.size w ((wr.setCell ⟨w.heap.size, 0, none⟩ (.slice an k cn)).setCell ⟨w.heap.size, 1, none⟩ (.slice a2 j c2))) := hfin
          clear hO hG hK hs hB hfin hR2
          have s1 : ((wr.setCell ⟨w.heap.size, 0, none⟩ (.slice an k cn)).setCell ⟨w.heap.size, 1, none⟩ (.slice a2 j c2)).cell? ⟨w.heap.size, 1, none⟩ = some (.slice a2 j c2) := World.cell?_setCell_same' _ _ _ (by rw [cell_oth (by simp), r1]; rfl)
          have s0 : ((wr.setCell ⟨w.heap.size, 0, none⟩ (.slice an k cn)).setCell ⟨w.heap.size, 1, none⟩ (.slice a2 j c2)).cell? ⟨w.heap.size, 0, none⟩ = some (.slice an k cn) := by
            refine (cell_oth (by simp)).trans ?_
            exact World.cell?_setCell_same' _ _ _ (by rw [r0]; rfl)
          have HS01 : Hid (((wr.setCell ⟨w.heap.size, 0, none⟩ (.slice an k cn)).setCell ⟨w.heap.size, 1, none⟩ (.slice a2 j c2)).cell? ⟨w.heap.size, 0, none⟩ = some (.slice an k cn) ∧ ((wr.setCell ⟨w.heap.size, 0, none⟩ (.slice an k cn)).setCell ⟨w.heap.size, 1, none⟩ (.slice a2 j c2)).cell? ⟨w.heap.size, 1, none⟩ = some (.slice a2 j c2)) := ⟨s0, s1⟩
          clear s0 s1
          go_wp2
          refine bodyPost_ret (v := .agg #[.slice an k cn, .slice a2 j c2]) ?_ rfl ⟨an, cn, a2, c2, rfl, HF.out⟩
          obtain ⟨s0, s1⟩ := HS01.out
          simp [results, Tryz.results15, go_sem, s0, s1]
end Go.Proofs.YtjnjbajnmclmjaaGreat
