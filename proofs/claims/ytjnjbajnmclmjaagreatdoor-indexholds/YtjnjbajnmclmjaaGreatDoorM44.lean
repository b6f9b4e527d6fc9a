/-
  The walk of the simple schema.
-/
import Derived.Test.YtjnjbajnmclmjaaGreatDoorM43
import Derived.Test.YtjnjbajnmclmjaaGreatDoorM39
import Derived.Test.YtjnjbajnmclmjaaGreatDoorM40
namespace Go.Proofs.YtjnjbajnmclmjaaGreatDoor
open Go.RowKit
set_option linter.unusedVariables false
set_option linter.unusedSimpArgs false

/-- The world behind it. -/
abbrev simW (w : World) (mx : Int) : World := (((w.alloc (.cells #[.slice (some ⟨w.heap.size + 1 + 1, 0, none⟩) 1 1, .slice (some ⟨w.heap.size + 1 + 1 + 1, 0, none⟩) 1 1] 25)).alloc (.cells #[.string ⟨#[107]⟩, .int .i64 1, .bool true, .bool true] 32)).alloc (.cells #[.string ⟨#[97]⟩, .slice none 0 0, .slice (some ⟨w.heap.size + 1, 0, none⟩) 1 1] 36)).alloc (.cells #[.string ⟨#[112]⟩, .string ⟨#[97]⟩, .string ⟨#[97]⟩, .int .i64 0, .int .i64 mx] 122)
set_option maxHeartbeats 1000000 in
theorem simple_any (mx : Int) (w : World) : Calls Tryz.prog 16 #[.int .i64 mx] w fun e w' => e = .returned (.agg #[.slice (some ⟨w.heap.size + 1 + 1, 0, none⟩) 1 1, .slice (some ⟨w.heap.size + 1 + 1 + 1, 0, none⟩) 1 1]) ∧ w' = simW w mx := by
  go_enter Tryz.func16, Tryz.ntmps16
  go_wp2
  refine bodyPost_ret (v := .agg #[.slice (some ⟨w.heap.size + 1 + 1, 0, none⟩) 1 1, .slice (some ⟨w.heap.size + 1 + 1 + 1, 0, none⟩) 1 1]) ?_ rfl ?_
  · simp [results, Tryz.results16, go_sem]
  · exact ⟨rfl, rfl⟩
theorem simple_sc (mx : Int) (w : World) : Calls Tryz.prog 16 #[.int .i64 mx] w fun e w' => ∃ vs vo vf, e = .returned vs ∧ IsSc w' vs [kdA vo vf] [bdP mx] ∧ Below w.heap.size w w' := by
  refine (simple_any mx w).mono ?_
  rintro e w' ⟨rfl, rfl⟩
  have hB : Below w.heap.size w (simW w mx) := b_allocKC (b_allocKC (b_allocKC (b_allocKC (Below.refl _ _) (Nat.le_refl _) _) (Nat.le_refl _) _) (Nat.le_refl _) _) (Nat.le_refl _) _
  have hF : (simW w mx).heap[w.heap.size + 1]? = some (.cells #[.string ⟨#[107]⟩, .int .i64 1, .bool true, .bool true] 32 (0, 0)) := by
    have := heap_alloc_new (w.alloc (.cells #[.slice (some ⟨w.heap.size + 1 + 1, 0, none⟩) 1 1, .slice (some ⟨w.heap.size + 1 + 1 + 1, 0, none⟩) 1 1] 25)) (.cells #[.string ⟨#[107]⟩, .int .i64 1, .bool true, .bool true] 32)
    rw [World.size_alloc] at this
    exact (Below.heap_alloc _ _ _ (by simp)).trans ((Below.heap_alloc _ _ _ (by simp)).trans this)
  have hK : (simW w mx).heap[w.heap.size + 1 + 1]? = some (.cells #[.string ⟨#[97]⟩, .slice none 0 0, .slice (some ⟨w.heap.size + 1, 0, none⟩) 1 1] 36 (0, 0)) := by
    have := heap_alloc_new ((w.alloc (.cells #[.slice (some ⟨w.heap.size + 1 + 1, 0, none⟩) 1 1, .slice (some ⟨w.heap.size + 1 + 1 + 1, 0, none⟩) 1 1] 25)).alloc (.cells #[.string ⟨#[107]⟩, .int .i64 1, .bool true, .bool true] 32)) (.cells #[.string ⟨#[97]⟩, .slice none 0 0, .slice (some ⟨w.heap.size + 1, 0, none⟩) 1 1] 36)
    rw [World.size_alloc, World.size_alloc] at this
    exact (Below.heap_alloc _ _ _ (by simp)).trans this
  have hP : (simW w mx).heap[w.heap.size + 1 + 1 + 1]? = some (.cells #[.string ⟨#[112]⟩, .string ⟨#[97]⟩, .string ⟨#[97]⟩, .int .i64 0, .int .i64 mx] 122 (0, 0)) := by
    have := heap_alloc_new (((w.alloc (.cells #[.slice (some ⟨w.heap.size + 1 + 1, 0, none⟩) 1 1, .slice (some ⟨w.heap.size + 1 + 1 + 1, 0, none⟩) 1 1] 25)).alloc (.cells #[.string ⟨#[107]⟩, .int .i64 1, .bool true, .bool true] 32)).alloc (.cells #[.string ⟨#[97]⟩, .slice none 0 0, .slice (some ⟨w.heap.size + 1, 0, none⟩) 1 1] 36)) (.cells #[.string ⟨#[112]⟩, .string ⟨#[97]⟩, .string ⟨#[97]⟩, .int .i64 0, .int .i64 mx] 122)
    rw [World.size_alloc, World.size_alloc, World.size_alloc] at this
    exact this
  have one : ∀ {α : Type} {a x : α} {i : Nat}, [a][i]? = some x → i = 0 ∧ a = x := fun {α a x i} h => by
    match i with
    | 0 => exact ⟨rfl, by simpa using h⟩
    | i + 1 => simp at h
  refine ⟨_, .slice none 0 0, .slice (some ⟨w.heap.size + 1, 0, none⟩) 1 1, rfl, ⟨_, _, rfl, .inr ⟨w.heap.size + 1 + 1, 0, 1, rfl, Nat.le_refl _, by unfold maxLen; omega, (Array.getElem?_eq_some_iff.1 hK).1, fun i k hk => ?_⟩, fun k hk => ?_, fun k hk => ?_, .inr ⟨w.heap.size + 1 + 1 + 1, 0, 1, rfl, Nat.le_refl _, by unfold maxLen; omega, (Array.getElem?_eq_some_iff.1 hP).1, fun i x hx => ?_⟩, fun x hx => ?_⟩, hB⟩
  · obtain ⟨rfl, rfl⟩ := one hk
    exact ⟨cell_atC hK rfl, cell_atC hK rfl, cell_atC hK rfl⟩
  · obtain rfl := List.mem_singleton.1 hk
    refine ⟨.inl ⟨none, 0, rfl, rfl, Nat.zero_le _, fun _ => rfl⟩, .inr ⟨w.heap.size + 1, 0, 1, rfl, Nat.le_refl _, by unfold maxLen; omega, (Array.getElem?_eq_some_iff.1 hF).1, fun i f hf => ?_⟩⟩
    obtain ⟨rfl, rfl⟩ := one hf
    exact ⟨cell_atC hF rfl, cell_atC hF rfl, cell_atC hF rfl, cell_atC hF rfl⟩
  · obtain rfl := List.mem_singleton.1 hk
    refine ⟨by show (1 : Nat) ≤ maxLen; decide, fun f hf => ?_⟩
    obtain rfl := List.mem_singleton.1 hf
    show (1 : Nat) ≤ maxLen
    decide
  · obtain ⟨rfl, rfl⟩ := one hx
    exact ⟨cell_atC hP rfl, cell_atC hP rfl, cell_atC hP rfl, cell_atC hP rfl, cell_atC hP rfl⟩
  · obtain rfl := List.mem_singleton.1 hx
    show (1 : Nat) ≤ maxLen
    decide
end Go.Proofs.YtjnjbajnmclmjaaGreatDoor

/-
  A row of nodes of which the last one's record is set anew: how it lies in memory.
-/
namespace Go.Proofs.YtjnjbajnmclmjaaGreatDoor
open Go.RowKit
set_option linter.unusedVariables false
set_option linter.unusedSimpArgs false

/-- All cells but one stay. -/
def Kx (a0 : Addr) (w w' : World) : Prop := w.heap.size ≤ w'.heap.size ∧ ∀ a v, w.cell? a = some v → a ≠ a0 → w'.cell? a = some v
theorem Kx.plain {a0 : Addr} {w w' : World} (h : Kx a0 w w') {ao : Option Addr} {n c : Nat} (h0 : w.cell? a0 = some (.slice ao n c)) {a : Addr} {v : Value} (hv : w.cell? a = some v) (hn : ∀ ao n c, v ≠ .slice ao n c) : w'.cell? a = some v := by
  refine h.2 a v hv (fun e => ?_)
  subst e
  rw [h0] at hv
  exact hn _ _ _ (Option.some.inj hv).symm
theorem IsR.kx {a0 : Addr} {w w' : World} (h : Kx a0 w w') {ao : Option Addr} {n c : Nat} (h0 : w.cell? a0 = some (.slice ao n c)) {v : Value} {L : List Pr} (hR : IsR w v L) : IsR w' v L := by
  obtain ⟨ao', c', rfl, h1 | ⟨b, off, rfl, hb, hL⟩⟩ := hR
  · exact ⟨ao', c', rfl, .inl h1⟩
  · refine ⟨_, c', rfl, .inr ⟨b, off, rfl, Nat.lt_of_lt_of_le hb h.1, fun k p hp => ?_⟩⟩
    obtain ⟨c0, c1, c2, c3⟩ := hL k p hp
    exact ⟨h.plain h0 c0 (by intros; simp), h.plain h0 c1 (by intros; simp), h.plain h0 c2 (by intros; simp), h.plain h0 c3 (by intros; simp)⟩
theorem IsT.kx {a0 : Addr} {w w' : World} (h : Kx a0 w w') {ao : Option Addr} {n c : Nat} (h0 : w.cell? a0 = some (.slice ao n c)) {v : Value} {T : List Te} (hT : IsT w v T) : IsT w' v T := by
  obtain ⟨ao', c', rfl, hc, h1 | ⟨b, off, rfl, hb, hL⟩⟩ := hT
  · exact ⟨ao', c', rfl, hc, .inl h1⟩
  · refine ⟨_, c', rfl, hc, .inr ⟨b, off, rfl, Nat.lt_of_lt_of_le hb h.1, fun k p hp => ?_⟩⟩
    obtain ⟨c0, c1, c2⟩ := hL k p hp
    exact ⟨h.plain h0 c0 (by intros; simp), h.plain h0 c1 (by intros; simp), h.plain h0 c2 (by intros; simp)⟩
/-- The last node of a row, and where it lies. -/
theorem row_last {b0 : Nat} {w : World} {vN : Value} {k : Nat} (h : RowN b0 w vN (k + 1)) : ∃ (g cn : Nat) (av : Option Addr) (lv cv : Nat), vN = .slice (some ⟨g, 0, none⟩) (k + 1) cn ∧ w.cell? ⟨g, k * 3 + 2, none⟩ = some (.slice av lv cv) ∧ w.frozen? ⟨g, k * 3 + 2, none⟩ = false ∧ g < w.heap.size ∧ b0 ≤ g := by
  obtain ⟨N, base, hb0, hl, hN, hr, ho⟩ := h
  rcases ho.2 with ⟨_, h0⟩ | ⟨g, cap, cur, rfl, hb, hg, hle, hcm, hcs, ht⟩
  · cases h0
  · obtain ⟨x, hx⟩ : ∃ x, N[k]? = some x := ⟨N[k], by simp⟩
    obtain ⟨b, off, c, hv, hb', e0, e1, e2, eR⟩ := hN.at hx
    injection hv with hv1 _ _
    injection hv1 with hv1
    injection hv1 with hg' ho' _
    subst hg' ho'
    obtain ⟨av, cv, hav, _⟩ := eR
    rw [hav, Nat.zero_add] at e2
    exact ⟨g, cap, av, _, cv, rfl, e2, frz_atC hg, hb', Nat.le_trans hb0 hb⟩
theorem RowN.on {b0 : Nat} {w w' : World} {vN : Value} {n : Nat} (h : RowN b0 w vN n) (hB : Below w.heap.size w w') : RowN b0 w' vN n := by
  obtain ⟨N, base, h0, h1, h2, h3, h4⟩ := h
  exact ⟨N, base, h0, h1, h2.on hB, h3, own_below h4 hB⟩
theorem row_set_last {b0 : Nat} {w w' : World} {g cn k nb : Nat} {av : Option Addr} {lv cv : Nat} {key : Int} (h : RowN b0 w (.slice (some ⟨g, 0, none⟩) (k + 1) cn) (k + 1)) (h0 : w.cell? ⟨g, k * 3 + 2, none⟩ = some (.slice av lv cv)) (hK : Kx ⟨g, k * 3 + 2, none⟩ w w')
    (h1 : w'.cell? ⟨g, k * 3 + 2, none⟩ = some (.slice (some ⟨nb, 0, none⟩) 1 1)) (h2 : w'.heap[nb]? = some (.cells #[.string ⟨#[107]⟩, .int .i64 1, .int .i64 key, .string ⟨#[]⟩] 40 (0, 0))) :
    ∃ N κ, List.length N = k + 1 ∧ IsN w' (.slice (some ⟨g, 0, none⟩) (k + 1) cn) N ∧ RowP N κ ∧ (∀ j, j < k → κ j = (j : Int) + 1) ∧ κ k = key := by
  obtain ⟨N, base, _, hl, hN, hr, _⟩ := h
  have hcn : k + 1 ≤ cn := by
    obtain ⟨ao, c, hv, hc, _⟩ := hN
    injection hv with _ _ hv3
    omega
  refine ⟨N.take k ++ [⟨(k : Int) + 1, ⟨#[97]⟩, .slice (some ⟨nb, 0, none⟩) 1 1, [prK key]⟩], fun j => if j = k then key else (j : Int) + 1, by simp; omega, ?_, ?_, fun j hj => by simp; omega, by simp⟩
  · have hlen : (N.take k ++ [(⟨(k : Int) + 1, ⟨#[97]⟩, .slice (some ⟨nb, 0, none⟩) 1 1, [prK key]⟩ : Nd)]).length = k + 1 := by simp; omega
    refine ⟨_, cn, by rw [hlen], by rw [hlen]; exact hcn, .inr ⟨g, 0, rfl, ?_, fun j x hx => ?_⟩⟩
    · exact Nat.lt_of_lt_of_le (cell_ltC h0) hK.1
    · by_cases hj : j < k
      · rw [List.getElem?_append_left (by simp; omega), List.getElem?_take, if_pos hj] at hx
        obtain ⟨b, off, c, hv, hb', e0, e1, e2, eR⟩ := hN.at hx
        injection hv with hv1 _ _
        injection hv1 with hv1
        injection hv1 with hg' ho' _
        subst hg' ho'
        refine ⟨hK.plain h0 e0 (by intros; simp), hK.plain h0 e1 (by intros; simp), hK.2 _ _ e2 (fun e => ?_), eR.kx hK h0⟩
        injection e with _ e' _
        omega
      · have hjk : j = k := by
          have := (List.getElem?_eq_some_iff.1 hx).1
          rw [hlen] at this
          omega
        subst hjk
        obtain ⟨y, hy⟩ : ∃ y, N[j]? = some y := ⟨N[j], by simp⟩
        obtain ⟨b, off, c, hv, hb', e0, e1, e2, eR⟩ := hN.at hy
        injection hv with hv1 _ _
        injection hv1 with hv1
        injection hv1 with hg' ho' _
        subst hg' ho'
        obtain ⟨r1, r2, _⟩ := hr j y hy
        rw [r1] at e0
        rw [r2] at e1
        have hx' : (⟨(j : Int) + 1, ⟨#[97]⟩, .slice (some ⟨nb, 0, none⟩) 1 1, [prK key]⟩ : Nd) = x := by
          rw [List.getElem?_append_right (by simp; omega)] at hx
          have e : j - (N.take j).length = 0 := by simp; omega
          rw [e] at hx
          simpa using hx
        subst hx'
        refine ⟨hK.plain h0 e0 (by intros; simp), hK.plain h0 e1 (by intros; simp), by rw [Nat.zero_add]; exact h1, ⟨_, 1, rfl, .inr ⟨nb, 0, rfl, (Array.getElem?_eq_some_iff.1 h2).1, fun i p hp => ?_⟩⟩⟩
        match i with
        | 0 =>
          obtain rfl : prK key = p := by simpa using hp
          exact ⟨cell_atC h2 rfl, cell_atC h2 rfl, cell_atC h2 rfl, cell_atC h2 rfl⟩
        | i + 1 => simp at hp
  · intro j x hx
    by_cases hj : j < k
    · rw [List.getElem?_append_left (by simp; omega), List.getElem?_take, if_pos hj] at hx
      obtain ⟨r1, r2, r3⟩ := hr j x hx
      refine ⟨r1, r2, ?_⟩
      rw [r3]
      show [prK ((j : Int) + 1)] = [prK (if j = k then key else (j : Int) + 1)]
      have hne : ¬ j = k := by omega
      rw [if_neg hne]
    · have hlen : (N.take k ++ [(⟨(k : Int) + 1, ⟨#[97]⟩, .slice (some ⟨nb, 0, none⟩) 1 1, [prK key]⟩ : Nd)]).length = k + 1 := by simp; omega
      have hjk : j = k := by
        have := (List.getElem?_eq_some_iff.1 hx).1
        rw [hlen] at this
        omega
      subst hjk
      have hx' : (⟨(j : Int) + 1, ⟨#[97]⟩, .slice (some ⟨nb, 0, none⟩) 1 1, [prK key]⟩ : Nd) = x := by
        rw [List.getElem?_append_right (by simp; omega)] at hx
        have e : j - (N.take j).length = 0 := by simp; omega
        rw [e] at hx
        simpa using hx
      subst hx'
      exact ⟨rfl, rfl, by simp⟩
/-- Rows are right. -/
theorem idOk_of {i : Int} (h1 : 1 ≤ i) (h2 : i ≤ 1000) : idOk i = true := by unfold idOk; simp [h1, h2]
theorem rErr_k (i : Int) (h1 : 1 ≤ i) (h2 : i ≤ 1000) : rErr [prK i] = 0 := by
  have hb : (prK i).bad = 0 := by
    have : inR 1 i = true := by simp [inR]; omega
    simp [prK, Pr.bad, vErr, this]
  have hn : nErr (prK i).l = 0 := by show nErr [107] = 0; decide
  unfold rErr
  rw [if_neg (by simp), chk_first hn hb, chk_end]
theorem rowP_chkN : ∀ (N : List Nd) (m : Nat) (o : Option Nd) (κ : Nat → Int), (∀ (j : Nat) (x : Nd), N[j]? = some x → x.id = ((m + j : Nat) : Int) + 1 ∧ x.kd = ⟨#[97]⟩ ∧ x.rc = [prK (κ (m + j))]) → (∀ j, m ≤ j → j < m + N.length → 1 ≤ κ j ∧ κ j ≤ 1000) → (∀ q, o = some q → q.id ≤ m) → m + N.length ≤ 60 → chkN o N = 0
  | [], _, o, _, _, _, _, _ => chkN_end o
  | n :: r, m, o, κ, h, hκ, ho, hl => by
    obtain ⟨h1, h2, h3⟩ := h 0 n rfl
    simp only [Nat.add_zero] at h1 h3
    have hl' : m + (r.length + 1) ≤ 60 := by simpa using hl
    have hk := hκ m (Nat.le_refl _) (by simp)
    have he : ndE o n = 0 := by
      unfold ndE
      rw [if_pos (idOk_of (by omega) (by omega)), if_neg, h2, if_pos (by decide), h3]
      · exact rErr_k _ hk.1 hk.2
      · cases o with
        | none => simp [Nd.low]
        | some q => have := ho q rfl; simp [Nd.low]; omega
    rw [chkN_ok he]
    refine rowP_chkN r (m + 1) (some n) κ (fun j x hx => ?_) (fun j a b => hκ j (by omega) (by simp; omega)) (fun q hq => ?_) (by omega)
    · have := h (j + 1) x (by simpa using hx)
      rwa [show m + (j + 1) = m + 1 + j by omega] at this
    · injection hq with hq; subst hq; rw [h1]; omega
theorem tCmp_up (j : Nat) : tCmp (tK (j + 1)) (tK j) = 1 := by
  have h1 : Lib.compareBytes [112] [112] = 0 := by decide
  have h2 : Lib.compareInt (((j + 1 : Nat) : Int) + 1) ((j : Int) + 1) = 1 := by
    unfold Lib.compareInt
    (repeat' split) <;> first | rfl | (exfalso; omega)
  unfold tCmp
  rw [show Lib.compareBytes (tK (j + 1)).bd.data.toList (tK j).bd.data.toList = 0 from h1, show Lib.compareInt (tK (j + 1)).fr (tK j).fr = 1 from h2]
  unfold or3
  rw [if_pos rfl, if_neg (by decide)]
theorem row_chkT : ∀ (k s : Nat) (o : Option Te), (o = none ∨ ∃ q, s = q + 1 ∧ o = some (tK q)) → s + k ≤ 120 → chkT o ((List.range' s k).map tK) = 0
  | 0, _, o, _, _ => chkT_end o
  | k + 1, s, o, ho, hl => by
    rw [List.range'_succ, List.map_cons]
    have he : teE o (tK s) = 0 := by
      unfold teE
      have h1 : nErr (tK s).bd.data.toList = 0 := by show nErr [112] = 0; decide
      have h2 : (idOk (tK s).fr && idOk (tK s).tt) = true := by
        show (idOk ((s : Int) + 1) && idOk ((s : Int) + 1 + 1)) = true
        rw [idOk_of (by omega) (by omega), idOk_of (by omega) (by omega)]; rfl
      have h3 : ¬ (tK s).low o = true := by
        rcases ho with rfl | ⟨q, rfl, rfl⟩
        · simp [Te.low]
        · simp [Te.low, tCmp_up]
      rw [if_pos h1, if_pos h2, if_neg h3]
    rw [chkT_ok he]
    exact row_chkT k (s + 1) (some (tK s)) (.inr ⟨s, rfl, rfl⟩) (by omega)
theorem rowP_gErr {N : List Nd} {κ : Nat → Int} {m : Nat} (h : RowP N κ) (hκ : ∀ j, j < N.length → 1 ≤ κ j ∧ κ j ≤ 1000) (hn : N.length ≤ 60) (hm : m ≤ 120) : gErr N (rowT m) = 0 := by
  have h1 : chkN none N = 0 := rowP_chkN N 0 none κ (fun j x hx => by rw [Nat.zero_add]; exact h j x hx) (fun j _ b => hκ j (by omega)) (fun q hq => by cases hq) (by omega)
  have h2 : chkT none (rowT m) = 0 := by
    have := row_chkT m 0 none (.inl rfl) (by omega)
    unfold rowT
    rw [List.range_eq_range']; exact this
  unfold gErr
  rw [if_neg (by rw [rowT_len]; omega), if_pos h1, h2]
theorem rowP_szN {N : List Nd} {κ : Nat → Int} (h : RowP N κ) : SzN N := fun n hn => by
  obtain ⟨j, hj⟩ := List.mem_iff_getElem?.1 hn
  obtain ⟨_, h2, h3⟩ := h j n hj
  rw [h2, h3]
  refine ⟨by decide, fun p hp => ?_, by show (1 : Nat) ≤ maxLen; decide⟩
  obtain rfl : p = prK (κ j) := by simpa using hp
  exact ⟨by show (1 : Nat) ≤ maxLen; decide, by show (0 : Nat) ≤ maxLen; decide⟩
theorem row_szT (m : Nat) : SzT (rowT m) := fun t ht => by
  obtain ⟨j, _, rfl⟩ := List.mem_map.1 ht
  show (1 : Nat) ≤ maxLen
  decide
end Go.Proofs.YtjnjbajnmclmjaaGreatDoor

/-
  The tables of a row of nodes, in plain words.
-/
namespace Go.Proofs.YtjnjbajnmclmjaaGreatDoor
open Go.RowKit
set_option linter.unusedVariables false
set_option linter.unusedSimpArgs false

def hpA : Hp := ⟨[[97]], [[107]]⟩
theorem hpO_a (vo vf : Value) : hpO [kdA vo vf] [kdA vo vf] ⟨#[97]⟩ = some hpA := by rfl
def keyR (i : Int) : KeyJ := (⟨#[97]⟩, ⟨#[107]⟩, 1, i, ⟨#[]⟩)
theorem keyO_r (i : Int) : keyO ⟨#[97]⟩ (prK i) = keyR i := rfl
theorem keyR_inj {i j : Int} (h : keyR i = keyR j) : i = j := by
  have := congrArg (fun x : KeyJ => x.2.2.2.1) h
  exact this
theorem note_row {H : ByteArray → Option Hp} (hH : H ⟨#[97]⟩ = some hpA) {N : List Nd} (hN : RowP N (fun j => (j : Int) + 1)) : ∀ k : Nat, k ≤ N.length → ∀ i : Int, (tabK H (N.take k)).2 (keyR i) = if 1 ≤ i ∧ i ≤ k then some i else none
  | 0, _, i => by
    have : ¬ (1 ≤ i ∧ i ≤ ((0 : Nat) : Int)) := by omega
    rw [if_neg this]; rfl
  | k + 1, hk, i => by
    obtain ⟨x, hx⟩ : ∃ x, N[k]? = some x := ⟨N[k]'(by omega), List.getElem?_eq_getElem (by omega)⟩
    obtain ⟨h1, h2, h3⟩ := hN k x hx
    have ih := note_row hH hN k (by omega)
    have e : tabK H (N.take (k + 1)) = ndS H (tabK H (N.take k)) x := foldl_take _ _ hx
    rw [e]
    generalize tabK H (N.take k) = S at ih
    have hn : knO H x.kd = [[97]] := by unfold knO; rw [h2, hH]; rfl
    have hks : ksO H (bs [97]) = [[107]] := by unfold ksO; rw [show bs [97] = ⟨#[97]⟩ from rfl, hH]; rfl
    unfold ndS
    rw [hn]
    show (noteF (bs [97]) (ksO H (bs [97])) x.id S.2 x.rc) (keyR i) = _
    rw [hks, h3, h1]
    show (noteS (bs [97]) [[107]] ((k : Int) + 1) S.2 (prK ((k : Int) + 1))) (keyR i) = _
    have hc : (!(S.2 (keyR ((k : Int) + 1))).isSome && hasN [[107]] (prK ((k : Int) + 1)).nm.toList) = true := by
      rw [ih ((k : Int) + 1), if_neg (by omega), nm_a]; decide
    unfold noteS
    rw [show bs [97] = ⟨#[97]⟩ from rfl, keyO_r, if_pos hc]
    unfold upd
    by_cases hi : keyR i = keyR ((k : Int) + 1)
    · rw [if_pos hi]
      have := keyR_inj hi
      rw [if_pos (by omega)]
      rw [this]
    · rw [if_neg hi, ih i]
      have hne : i ≠ (k : Int) + 1 := fun e => hi (by rw [e])
      by_cases h : 1 ≤ i ∧ i ≤ k
      · rw [if_pos h, if_pos (by omega)]
      · rw [if_neg h, if_neg (by omega)]
def endR (i : Int) : EndJ := (⟨#[112]⟩, i, false)
theorem end_tab : ∀ (m : Nat) (i : Int), ((tabE (rowT m) (endR i)).getD []).length = if 1 ≤ i ∧ i ≤ m then 1 else 0
  | 0, i => by
    have : ¬ (1 ≤ i ∧ i ≤ ((0 : Nat) : Int)) := by omega
    rw [if_neg this]; rfl
  | m + 1, i => by
    have ih := end_tab m
    have e : tabE (rowT (m + 1)) = enS (tabE (rowT m)) (tK m) := by
      unfold tabE
      rw [rowT_s, List.foldl_append]
      rfl
    rw [e]
    generalize tabE (rowT m) = E at ih
    show ((rowA (rowA E (endR ((m : Int) + 1)) ((m : Int) + 1 + 1)) (⟨#[112]⟩, (m : Int) + 1 + 1, true) ((m : Int) + 1) (endR i)).getD []).length = _
    have hne : ¬ endR i = (⟨#[112]⟩, (m : Int) + 1 + 1, true) := fun h => by
      have : false = true := congrArg (fun x : EndJ => x.2.2) h
      cases this
    unfold rowA
    rw [show ∀ (F : EndJ → Option (List Int)) v, upd F (⟨#[112]⟩, (m : Int) + 1 + 1, true) v (endR i) = F (endR i) from fun F v => by unfold upd; rw [if_neg hne]]
    unfold upd
    by_cases hi : endR i = endR ((m : Int) + 1)
    · have hi' : i = (m : Int) + 1 := congrArg (fun x : EndJ => x.2.1) hi
      rw [if_pos hi, if_pos (by omega)]
      have := ih ((m : Int) + 1)
      rw [if_neg (by omega)] at this
      simp [this]
    · rw [if_neg hi, ih i]
      have hne : i ≠ (m : Int) + 1 := fun e => hi (by rw [e])
      by_cases h : 1 ≤ i ∧ i ≤ m
      · rw [if_pos h, if_pos (by omega)]
      · rw [if_neg h, if_neg (by omega)]
/-- What Key answers of a row. -/
theorem keyA_row {vo vf : Value} {N : List Nd} (hN : RowP N (fun j => (j : Int) + 1)) (i : Int) : keyA (hpO [kdA vo vf] [kdA vo vf]) (tabK (hpO [kdA vo vf] [kdA vo vf]) (cN N)).2 ⟨#[97]⟩ [107] 1 i ⟨#[]⟩ = if 1 ≤ i ∧ i ≤ N.length then (i, 0) else (0, 5) := by
  have h := note_row (hpO_a vo vf) hN N.length (Nat.le_refl _) i
  rw [List.take_length] at h
  unfold keyA
  rw [hpO_a, tabK_c]
  show (if hasN hpA.ks [107] then keyB ((tabK (hpO [kdA vo vf] [kdA vo vf]) N).2 (keyR i)) else (0, 3)) = _
  rw [if_pos (by decide), h]
  by_cases hi : 1 ≤ i ∧ i ≤ N.length
  · rw [if_pos hi, if_pos hi]; rfl
  · rw [if_neg hi, if_neg hi]; rfl
theorem cf_row {vo vf : Value} {N : List Nd} (hN : RowP N (fun j => (j : Int) + 1)) {n : Nat} (hl : N.length = n + 1) (hn : n + 1 ≤ 50) : cfE [kdA vo vf] [bdP (-1)] N (rowT n) = 0 := by
  have hg : gErr N (rowT n) = 0 := rowP_gErr hN (fun j hj => by rw [hl] at hj; constructor <;> omega) (by omega) (by omega)
  have hi : inE [kdA vo vf] [bdP (-1)] N (rowT n) = 0 := by unfold inE; rw [if_pos (sErr_a vo vf (.inl rfl)), hg]
  have hc : confB [kdA vo vf] [bdP (-1)] N (rowT n) = true := by
    unfold confB
    rw [hi, row_all hN (by omega)]
    rfl
  unfold cfE
  rw [if_pos hi, hc]; rfl
end Go.Proofs.YtjnjbajnmclmjaaGreatDoor

/-
  The fact that opens IndexHolds: an index of one node, asked for its key.
-/
namespace Go.Proofs.YtjnjbajnmclmjaaGreatDoor
open Go.RowKit
set_option linter.unusedVariables false
set_option linter.unusedSimpArgs false

abbrev nd7 (rv : Value) : Nd := ⟨7, ⟨#[97]⟩, rv, [prK 5]⟩
theorem sErr_one (vo vf : Value) : (sErr [kdA vo vf] []).2 = 0 := sErr_good.2 ⟨(sErr_good.1 (sErr_a vo vf (mx := -1) (.inl rfl))).1, fun i x hx => by simp at hx, by simp⟩
theorem gErr_7 (rv : Value) : gErr [nd7 rv] [] = 0 := by kernel_rfl
theorem allF_7 (vo vf rv : Value) : allF [kdA vo vf] [] [nd7 rv] [] = [] := by kernel_rfl
theorem cf_7 (vo vf rv : Value) : cfE [kdA vo vf] [] [nd7 rv] [] = 0 := by
  have hi : inE [kdA vo vf] [] [nd7 rv] [] = 0 := by unfold inE; rw [if_pos (sErr_one vo vf), gErr_7]
  have hc : confB [kdA vo vf] [] [nd7 rv] [] = true := by unfold confB; rw [hi, allF_7]; rfl
  unfold cfE
  rw [if_pos hi, hc]; rfl
theorem keyA_7 (vo vf rv : Value) : keyA (hpO [kdA vo vf] [kdA vo vf]) (tabK (hpO [kdA vo vf] [kdA vo vf]) (cN [nd7 rv])).2 ⟨#[97]⟩ [107] 1 5 ⟨#[]⟩ = (7, 0) := by kernel_rfl
/-- The blocks of the fact. -/
structure Fct (w : World) (b : Nat) : Prop where
  f : w.heap[b]? = some (.cells #[.string ⟨#[107]⟩, .int .i64 1, .bool true, .bool true] 32 (0, 0))
  k : w.heap[b + 1]? = some (.cells #[.string ⟨#[97]⟩, .slice none 0 0, .slice (some ⟨b, 0, none⟩) 1 1] 36 (0, 0))
  s : w.heap[b + 1 + 1]? = some (.cells #[.slice (some ⟨b + 1, 0, none⟩) 1 1, .slice none 0 0] 25 (0, 0))
  p : w.heap[b + 1 + 1 + 1]? = some (.cells #[.string ⟨#[107]⟩, .int .i64 1, .int .i64 5, .string ⟨#[]⟩] 40 (0, 0))
  n : w.heap[b + 1 + 1 + 1 + 1]? = some (.cells #[.int .i64 7, .string ⟨#[97]⟩, .slice (some ⟨b + 1 + 1 + 1, 0, none⟩) 1 1] 44 (0, 0))
  g : w.heap[b + 1 + 1 + 1 + 1 + 1]? = some (.cells #[.slice (some ⟨b + 1 + 1 + 1 + 1, 0, none⟩) 1 1, .slice none 0 0] 29 (0, 0))
theorem one_at {α : Type} {a x : α} {i : Nat} (h : [a][i]? = some x) : i = 0 ∧ a = x := by
  match i with
  | 0 => exact ⟨rfl, by simpa using h⟩
  | i + 1 => simp at h
theorem Fct.sc {w : World} {b : Nat} (h : Fct w b) : IsSc w (.agg #[.slice (some ⟨b + 1, 0, none⟩) 1 1, .slice none 0 0]) [kdA (.slice none 0 0) (.slice (some ⟨b, 0, none⟩) 1 1)] [] := by
  refine ⟨_, _, rfl, .inr ⟨b + 1, 0, 1, rfl, Nat.le_refl _, by unfold maxLen; omega, (Array.getElem?_eq_some_iff.1 h.k).1, fun i k hk => ?_⟩, fun k hk => ?_, fun k hk => ?_, .inl ⟨rfl, rfl⟩, fun x hx => by cases hx⟩
  · obtain ⟨rfl, rfl⟩ := one_at hk
    exact ⟨cell_at h.k rfl, cell_at h.k rfl, cell_at h.k rfl⟩
  · obtain rfl := List.mem_singleton.1 hk
    refine ⟨.inl ⟨none, 0, rfl, rfl, Nat.zero_le _, fun _ => rfl⟩, .inr ⟨b, 0, 1, rfl, Nat.le_refl _, by unfold maxLen; omega, (Array.getElem?_eq_some_iff.1 h.f).1, fun i f hf => ?_⟩⟩
    obtain ⟨rfl, rfl⟩ := one_at hf
    exact ⟨cell_at h.f rfl, cell_at h.f rfl, cell_at h.f rfl, cell_at h.f rfl⟩
  · obtain rfl := List.mem_singleton.1 hk
    refine ⟨by show (1 : Nat) ≤ maxLen; decide, fun f hf => ?_⟩
    obtain rfl := List.mem_singleton.1 hf
    show (1 : Nat) ≤ maxLen
    decide
theorem Fct.isg {w : World} {b : Nat} (h : Fct w b) : IsG w (.agg #[.slice (some ⟨b + 1 + 1 + 1 + 1, 0, none⟩) 1 1, .slice none 0 0]) [nd7 (.slice (some ⟨b + 1 + 1 + 1, 0, none⟩) 1 1)] [] := by
  obtain ⟨z1, z2⟩ := gErr_sz (gErr_7 (.slice (some ⟨b + 1 + 1 + 1, 0, none⟩) 1 1))
  refine ⟨_, _, rfl, ⟨_, 1, rfl, Nat.le_refl _, .inr ⟨b + 1 + 1 + 1 + 1, 0, rfl, (Array.getElem?_eq_some_iff.1 h.n).1, fun i n hn => ?_⟩⟩, ⟨none, 0, rfl, Nat.le_refl _, .inl rfl⟩, z1, z2, by show 1 ≤ maxLen; decide, by show 0 ≤ maxLen; decide⟩
  obtain ⟨rfl, rfl⟩ := one_at hn
  refine ⟨cell_at h.n rfl, cell_at h.n rfl, cell_at h.n rfl, ⟨_, 1, rfl, .inr ⟨b + 1 + 1 + 1, 0, rfl, (Array.getElem?_eq_some_iff.1 h.p).1, fun i p hp => ?_⟩⟩⟩
  obtain ⟨rfl, rfl⟩ := one_at hp
  exact ⟨cell_at h.p rfl, cell_at h.p rfl, cell_at h.p rfl, cell_at h.p rfl⟩
/-- The blocks as the law makes them. -/
abbrev fcW (w : World) : World := (((((w.alloc (.cells #[.string ⟨#[107]⟩, .int .i64 1, .bool true, .bool true] 32)).alloc (.cells #[.string ⟨#[97]⟩, .slice none 0 0, .slice (some ⟨w.heap.size, 0, none⟩) 1 1] 36)).alloc (.cells #[.slice (some ⟨w.heap.size + 1, 0, none⟩) 1 1, .slice none 0 0] 25)).alloc (.cells #[.string ⟨#[107]⟩, .int .i64 1, .int .i64 5, .string ⟨#[]⟩] 40)).alloc (.cells #[.int .i64 7, .string ⟨#[97]⟩, .slice (some ⟨w.heap.size + 1 + 1 + 1, 0, none⟩) 1 1] 44)).alloc (.cells #[.slice (some ⟨w.heap.size + 1 + 1 + 1 + 1, 0, none⟩) 1 1, .slice none 0 0] 29)
theorem alloc_at (w : World) (cs : Array Value) (t : TypeId) {b : Nat} (h : b = w.heap.size) : (w.alloc (.cells cs t)).heap[b]? = some (.cells cs t (0, 0)) := by rw [h]; exact heap_alloc_new w _
theorem alloc_old {w : World} {b : Nat} {o : Obj} (h : w.heap[b]? = some o) (x : Obj) : (w.alloc x).heap[b]? = some o := (heap_alloc_old w x (Array.getElem?_eq_some_iff.1 h).1).trans h
theorem fcW_fct (w : World) : Fct (fcW w) w.heap.size :=
  ⟨alloc_old (alloc_old (alloc_old (alloc_old (alloc_old (alloc_at w _ _ rfl) _) _) _) _) _,
   alloc_old (alloc_old (alloc_old (alloc_old (alloc_at _ _ _ (by simp)) _) _) _) _,
   alloc_old (alloc_old (alloc_old (alloc_at _ _ _ (by simp)) _) _) _,
   alloc_old (alloc_old (alloc_at _ _ _ (by simp)) _) _,
   alloc_old (alloc_at _ _ _ (by simp)) _,
   alloc_at _ _ _ (by simp)⟩
theorem fcW_below (w : World) : Below w.heap.size w (fcW w) := b_alloc (b_alloc (b_alloc (b_alloc (b_alloc (b_alloc (Below.refl _ _) _) _) _) _) _) _
end Go.Proofs.YtjnjbajnmclmjaaGreatDoor
