/-
  The mathematics of the stable sort: turning a window, merging two sorted parts by it, and blocks that grow; of no program.
-/
import Derived.Sort.LotA
namespace Go.Proofs.Ytodddcacngjadaa
open Go.Sort
set_option linter.unusedVariables false
set_option linter.unusedSimpArgs false
section
variable {α : Type}

/-- The window from a to b, turned so that what stood at m stands first. -/
def rotF (f : Nat → α) (a m b p : Nat) : α := if a ≤ p ∧ p < a + (b - m) then f (p + (m - a)) else if a + (b - m) ≤ p ∧ p < b then f (p - (b - m)) else f p
/-- Two windows of n, exchanged. -/
def swF (f : Nat → α) (a b n p : Nat) : α := if a ≤ p ∧ p < a + n then f (p - a + b) else if b ≤ p ∧ p < b + n then f (p - b + a) else f p
theorem rot_more (f : Nat → α) (m i j p : Nat) (hi : i ≤ m) (hj : j < i) : rotF f (m - i) m (m + j) p = rotF (swF f (m - i) m j) (m - i + j) m (m + j) p := by
  unfold rotF swF
  repeat' split
  all_goals first | (exfalso; omega) | rfl | (congr 1; omega)
theorem rot_less (f : Nat → α) (m i j p : Nat) (hi : i ≤ m) (hj : i < j) : rotF f (m - i) m (m + j) p = rotF (swF f (m - i) (m + j - i) i) (m - i) m (m + j - i) p := by
  unfold rotF swF
  repeat' split
  all_goals first | (exfalso; omega) | rfl | (congr 1; omega)
theorem rot_same (f : Nat → α) (m i p : Nat) (hi : i ≤ m) : rotF f (m - i) m (m + i) p = swF f (m - i) m i p := by
  unfold rotF swF
  repeat' split
  all_goals first | (exfalso; omega) | rfl | (congr 1; omega)
theorem rot_none (f : Nat → α) (s m e p : Nat) (hs : s ≤ m) (he : m ≤ e) (h : m ≤ s ∨ e ≤ m) : rotF f s m e p = f p := by
  unfold rotF
  repeat' split
  all_goals first | (exfalso; omega) | rfl | (congr 1; omega)
theorem sw_zero (f : Nat → α) (a b p : Nat) : swF f a b 0 p = f p := by
  unfold swF
  repeat' split
  all_goals first | (exfalso; omega) | rfl
theorem asym {lt : α → α → Bool} (hO : SWO lt) {x y : α} (h : lt x y = true) : lt y x = false := by
  cases h2 : lt y x
  · rfl
  · have := hO.trans x y x h h2
    rw [hO.irrefl] at this; cases this
variable [Inhabited α]
theorem sw_step (d dk : Array α) (a b n : Nat) (hd : ∀ p, dk[p]! = swF (fun q => d[q]!) a b n p) (hab : a + n < b) (hb : b + n < dk.size) : ∀ p, (swp dk (a + n) (b + n))[p]! = swF (fun q => d[q]!) a b (n + 1) p := by
  intro p
  rw [swp_get dk (by omega) hb p]
  have h1 := hd (a + n)
  have h2 := hd (b + n)
  have h3 := hd p
  unfold swF at h1 h2 h3 ⊢
  rw [if_neg (by omega), if_neg (by omega)] at h1 h2
  by_cases e1 : p = a + n
  · subst e1
    repeat' split
    all_goals first | (exfalso; omega) | (rw [h2]; congr 1; omega) | (rw [h1]; congr 1; omega)
  · by_cases e2 : p = b + n
    · subst e2
      repeat' split
      all_goals first | (exfalso; omega) | (rw [h1]; congr 1; omega) | (rw [h2]; congr 1; omega)
    · rw [h3]
      repeat' split
      all_goals first | (exfalso; omega) | rfl
/-- One that goes up, place by place. -/
theorem up_step (d dk : Array α) (a k : Nat) (hd : ∀ p, dk[p]! = rotF (fun q => d[q]!) a (a + 1) (k + 1) p) (hak : a ≤ k) (hk : k + 1 < dk.size) : ∀ p, (swp dk k (k + 1))[p]! = rotF (fun q => d[q]!) a (a + 1) (k + 1 + 1) p := by
  intro p
  rw [swp_get dk (by omega) hk p]
  have h1 := hd k
  have h2 := hd (k + 1)
  have h3 := hd p
  unfold rotF at h1 h2 h3 ⊢
  by_cases e1 : p = k
  · subst e1
    rw [if_neg (by omega), if_neg (by omega)] at h2
    repeat' split
    all_goals first | (exfalso; omega) | (rw [h2]; congr 1; omega) | (rw [h2]; congr 2; omega)
  · by_cases e2 : p = k + 1
    · subst e2
      rw [if_neg (by omega), if_pos (by omega)] at h1
      repeat' split
      all_goals first | (exfalso; omega) | (rw [h1]; congr 1; omega) | (rw [h1]; congr 2; omega)
    · rw [h3]
      repeat' split
      all_goals first | (exfalso; omega) | rfl | (congr 1; omega) | (congr 2; omega)
/-- One that goes down, place by place. -/
theorem down_step (d dk : Array α) (m k : Nat) (hd : ∀ p, dk[p]! = rotF (fun q => d[q]!) k m (m + 1) p) (hk : 0 < k) (hkm : k ≤ m) (hm : m < dk.size) : ∀ p, (swp dk k (k - 1))[p]! = rotF (fun q => d[q]!) (k - 1) m (m + 1) p := by
  intro p
  rw [swp_get dk (by omega) (by omega) p]
  have h1 := hd k
  have h2 := hd (k - 1)
  have h3 := hd p
  unfold rotF at h1 h2 h3 ⊢
  rw [if_neg (by omega), if_neg (by omega)] at h2
  rw [if_pos (by omega)] at h1
  by_cases e1 : p = k - 1
  · subst e1
    repeat' split
    all_goals first | (exfalso; omega) | (rw [h1]; congr 1; omega) | (rw [h1]; congr 2; omega)
  · by_cases e2 : p = k
    · subst e2
      repeat' split
      all_goals first | (exfalso; omega) | (rw [h2]; congr 1; omega) | (rw [h2]; congr 2; omega)
    · rw [h3]
      repeat' split
      all_goals first | (exfalso; omega) | rfl | (congr 1; omega) | (congr 2; omega)
theorem rot_start (d : Array α) (a p : Nat) : d[p]! = rotF (fun q => d[q]!) a (a + 1) (a + 1) p := by
  rw [rot_none _ _ _ _ _ (by omega) (by omega) (by omega)]
theorem rot_startD (d : Array α) (m p : Nat) : d[p]! = rotF (fun q => d[q]!) m m (m + 1) p := by
  rw [rot_none _ _ _ _ _ (by omega) (by omega) (by omega)]

variable {lt : α → α → Bool}
/-- Two sorted parts, all of the one not behind the other. -/
theorem sorted_join {a m b : Nat} {d : Array α} (h1 : SortedIn lt a m d) (h2 : SortedIn lt m b d) (h3 : ∀ x y, a ≤ x → x < m → m ≤ y → y < b → lt d[y]! d[x]! = false) : SortedIn lt a b d := by
  intro i j hi hij hj
  by_cases hjm : j < m
  · exact h1 i j hi hij hjm
  · by_cases him : i < m
    · exact h3 i j hi him (by omega) hj
    · exact h2 i j (by omega) hij hj
/-- Sorted, or the same place. -/
theorem sorted_le (hO : SWO lt) {a b : Nat} {d : Array α} (h : SortedIn lt a b d) {i j : Nat} (hi : a ≤ i) (hij : i ≤ j) (hj : j < b) : lt d[j]! d[i]! = false := by
  rcases Nat.lt_or_ge i j with h1 | h1
  · exact h i j hi h1 hj
  · obtain rfl : i = j := by omega
    exact hO.irrefl _
/-- The cut of the merge: what is turned to the front is not behind what is turned to the back. -/
theorem sym_cut (hO : SWO lt) {a s m e b mid : Nat} {d d1 : Array α} (h1 : a ≤ s) (h2 : s ≤ m) (h3 : m ≤ e) (h4 : e ≤ b) (hn : s + e = mid + m) (hS1 : SortedIn lt a m d) (hS2 : SortedIn lt m b d)
    (k1 : a < s → e < b → lt d[e]! d[s - 1]! = false) (k2 : s < m → m < e → lt d[e - 1]! d[s]! = true) (hd : ∀ p, d1[p]! = rotF (fun q => d[q]!) s m e p) :
    SortedIn lt a s d1 ∧ SortedIn lt s mid d1 ∧ SortedIn lt mid e d1 ∧ SortedIn lt e b d1 ∧ ∀ x y, a ≤ x → x < mid → mid ≤ y → y < b → lt d1[y]! d1[x]! = false := by
  have A : ∀ p, p < s → d1[p]! = d[p]! := fun p hp => by
    rw [hd]; unfold rotF; rw [if_neg (by omega), if_neg (by omega)]
  have B : ∀ p, s ≤ p → p < mid → d1[p]! = d[p + (m - s)]! := fun p hp hq => by
    rw [hd]; unfold rotF; rw [if_pos (by omega)]
  have C : ∀ p, mid ≤ p → p < e → d1[p]! = d[p - (e - m)]! := fun p hp hq => by
    rw [hd]; unfold rotF; rw [if_neg (by omega), if_pos (by omega)]
  have D : ∀ p, e ≤ p → d1[p]! = d[p]! := fun p hp => by
    rw [hd]; unfold rotF; rw [if_neg (by omega), if_neg (by omega)]
  refine ⟨?_, ?_, ?_, ?_, ?_⟩
  · intro i j hi hij hj
    rw [A i (by omega), A j hj]; exact hS1 i j hi hij (by omega)
  · intro i j hi hij hj
    rw [B i hi (by omega), B j (by omega) hj]; exact hS2 _ _ (by omega) (by omega) (by omega)
  · intro i j hi hij hj
    rw [C i hi (by omega), C j (by omega) hj]; exact hS1 _ _ (by omega) (by omega) (by omega)
  · intro i j hi hij hj
    rw [D i hi, D j (by omega)]; exact hS2 i j (by omega) hij hj
  · intro x y hx hxm hy hyb
    by_cases hxs : x < s
    · rw [A x hxs]
      by_cases hye : y < e
      · rw [C y hy hye]; exact hS1 _ _ hx (by omega) (by omega)
      · rw [D y (by omega)]
        have e1 := k1 (by omega) (by omega)
        have e2 : lt d[y]! d[e]! = false := sorted_le hO hS2 (by omega) (by omega) hyb
        have e3 : lt d[s - 1]! d[x]! = false := sorted_le hO hS1 hx (by omega) (by omega)
        exact hO.ntrans _ _ _ e2 (hO.ntrans _ _ _ e1 e3)
    · rw [B x (by omega) hxm]
      by_cases hye : y < e
      · rw [C y hy hye]
        have e1 := asym hO (k2 (by omega) (by omega))
        have e2 : lt d[e - 1]! d[x + (m - s)]! = false := sorted_le hO hS2 (by omega) (by omega) (by omega)
        have e3 : lt d[y - (e - m)]! d[s]! = false := sorted_le hO hS1 (by omega) (by omega) (by omega)
        exact hO.ntrans _ _ _ e3 (hO.ntrans _ _ _ e1 e2)
      · rw [D y (by omega)]; exact hS2 _ _ (by omega) (by omega) hyb
/-- One ahead of a sorted part goes to its place. -/
theorem sym_up (hO : SWO lt) {a i b : Nat} {d d1 : Array α} (h1 : a + 1 ≤ i) (h2 : i ≤ b) (hS : SortedIn lt (a + 1) b d) (k1 : i = a + 1 ∨ lt d[i - 1]! d[a]! = true) (k2 : i = b ∨ lt d[i]! d[a]! = false) (hd : ∀ p, d1[p]! = rotF (fun q => d[q]!) a (a + 1) i p) : SortedIn lt a b d1 := by
  have B : ∀ p, a ≤ p → p < i - 1 → d1[p]! = d[p + 1]! := fun p hp hq => by
    rw [hd]; unfold rotF; rw [if_pos (by omega)]; congr 1; omega
  have C : d1[i - 1]! = d[a]! := by
    rw [hd]; unfold rotF; rw [if_neg (by omega), if_pos (by omega)]; congr 1; omega
  have D : ∀ p, i ≤ p → d1[p]! = d[p]! := fun p hp => by
    rw [hd]; unfold rotF; rw [if_neg (by omega), if_neg (by omega)]
  intro x y hx hxy hy
  by_cases hyi : y < i - 1
  · rw [B x hx (by omega), B y (by omega) hyi]; exact hS _ _ (by omega) (by omega) (by omega)
  · by_cases hye : y = i - 1
    · subst hye
      rw [C, B x hx (by omega)]
      have e1 := asym hO (k1.resolve_left (by omega))
      exact hO.ntrans _ _ _ e1 (sorted_le hO hS (by omega) (by omega) (by omega))
    · rw [D y (by omega)]
      by_cases hxi : x < i - 1
      · rw [B x hx hxi]; exact hS _ _ (by omega) (by omega) hy
      · by_cases hxe : x = i - 1
        · subst hxe
          rw [C]
          exact hO.ntrans _ _ _ (sorted_le hO hS (by omega) (by omega) hy) (k2.resolve_left (by omega))
        · rw [D x (by omega)]; exact hS _ _ (by omega) hxy hy
/-- One behind a sorted part goes to its place. -/
theorem sym_down (hO : SWO lt) {a i m : Nat} {d d1 : Array α} (h1 : a ≤ i) (h2 : i ≤ m) (hS : SortedIn lt a m d) (k1 : i = a ∨ lt d[m]! d[i - 1]! = false) (k2 : i = m ∨ lt d[m]! d[i]! = true) (hd : ∀ p, d1[p]! = rotF (fun q => d[q]!) i m (m + 1) p) : SortedIn lt a (m + 1) d1 := by
  have A : ∀ p, p < i → d1[p]! = d[p]! := fun p hp => by
    rw [hd]; unfold rotF; rw [if_neg (by omega), if_neg (by omega)]
  have B : d1[i]! = d[m]! := by
    rw [hd]; unfold rotF; rw [if_pos (by omega)]; congr 1; omega
  have C : ∀ p, i < p → p ≤ m → d1[p]! = d[p - 1]! := fun p hp hq => by
    rw [hd]; unfold rotF; rw [if_neg (by omega), if_pos (by omega)]; congr 1; omega
  intro x y hx hxy hy
  by_cases hyi : y < i
  · rw [A x (by omega), A y hyi]; exact hS _ _ hx hxy (by omega)
  · by_cases hye : y = i
    · subst hye
      rw [B, A x hxy]
      exact hO.ntrans _ _ _ (k1.resolve_left (by omega)) (sorted_le hO hS hx (by omega) (by omega))
    · rw [C y (by omega) (by omega)]
      by_cases hxi : x < i
      · rw [A x hxi]; exact sorted_le hO hS hx (by omega) (by omega)
      · by_cases hxe : x = i
        · subst hxe
          rw [B]
          exact hO.ntrans _ _ _ (sorted_le hO hS (by omega) (by omega) (by omega)) (asym hO (k2.resolve_left (by omega)))
        · rw [C x (by omega) (by omega)]; exact hS _ _ (by omega) (by omega) (by omega)
/-- Both halves merged. -/
theorem sym_end {a mid b : Nat} {d1 d2 d3 : Array α} (ha : a ≤ mid) (hb : mid ≤ b) (hz : b ≤ d1.size) (hc : ∀ x y, a ≤ x → x < mid → mid ≤ y → y < b → lt d1[y]! d1[x]! = false)
    (p1 : PermIn a mid d1 d2) (s1 : SortedIn lt a mid d2) (p2 : PermIn mid b d2 d3) (s2 : SortedIn lt mid b d3) : PermIn a b d1 d3 ∧ SortedIn lt a b d3 := by
  have hz2 : d2.size = d1.size := p1.1
  refine ⟨permIn_trans _ _ _ _ _ (permIn_mono _ _ _ _ _ _ (Nat.le_refl _) hb hz p1) (permIn_mono _ _ _ _ _ _ ha (Nat.le_refl _) (by omega) p2), ?_⟩
  have q1 : ∀ x, x < mid → d3[x]! = d2[x]! := fun x hx => p2.2.1 x (.inl hx)
  refine sorted_join (m := mid) (fun i j hi hij hj => ?_) s2 (fun x y hx hxm hy hyb => ?_)
  · rw [q1 i (by omega), q1 j hj]; exact s1 i j hi hij hj
  · rw [q1 x hxm]
    have c1 : ∀ y, mid ≤ y → y < b → lt d2[y]! d2[x]! = false := fun y hy hyb => by
      rw [p1.2.1 y (.inr hy)]
      exact permIn_all d1 d2 a mid (fun v => lt d1[y]! v = false) (by omega) p1 (fun i h1 h2 => hc i y h1 h2 hy hyb) x hx hxm
    exact permIn_all d2 d3 mid b (fun v => lt v d2[x]! = false) (by omega) p2 (fun i h1 h2 => c1 i h1 h2) y hy hyb

/-- From a on, blocks of one size are sorted. -/
inductive Bl (lt : α → α → Bool) (bs n : Nat) (d : Array α) : Nat → Prop
  | done (a : Nat) (h : n ≤ a) : Bl lt bs n d a
  | step (a : Nat) (h : SortedIn lt a (min (a + bs) n) d) (r : Bl lt bs n d (a + bs)) : Bl lt bs n d a
theorem Bl.congr {bs n : Nat} {d d' : Array α} {a : Nat} (h : Bl lt bs n d a) : (∀ p, a ≤ p → d'[p]! = d[p]!) → Bl lt bs n d' a := by
  induction h with
  | done a h => intro _; exact .done a h
  | step a h r ih =>
    intro he
    refine .step a (fun i j hi hij hj => ?_) (ih (fun p hp => he p (by omega)))
    rw [he i hi, he j (by omega)]; exact h i j hi hij hj
theorem Bl.head {bs n : Nat} {d : Array α} {a : Nat} (h : Bl lt bs n d a) : SortedIn lt a (min (a + bs) n) d := by
  cases h with
  | done _ h => intro i j hi hij hj; omega
  | step _ h r => exact h
theorem Bl.tail {bs n : Nat} {d : Array α} {a : Nat} (h : Bl lt bs n d a) : Bl lt bs n d (a + bs) := by
  cases h with
  | done _ h => exact .done _ (by omega)
  | step _ h r => exact r
/-- What came ahead is made, once the rest is. -/
def Kb (lt : α → α → Bool) (bs n a : Nat) (d : Array α) : Prop := ∀ d' : Array α, (∀ p, p < a → d'[p]! = d[p]!) → Bl lt bs n d' a → Bl lt bs n d' 0
theorem kb_start (bs n : Nat) (d : Array α) : Kb lt bs n 0 d := fun d' _ h => h
theorem kb_step {bs n a : Nat} {d d1 : Array α} (h : Kb lt bs n a d) (hz : a + bs ≤ n) (hp : ∀ p, p < a → d1[p]! = d[p]!) (hs : SortedIn lt a (a + bs) d1) : Kb lt bs n (a + bs) d1 := fun d' hd hb =>
  h d' (fun p hp' => (hd p (by omega)).trans (hp p hp')) (.step a (fun i j hi hij hj => by rw [hd i (by omega), hd j (by omega)]; exact hs i j hi hij (by omega)) hb)
theorem kb_end {bs n a : Nat} {d d1 : Array α} (h : Kb lt bs n a d) (hz : n ≤ a + bs) (hp : ∀ p, p < a → d1[p]! = d[p]!) (hs : SortedIn lt a n d1) : Bl lt bs n d1 0 :=
  h d1 hp (.step a (fun i j hi hij hj => hs i j hi hij (by omega)) (.done _ hz))
theorem bl_all {bs n : Nat} {d : Array α} (h : Bl lt bs n d 0) (hb : n ≤ bs) : SortedIn lt 0 n d := by
  have := h.head
  rwa [Nat.zero_add, Nat.min_eq_right hb] at this
end
end Go.Proofs.Ytodddcacngjadaa
