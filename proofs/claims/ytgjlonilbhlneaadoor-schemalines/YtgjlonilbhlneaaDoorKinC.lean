/-
  What a kind comes of is the least list of names that holds its own and with each what that comes of: mathematics.
-/
import Derived.Test.YtgjlonilbhlneaaDoorKinM
namespace Go.Proofs.YtgjlonilbhlneaaDoor
open Go.RowKit
set_option linter.unusedVariables false
set_option linter.unusedSimpArgs false

theorem hasN_iff (l : List Nm) (n : Nm) : hasN l n = true ↔ n ∈ l := by unfold hasN; simp
/-- All names that one way back finds. -/
def cl : List Kd → List Nm → List Nm
  | [], ns => ns
  | k :: r, ns => if hasN ns k.nm = true then cl r (ns ++ k.of) else cl r ns
/-- From the last on: each name once, and what one comes of stands ahead of it. -/
def RightR : List Kd → Prop
  | [] => True
  | k :: r => (∀ x ∈ r, x.nm ≠ k.nm) ∧ (∀ n ∈ k.of, ∃ x ∈ r, x.nm = n) ∧ RightR r

theorem cl_ge (r : List Kd) : ∀ ns, ∀ n ∈ ns, n ∈ cl r ns := by
  induction r with
  | nil => intro ns n h; exact h
  | cons k r ih =>
    intro ns n h
    unfold cl
    split
    · exact ih _ n (by simp [h])
    · exact ih _ n h
theorem cl_sub (r : List Kd) : ∀ ns, ∀ n ∈ cl r ns, n ∈ ns ∨ ∃ x ∈ r, n ∈ x.of := by
  induction r with
  | nil => intro ns n h; exact .inl h
  | cons k r ih =>
    intro ns n h
    unfold cl at h
    split at h
    · rcases ih _ n h with h1 | ⟨x, hx, h1⟩
      · rcases List.mem_append.1 h1 with h2 | h2
        · exact .inl h2
        · exact .inr ⟨k, by simp, h2⟩
      · exact .inr ⟨x, by simp [hx], h1⟩
    · rcases ih _ n h with h1 | ⟨x, hx, h1⟩
      · exact .inl h1
      · exact .inr ⟨x, by simp [hx], h1⟩
theorem right_of {r : List Kd} (h : RightR r) : ∀ x ∈ r, ∀ n ∈ x.of, ∃ y ∈ r, y.nm = n := by
  induction r with
  | nil => intro x hx; simp at hx
  | cons k r ih =>
    obtain ⟨h1, h2, h3⟩ := h
    intro x hx n hn
    rcases List.mem_cons.1 hx with rfl | hx
    · obtain ⟨y, hy, e⟩ := h2 n hn
      exact ⟨y, by simp [hy], e⟩
    · obtain ⟨y, hy, e⟩ := ih h3 x hx n hn
      exact ⟨y, by simp [hy], e⟩
/-- What is not there when it comes to it does not come any more. -/
theorem cl_not {k : Kd} {r : List Kd} (h : RightR (k :: r)) {ns : List Nm} (hn : ¬ k.nm ∈ ns) : ¬ k.nm ∈ cl r ns := by
  intro h1
  rcases cl_sub r ns _ h1 with h2 | ⟨x, hx, h2⟩
  · exact hn h2
  · obtain ⟨y, hy, e⟩ := right_of h.2.2 x hx _ h2
    exact h.1 y hy e
/-- What is found is what has one of the names. -/
theorem back_filter (r : List Kd) (h : RightR r) : ∀ ns, back r ns = r.filter fun k => hasN (cl r ns) k.nm := by
  induction r with
  | nil => intro ns; rfl
  | cons k r ih =>
    intro ns
    by_cases hn : hasN ns k.nm = true
    · have h1 : hasN (cl r (ns ++ k.of)) k.nm = true := by
        rw [hasN_iff] at hn ⊢
        exact cl_ge _ _ _ (by simp [hn])
      simp only [back, cl, hn, if_true, List.filter_cons]
      rw [if_pos h1, ih h.2.2]
    · have h1 : ¬ hasN (cl r ns) k.nm = true := by
        rw [hasN_iff] at hn ⊢
        exact cl_not h hn
      simp only [back, cl, hn, List.filter_cons]
      simp
      rw [if_neg h1, ih h.2.2]
/-- It is closed. -/
theorem cl_closed (r : List Kd) (h : RightR r) : ∀ ns, ∀ k ∈ r, k.nm ∈ cl r ns → ∀ n ∈ k.of, n ∈ cl r ns := by
  induction r with
  | nil => intro ns k hk; simp at hk
  | cons x r ih =>
    intro ns k hk hc n hn
    by_cases hx : hasN ns x.nm = true
    · have e : cl (x :: r) ns = cl r (ns ++ x.of) := by simp [cl, hx]
      rw [e] at hc ⊢
      rcases List.mem_cons.1 hk with rfl | hk
      · exact cl_ge _ _ _ (by simp [hn])
      · exact ih h.2.2 _ k hk hc n hn
    · have e : cl (x :: r) ns = cl r ns := by simp [cl, hx]
      rw [e] at hc ⊢
      rcases List.mem_cons.1 hk with rfl | hk
      · exact absurd hc (cl_not h (by rw [hasN_iff] at hx; exact hx))
      · exact ih h.2.2 _ k hk hc n hn
/-- It is the least one. -/
theorem cl_least (r : List Kd) (T : Nm → Prop) (hT : ∀ k ∈ r, T k.nm → ∀ n ∈ k.of, T n) : ∀ ns, (∀ n ∈ ns, T n) → ∀ n ∈ cl r ns, T n := by
  induction r with
  | nil => intro ns h n hn; exact h n hn
  | cons x r ih =>
    intro ns h n hn
    unfold cl at hn
    split at hn
    · rename_i hx
      refine ih (fun k hk => hT k (by simp [hk])) _ (fun m hm => ?_) n hn
      rcases List.mem_append.1 hm with h1 | h1
      · exact h m h1
      · exact hT x (by simp) (h _ ((hasN_iff _ _).1 hx)) m h1
    · exact ih (fun k hk => hT k (by simp [hk])) _ h n hn
/-- Names behind that are not asked are passed over. -/
theorem cl_skip (p r : List Kd) (ns : List Nm) (h : ∀ k ∈ p, ¬ k.nm ∈ ns) : cl (p ++ r) ns = cl r ns ∧ back (p ++ r) ns = back r ns := by
  induction p with
  | nil => exact ⟨rfl, rfl⟩
  | cons k p ih =>
    have h1 : ¬ hasN ns k.nm = true := by rw [hasN_iff]; exact h k (by simp)
    obtain ⟨e1, e2⟩ := ih (fun x hx => h x (by simp [hx]))
    exact ⟨by simp only [List.cons_append, cl, h1]; simp [e1], by simp only [List.cons_append, back, h1]; simp [e2]⟩

theorem snoc_ind {P : List Kd → Prop} (h0 : P []) (h1 : ∀ A k, P A → P (A ++ [k])) (L : List Kd) : P L := by
  have h : ∀ R : List Kd, P R.reverse := by
    intro R
    induction R with
    | nil => exact h0
    | cons k R ih => rw [List.reverse_cons]; exact h1 _ _ ih
  simpa using h L.reverse
/-- Each name once, what one comes of stands ahead. -/
def Right (L : List Kd) : Prop := RightR L.reverse
theorem right_snoc {A : List Kd} {k : Kd} : Right (A ++ [k]) ↔ (∀ x ∈ A, x.nm ≠ k.nm) ∧ (∀ n ∈ k.of, ∃ x ∈ A, x.nm = n) ∧ Right A := by
  unfold Right
  simp [RightR]
theorem right_take {L : List Kd} (h : Right L) (i : Nat) : Right (L.take i) := by
  have gen : ∀ (B A : List Kd), Right (A ++ B) → Right A := by
    intro B
    refine snoc_ind (P := fun B => ∀ A, Right (A ++ B) → Right A) ?_ ?_ B
    · intro A h; simpa using h
    · intro B k ih A h
      rw [← List.append_assoc] at h
      exact ih A (right_snoc.1 h).2.2
  exact gen (L.drop i) (L.take i) (by rw [List.take_append_drop]; exact h)
/-- The names of one's kin. -/
def names (L : List Kd) (a : Nm) : List Nm := cl L.reverse [a]
theorem right_names {L : List Kd} (h : Right L) : ∀ (i j : Nat) (x y : Kd), L[i]? = some x → L[j]? = some y → x.nm = y.nm → i = j := by
  revert h
  refine snoc_ind (P := fun L => Right L → ∀ (i j : Nat) (x y : Kd), L[i]? = some x → L[j]? = some y → x.nm = y.nm → i = j) ?_ ?_ L
  · intro _ i j x y hx; simp at hx
  · intro A k ih h
    obtain ⟨h1, h2, h3⟩ := right_snoc.1 h
    intro i j x y hx hy e
    rw [List.getElem?_append] at hx hy
    split at hx <;> split at hy
    · exact ih h3 i j x y hx hy e
    · rename_i hi hj
      have : y = k := by
        have := List.mem_of_getElem? hy
        simpa using this
      subst this
      exact absurd e (h1 x (List.mem_of_getElem? hx))
    · rename_i hi hj
      have : x = k := by
        have := List.mem_of_getElem? hx
        simpa using this
      subst this
      exact absurd e.symm (h1 y (List.mem_of_getElem? hy))
    · rename_i hi hj
      have e1 := (List.getElem?_eq_some_iff.1 hx).1
      have e2 := (List.getElem?_eq_some_iff.1 hy).1
      simp at e1 e2
      omega
theorem mem_unique {L : List Kd} (h : Right L) {x y : Kd} (hx : x ∈ L) (hy : y ∈ L) (e : x.nm = y.nm) : x = y := by
  obtain ⟨i, hi⟩ := List.mem_iff_getElem?.1 hx
  obtain ⟨j, hj⟩ := List.mem_iff_getElem?.1 hy
  obtain rfl := right_names h i j x y hi hj e
  rw [hi] at hj
  exact Option.some.inj hj
/-- kinOf ends at a place: the same as of the whole list. -/
theorem kinOf_at {L : List Kd} (h : Right L) {i : Nat} {k : Kd} (hk : L[i]? = some k) : kinOf (L.take (i + 1)) = L.filter fun x => hasN (names L k.nm) x.nm := by
  have e1 : L.take (i + 1) = L.take i ++ [k] := takeK hk
  have hl : (L.take (i + 1)).getLast? = some k := by rw [e1]; simp
  have e2 : L.reverse = (L.drop (i + 1)).reverse ++ (L.take (i + 1)).reverse := by
    rw [← List.reverse_append, List.take_append_drop]
  have hs := cl_skip (L.drop (i + 1)).reverse (L.take (i + 1)).reverse [k.nm] (fun x hx => by
    simp at hx
    intro e
    simp at e
    obtain ⟨j, hj⟩ := List.mem_iff_getElem?.1 hx
    rw [List.getElem?_drop] at hj
    have := right_names h _ _ x k hj hk e
    omega)
  unfold kinOf
  rw [hl]
  simp only
  rw [← hs.2, ← e2, back_filter _ h, ← List.filter_reverse, List.reverse_reverse]
  rfl
theorem names_self (L : List Kd) (a : Nm) : a ∈ names L a := cl_ge _ _ _ (by simp)
theorem names_closed {L : List Kd} (h : Right L) (a : Nm) {k : Kd} (hk : k ∈ L) (hn : k.nm ∈ names L a) : ∀ n ∈ k.of, n ∈ names L a :=
  cl_closed _ h _ k (by simpa using hk) hn
theorem names_least (L : List Kd) (a : Nm) (T : Nm → Prop) (hT : ∀ k ∈ L, T k.nm → ∀ n ∈ k.of, T n) (ha : T a) : ∀ n ∈ names L a, T n :=
  cl_least _ T (fun k hk => hT k (by simpa using hk)) _ (fun n hn => by simp at hn; subst hn; exact ha)
theorem names_trans {L : List Kd} (h : Right L) {a b c : Nm} (h1 : b ∈ names L a) (h2 : c ∈ names L b) : c ∈ names L a :=
  names_least L b (fun n => n ∈ names L a) (fun k hk hn => names_closed h a hk hn) h1 c h2

end Go.Proofs.YtgjlonilbhlneaaDoor
