/-
  What a kind comes of is the least list of names that holds its own and with each what that comes of: mathematics.
-/
import Derived.Test.YtkmkhadacppdnaaGreatDoorM01
import Derived.Lib.Bytealg
import Derived.WalkKit
import Derived.Lib.Walk
import Derived.Laws.AppendOwn
import Derived.Laws.CopyOwn
import Derived.Lib.AppendZerosOnto
import Derived.Lib.Overlaps
import Derived.Laws.NewBlocks
namespace Go.Proofs.YtkmkhadacppdnaaGreatDoor
open Go.RowKit
set_option linter.unusedVariables false
set_option linter.unusedSimpArgs false

theorem hasN_iff (l : List Nm) (n : Nm) : hasN l n = true ↔ n ∈ l := by unfold hasN; simp
/-- All names that one way back finds. -/
def cl : List Kd → List Nm → List Nm
  | [], ns => ns
  | k :: r, ns => if hasN ns k.nm = true then cl r (ns ++ k.of) else cl r ns
/-- From the last on: each name once, and what one comes of stands ahead of it. -/
def RightR : List Kd → Prop
  | [] => True
  | k :: r => (∀ x ∈ r, x.nm ≠ k.nm) ∧ (∀ n ∈ k.of, ∃ x ∈ r, x.nm = n) ∧ RightR r

theorem cl_ge (r : List Kd) : ∀ ns, ∀ n ∈ ns, n ∈ cl r ns := by
  induction r with
  | nil => intro ns n h; exact h
  | cons k r ih =>
    intro ns n h
    unfold cl
    split
    · exact ih _ n (by simp [h])
    · exact ih _ n h
theorem cl_sub (r : List Kd) : ∀ ns, ∀ n ∈ cl r ns, n ∈ ns ∨ ∃ x ∈ r, n ∈ x.of := by
  induction r with
  | nil => intro ns n h; exact .inl h
  | cons k r ih =>
    intro ns n h
    unfold cl at h
    split at h
    · rcases ih _ n h with h1 | ⟨x, hx, h1⟩
      · rcases List.mem_append.1 h1 with h2 | h2
        · exact .inl h2
        · exact .inr ⟨k, by simp, h2⟩
      · exact .inr ⟨x, by simp [hx], h1⟩
    · rcases ih _ n h with h1 | ⟨x, hx, h1⟩
      · exact .inl h1
      · exact .inr ⟨x, by simp [hx], h1⟩
theorem right_of {r : List Kd} (h : RightR r) : ∀ x ∈ r, ∀ n ∈ x.of, ∃ y ∈ r, y.nm = n := by
  induction r with
  | nil => intro x hx; simp at hx
  | cons k r ih =>
    obtain ⟨h1, h2, h3⟩ := h
    intro x hx n hn
    rcases List.mem_cons.1 hx with rfl | hx
    · obtain ⟨y, hy, e⟩ := h2 n hn
      exact ⟨y, by simp [hy], e⟩
    · obtain ⟨y, hy, e⟩ := ih h3 x hx n hn
      exact ⟨y, by simp [hy], e⟩
/-- What is not there when it comes to it does not come any more. -/
theorem cl_not {k : Kd} {r : List Kd} (h : RightR (k :: r)) {ns : List Nm} (hn : ¬ k.nm ∈ ns) : ¬ k.nm ∈ cl r ns := by
  intro h1
  rcases cl_sub r ns _ h1 with h2 | ⟨x, hx, h2⟩
  · exact hn h2
  · obtain ⟨y, hy, e⟩ := right_of h.2.2 x hx _ h2
    exact h.1 y hy e
/-- What is found is what has one of the names. -/
theorem back_filter (r : List Kd) (h : RightR r) : ∀ ns, back r ns = r.filter fun k => hasN (cl r ns) k.nm := by
  induction r with
  | nil => intro ns; rfl
  | cons k r ih =>
    intro ns
    by_cases hn : hasN ns k.nm = true
    · have h1 : hasN (cl r (ns ++ k.of)) k.nm = true := by
        rw [hasN_iff] at hn ⊢
        exact cl_ge _ _ _ (by simp [hn])
      simp only [back, cl, hn, if_true, List.filter_cons]
      rw [if_pos h1, ih h.2.2]
    · have h1 : ¬ hasN (cl r ns) k.nm = true := by
        rw [hasN_iff] at hn ⊢
        exact cl_not h hn
      simp only [back, cl, hn, List.filter_cons]
      simp
      rw [if_neg h1, ih h.2.2]
/-- It is closed. -/
theorem cl_closed (r : List Kd) (h : RightR r) : ∀ ns, ∀ k ∈ r, k.nm ∈ cl r ns → ∀ n ∈ k.of, n ∈ cl r ns := by
  induction r with
  | nil => intro ns k hk; simp at hk
  | cons x r ih =>
    intro ns k hk hc n hn
    by_cases hx : hasN ns x.nm = true
    · have e : cl (x :: r) ns = cl r (ns ++ x.of) := by simp [cl, hx]
      rw [e] at hc ⊢
      rcases List.mem_cons.1 hk with rfl | hk
      · exact cl_ge _ _ _ (by simp [hn])
      · exact ih h.2.2 _ k hk hc n hn
    · have e : cl (x :: r) ns = cl r ns := by simp [cl, hx]
      rw [e] at hc ⊢
      rcases List.mem_cons.1 hk with rfl | hk
      · exact absurd hc (cl_not h (by rw [hasN_iff] at hx; exact hx))
      · exact ih h.2.2 _ k hk hc n hn
/-- It is the least one. -/
theorem cl_least (r : List Kd) (T : Nm → Prop) (hT : ∀ k ∈ r, T k.nm → ∀ n ∈ k.of, T n) : ∀ ns, (∀ n ∈ ns, T n) → ∀ n ∈ cl r ns, T n := by
  induction r with
  | nil => intro ns h n hn; exact h n hn
  | cons x r ih =>
    intro ns h n hn
    unfold cl at hn
    split at hn
    · rename_i hx
      refine ih (fun k hk => hT k (by simp [hk])) _ (fun m hm => ?_) n hn
      rcases List.mem_append.1 hm with h1 | h1
      · exact h m h1
      · exact hT x (by simp) (h _ ((hasN_iff _ _).1 hx)) m h1
    · exact ih (fun k hk => hT k (by simp [hk])) _ h n hn
/-- Names behind that are not asked are passed over. -/
theorem cl_skip (p r : List Kd) (ns : List Nm) (h : ∀ k ∈ p, ¬ k.nm ∈ ns) : cl (p ++ r) ns = cl r ns ∧ back (p ++ r) ns = back r ns := by
  induction p with
  | nil => exact ⟨rfl, rfl⟩
  | cons k p ih =>
    have h1 : ¬ hasN ns k.nm = true := by rw [hasN_iff]; exact h k (by simp)
    obtain ⟨e1, e2⟩ := ih (fun x hx => h x (by simp [hx]))
    exact ⟨by simp only [List.cons_append, cl, h1]; simp [e1], by simp only [List.cons_append, back, h1]; simp [e2]⟩

theorem snoc_ind {P : List Kd → Prop} (h0 : P []) (h1 : ∀ A k, P A → P (A ++ [k])) (L : List Kd) : P L := by
  have h : ∀ R : List Kd, P R.reverse := by
    intro R
    induction R with
    | nil => exact h0
    | cons k R ih => rw [List.reverse_cons]; exact h1 _ _ ih
  simpa using h L.reverse
/-- Each name once, what one comes of stands ahead. -/
def Right (L : List Kd) : Prop := RightR L.reverse
theorem right_snoc {A : List Kd} {k : Kd} : Right (A ++ [k]) ↔ (∀ x ∈ A, x.nm ≠ k.nm) ∧ (∀ n ∈ k.of, ∃ x ∈ A, x.nm = n) ∧ Right A := by
  unfold Right
  simp [RightR]
theorem right_take {L : List Kd} (h : Right L) (i : Nat) : Right (L.take i) := by
  have gen : ∀ (B A : List Kd), Right (A ++ B) → Right A := by
    intro B
    refine snoc_ind (P := fun B => ∀ A, Right (A ++ B) → Right A) ?_ ?_ B
    · intro A h; simpa using h
    · intro B k ih A h
      rw [← List.append_assoc] at h
      exact ih A (right_snoc.1 h).2.2
  exact gen (L.drop i) (L.take i) (by rw [List.take_append_drop]; exact h)
/-- The names of one's kin. -/
def names (L : List Kd) (a : Nm) : List Nm := cl L.reverse [a]
theorem right_names {L : List Kd} (h : Right L) : ∀ (i j : Nat) (x y : Kd), L[i]? = some x → L[j]? = some y → x.nm = y.nm → i = j := by
  revert h
  refine snoc_ind (P := fun L => Right L → ∀ (i j : Nat) (x y : Kd), L[i]? = some x → L[j]? = some y → x.nm = y.nm → i = j) ?_ ?_ L
  · intro _ i j x y hx; simp at hx
  · intro A k ih h
    obtain ⟨h1, h2, h3⟩ := right_snoc.1 h
    intro i j x y hx hy e
    rw [List.getElem?_append] at hx hy
    split at hx <;> split at hy
    · exact ih h3 i j x y hx hy e
    · rename_i hi hj
      have : y = k := by
        have := List.mem_of_getElem? hy
        simpa using this
      subst this
      exact absurd e (h1 x (List.mem_of_getElem? hx))
    · rename_i hi hj
      have : x = k := by
        have := List.mem_of_getElem? hx
        simpa using this
      subst this
      exact absurd e.symm (h1 y (List.mem_of_getElem? hy))
    · rename_i hi hj
      have e1 := (List.getElem?_eq_some_iff.1 hx).1
      have e2 := (List.getElem?_eq_some_iff.1 hy).1
      simp at e1 e2
      omega
theorem mem_unique {L : List Kd} (h : Right L) {x y : Kd} (hx : x ∈ L) (hy : y ∈ L) (e : x.nm = y.nm) : x = y := by
  obtain ⟨i, hi⟩ := List.mem_iff_getElem?.1 hx
  obtain ⟨j, hj⟩ := List.mem_iff_getElem?.1 hy
  obtain rfl := right_names h i j x y hi hj e
  rw [hi] at hj
  exact Option.some.inj hj
/-- kinOf ends at a place: the same as of the whole list. -/
theorem kinOf_at {L : List Kd} (h : Right L) {i : Nat} {k : Kd} (hk : L[i]? = some k) : kinOf (L.take (i + 1)) = L.filter fun x => hasN (names L k.nm) x.nm := by
  have e1 : L.take (i + 1) = L.take i ++ [k] := takeK hk
  have hl : (L.take (i + 1)).getLast? = some k := by rw [e1]; simp
  have e2 : L.reverse = (L.drop (i + 1)).reverse ++ (L.take (i + 1)).reverse := by
    rw [← List.reverse_append, List.take_append_drop]
  have hs := cl_skip (L.drop (i + 1)).reverse (L.take (i + 1)).reverse [k.nm] (fun x hx => by
    simp at hx
    intro e
    simp at e
    obtain ⟨j, hj⟩ := List.mem_iff_getElem?.1 hx
    rw [List.getElem?_drop] at hj
    have := right_names h _ _ x k hj hk e
    omega)
  unfold kinOf
  rw [hl]
  simp only
  rw [← hs.2, ← e2, back_filter _ h, ← List.filter_reverse, List.reverse_reverse]
  rfl
theorem names_self (L : List Kd) (a : Nm) : a ∈ names L a := cl_ge _ _ _ (by simp)
theorem names_closed {L : List Kd} (h : Right L) (a : Nm) {k : Kd} (hk : k ∈ L) (hn : k.nm ∈ names L a) : ∀ n ∈ k.of, n ∈ names L a :=
  cl_closed _ h _ k (by simpa using hk) hn
theorem names_least (L : List Kd) (a : Nm) (T : Nm → Prop) (hT : ∀ k ∈ L, T k.nm → ∀ n ∈ k.of, T n) (ha : T a) : ∀ n ∈ names L a, T n :=
  cl_least _ T (fun k hk => hT k (by simpa using hk)) _ (fun n hn => by simp at hn; subst hn; exact ha)
theorem names_trans {L : List Kd} (h : Right L) {a b c : Nm} (h1 : b ∈ names L a) (h2 : c ∈ names L b) : c ∈ names L a :=
  names_least L b (fun n => n ∈ names L a) (fun k hk hn => names_closed h a hk hn) h1 c h2

end Go.Proofs.YtkmkhadacppdnaaGreatDoor

/-
  Fields in the order of their names, one more put in; and what is known of kinds that are right: mathematics.
-/
namespace Go.Proofs.YtkmkhadacppdnaaGreatDoor
open Go.RowKit
set_option linter.unusedVariables false
set_option linter.unusedSimpArgs false

theorem cmpB_range (a b : List UInt8) : Lib.compareBytes a b = -1 ∨ Lib.compareBytes a b = 0 ∨ Lib.compareBytes a b = 1 := by
  induction a generalizing b with
  | nil => cases b <;> simp [Lib.compareBytes]
  | cons c r ih =>
    cases b with
    | nil => simp [Lib.compareBytes]
    | cons d q =>
      simp only [Lib.compareBytes]
      split
      · simp
      · split
        · simp
        · exact ih q
theorem cmpB_anti (a b : List UInt8) : Lib.compareBytes b a = -Lib.compareBytes a b := by
  induction a generalizing b with
  | nil => cases b <;> simp [Lib.compareBytes]
  | cons c r ih =>
    cases b with
    | nil => simp [Lib.compareBytes]
    | cons d q =>
      simp only [Lib.compareBytes]
      by_cases h1 : c < d
      · have h2 : ¬ d < c := by rw [UInt8.lt_iff_toNat_lt] at *; omega
        simp [h1, h2]
      · by_cases h2 : d < c
        · simp [h1, h2]
        · simp [h1, h2, ih q]
theorem cmpB_zero (a b : List UInt8) : Lib.compareBytes a b = 0 ↔ a = b := by
  induction a generalizing b with
  | nil => cases b <;> simp [Lib.compareBytes]
  | cons c r ih =>
    cases b with
    | nil => simp [Lib.compareBytes]
    | cons d q =>
      simp only [Lib.compareBytes]
      by_cases h1 : c < d
      · have hne : ¬ c = d := by intro e; rw [e, UInt8.lt_iff_toNat_lt] at h1; omega
        simp [h1, hne]
      · by_cases h2 : d < c
        · have hne : ¬ c = d := by intro e; rw [e, UInt8.lt_iff_toNat_lt] at h2; omega
          simp [h1, h2, hne]
        · have he : c = d := by rw [UInt8.lt_iff_toNat_lt] at h1 h2; exact UInt8.toNat_inj.1 (by omega)
          simp [h1, h2, ih q, he]
theorem cmpB_trans (a b c : List UInt8) (h1 : Lib.compareBytes a b ≤ 0) (h2 : Lib.compareBytes b c ≤ 0) : Lib.compareBytes a c ≤ 0 := by
  induction a generalizing b c with
  | nil => cases c <;> simp [Lib.compareBytes]
  | cons x r ih =>
    cases b with
    | nil => simp [Lib.compareBytes] at h1
    | cons y q =>
      cases c with
      | nil => simp [Lib.compareBytes] at h2
      | cons z p =>
        simp only [Lib.compareBytes] at h1 h2 ⊢
        simp only [UInt8.lt_iff_toNat_lt] at *
        by_cases a1 : x.toNat < y.toNat
        · by_cases b1 : y.toNat < z.toNat
          · rw [if_pos (by omega)]; decide
          · by_cases b2 : z.toNat < y.toNat
            · rw [if_neg b1, if_pos b2] at h2; simp at h2
            · rw [if_pos (by omega)]; decide
        · by_cases a2 : y.toNat < x.toNat
          · rw [if_neg a1, if_pos a2] at h1; simp at h1
          · rw [if_neg a1, if_neg a2] at h1
            by_cases b1 : y.toNat < z.toNat
            · rw [if_pos (by omega)]; decide
            · by_cases b2 : z.toNat < y.toNat
              · rw [if_neg b1, if_pos b2] at h2; simp at h2
              · rw [if_neg b1, if_neg b2] at h2
                rw [if_neg (by omega), if_neg (by omega)]
                exact ih q p h1 h2
theorem less_cmp (a : List UInt8) : ∀ b, Op.bytesLess a b = decide (Lib.compareBytes a b < 0) := by
  induction a with
  | nil => intro b; cases b <;> simp [Op.bytesLess, Lib.compareBytes]
  | cons c r ih =>
    intro b
    cases b with
    | nil => simp [Op.bytesLess, Lib.compareBytes]
    | cons d q =>
      simp only [Op.bytesLess, Lib.compareBytes]
      by_cases h1 : c < d
      · simp [h1]
      · by_cases h2 : d < c
        · have hne : ¬ c = d := by intro e; rw [e, UInt8.lt_iff_toNat_lt] at h2; omega
          simp [h1, h2, hne]
        · have he : c = d := by rw [UInt8.lt_iff_toNat_lt] at h1 h2; exact UInt8.toNat_inj.1 (by omega)
          simp [h1, h2, he, ih q]
theorem less_irr (a : Nm) : Op.bytesLess a a = false := by
  rw [less_cmp, (cmpB_zero a a).2 rfl]; decide
theorem less_trans {a b c : Nm} (h1 : Op.bytesLess a b = true) (h2 : Op.bytesLess b c = true) : Op.bytesLess a c = true := by
  rw [less_cmp] at *
  have g1 : Lib.compareBytes a b < 0 := by simpa using h1
  have g2 : Lib.compareBytes b c < 0 := by simpa using h2
  have h3 := cmpB_trans a b c (by omega) (by omega)
  rcases Int.lt_or_eq_of_le h3 with h | h
  · simpa using h
  · have e := (cmpB_zero _ _).1 h
    subst e
    have := cmpB_anti a b
    omega
theorem less_tri {a b : Nm} (h1 : Op.bytesLess a b = false) (h2 : ¬ a = b) : Op.bytesLess b a = true := by
  rw [less_cmp] at *
  have g1 : ¬ Lib.compareBytes a b < 0 := by simpa using h1
  have g2 : ¬ Lib.compareBytes a b = 0 := fun e => h2 ((cmpB_zero _ _).1 e)
  have := cmpB_anti a b
  have : Lib.compareBytes b a < 0 := by omega
  simpa using this
theorem less_asym {a b : Nm} (h1 : Op.bytesLess a b = true) : Op.bytesLess b a = false := by
  cases h : Op.bytesLess b a
  · rfl
  · have := less_trans h1 h
    rw [less_irr] at this
    exact absurd this (by decide)

/-- In the order of their names. -/
def Srt (l : List Fd) : Prop := l.Pairwise fun a b => Op.bytesLess a.nm b.nm = true
theorem lo_le (nm : Nm) (l : List Fd) : lo nm l ≤ l.length := by
  induction l with
  | nil => exact Nat.le_refl _
  | cons g r ih => unfold lo; split <;> simp <;> omega
theorem lo_spec (nm : Nm) {l : List Fd} (h : Srt l) : ∀ i g, l[i]? = some g → (i < lo nm l ↔ Op.bytesLess g.nm nm = true) := by
  induction l with
  | nil => intro i g hg; simp at hg
  | cons x r ih =>
    obtain ⟨h1, h2⟩ := List.pairwise_cons.1 h
    intro i g hg
    by_cases hx : Op.bytesLess x.nm nm = true
    · have e : lo nm (x :: r) = lo nm r + 1 := by simp [lo, hx]
      rw [e]
      cases i with
      | zero => simp at hg; subst hg; simp [hx]
      | succ i =>
        have := ih h2 i g (by simpa using hg)
        rw [← this]; omega
    · have e : lo nm (x :: r) = 0 := by simp [lo, hx]
      rw [e]
      refine ⟨fun h => absurd h (by omega), fun hl => ?_⟩
      cases i with
      | zero => simp at hg; subst hg; exact absurd hl hx
      | succ i =>
        have hm : g ∈ r := List.mem_of_getElem? (by simpa using hg)
        exact absurd (less_trans (h1 g hm) hl) hx
theorem insF_spec {all : List Fd} (h : Srt all) (f : Fd) {r : List Fd} (hr : insF all f = some r) : Srt r ∧ (∀ x, x ∈ r ↔ x ∈ all ∨ x = f) ∧ r.length ≤ all.length + 1 := by
  have hput : (∀ g, all[lo f.nm all]? = some g → ¬ g.nm = f.nm) → Srt (all.take (lo f.nm all) ++ f :: all.drop (lo f.nm all)) ∧ (∀ x, x ∈ all.take (lo f.nm all) ++ f :: all.drop (lo f.nm all) ↔ x ∈ all ∨ x = f) ∧ (all.take (lo f.nm all) ++ f :: all.drop (lo f.nm all)).length ≤ all.length + 1 := by
    intro hne
    refine ⟨?_, fun x => ?_, ?_⟩
    · have hsp := h
      unfold Srt at hsp ⊢
      rw [← List.take_append_drop (lo f.nm all) all] at hsp
      obtain ⟨p1, p2, p3⟩ := List.pairwise_append.1 hsp
      have ha : ∀ a ∈ all.take (lo f.nm all), Op.bytesLess a.nm f.nm = true := by
        intro a hm
        obtain ⟨j, hj⟩ := List.mem_iff_getElem?.1 hm
        rw [List.getElem?_take] at hj
        split at hj
        · rename_i hlt
          exact (lo_spec f.nm h j a hj).1 hlt
        · cases hj
      have hb : ∀ b ∈ all.drop (lo f.nm all), Op.bytesLess f.nm b.nm = true := by
        intro b hm
        obtain ⟨j, hj⟩ := List.mem_iff_getElem?.1 hm
        rw [List.getElem?_drop] at hj
        have h1 : ¬ Op.bytesLess b.nm f.nm = true := fun e => by
          have := (lo_spec f.nm h _ b hj).2 e; omega
        refine less_tri (by simpa using h1) (fun e => ?_)
        cases j with
        | zero => exact hne b (by simpa using hj) e
        | succ j =>
          obtain ⟨g, hg⟩ : ∃ g, all[lo f.nm all]? = some g := ⟨all[lo f.nm all]'(by have := (List.getElem?_eq_some_iff.1 hj).1; omega), by simp⟩
          have h2 : ¬ Op.bytesLess g.nm f.nm = true := fun e => by
            have := (lo_spec f.nm h _ g hg).2 e; omega
          have h3 : Op.bytesLess g.nm b.nm = true := by
            have hlt := (List.getElem?_eq_some_iff.1 hj).1
            have := List.pairwise_iff_getElem.1 h (lo f.nm all) (lo f.nm all + (j + 1)) (by omega) hlt (by omega)
            rw [(List.getElem?_eq_some_iff.1 hg).2, (List.getElem?_eq_some_iff.1 hj).2] at this
            exact this
          rw [e] at h3
          exact h2 h3
      refine List.pairwise_append.2 ⟨p1, List.pairwise_cons.2 ⟨hb, p2⟩, fun a hm b hmb => ?_⟩
      rcases List.mem_cons.1 hmb with rfl | hmb
      · exact ha a hm
      · exact p3 a hm b hmb
    · have : x ∈ all ↔ x ∈ all.take (lo f.nm all) ∨ x ∈ all.drop (lo f.nm all) := by
        rw [← List.mem_append, List.take_append_drop]
      rw [this]; simp only [List.mem_append, List.mem_cons]
      constructor
      · rintro (h | h | h)
        · exact .inl (.inl h)
        · exact .inr h
        · exact .inl (.inr h)
      · rintro ((h | h) | h)
        · exact .inl h
        · exact .inr (.inr h)
        · exact .inr (.inl h)
    · simp; omega
  unfold insF at hr
  split at hr
  · rename_i g hg
    split at hr
    · split at hr
      · rename_i h1 h2
        have e := (feq_iff g f).1 h2
        obtain rfl := Option.some.inj hr
        refine ⟨h, fun x => ⟨fun hx => .inl hx, fun hx => ?_⟩, by omega⟩
        rcases hx with hx | rfl
        · exact hx
        · rw [← e]; exact List.mem_of_getElem? hg
      · cases hr
    · rename_i h1
      obtain rfl := Option.some.inj hr
      exact hput (fun g' hg' => by rw [hg] at hg'; obtain rfl := Option.some.inj hg'; simpa using h1)
  · rename_i hg
    obtain rfl := Option.some.inj hr
    exact hput (fun g' hg' => by rw [hg] at hg'; cases hg')
theorem fOf_spec (fs : List Fd) : ∀ {all r : List Fd}, Srt all → fOf all fs = some r → Srt r ∧ (∀ x, x ∈ r ↔ x ∈ all ∨ x ∈ fs) ∧ r.length ≤ all.length + fs.length := by
  induction fs with
  | nil =>
    intro all r h hr
    obtain rfl := Option.some.inj hr
    exact ⟨h, fun x => by simp, by simp⟩
  | cons f fs ih =>
    intro all r h hr
    unfold fOf at hr
    split at hr
    · rename_i a ha
      obtain ⟨s1, m1, l1⟩ := insF_spec h f ha
      obtain ⟨s2, m2, l2⟩ := ih s1 hr
      refine ⟨s2, fun x => ?_, by simp; omega⟩
      rw [m2, m1]; simp [or_assoc]
    · cases hr
theorem fOf_app (a b : List Fd) : ∀ all, fOf all (a ++ b) = (fOf all a).bind fun r => fOf r b := by
  induction a with
  | nil => intro all; rfl
  | cons f a ih =>
    intro all
    simp only [List.cons_append, fOf]
    cases insF all f with
    | none => rfl
    | some x => exact ih x
theorem srt_nil : Srt [] := List.Pairwise.nil

/-- Few enough of each. -/
def Small (L : List Kd) : Prop := ∀ k ∈ L, k.of.length ≤ 4 ∧ k.fs.length ≤ 8
/-- Names are not too long for memory. -/
def SzK (L : List Kd) : Prop := ∀ k ∈ L, k.nm.length ≤ maxLen ∧ ∀ f ∈ k.fs, f.nm.length ≤ maxLen
theorem idxK_none {nm : Nm} {L : List Kd} {k : Nat} (h : idxK nm L k = -1) : ∀ x ∈ L, x.nm ≠ nm := by
  induction L generalizing k with
  | nil => intro x hx; simp at hx
  | cons p r ih =>
    intro x hx
    by_cases hp : (p.nm == nm) = true
    · unfold idxK at h; rw [if_pos hp] at h; omega
    · have e : idxK nm (p :: r) k = idxK nm r (k + 1) := by
        conv => lhs; unfold idxK
        rw [if_neg hp]
      rw [e] at h
      rcases List.mem_cons.1 hx with rfl | hx
      · simpa using hp
      · exact ih h x hx
theorem idxK_has {nm : Nm} {L : List Kd} (h : ¬ idxK nm L 0 = -1) : ∃ (j : Nat) (q : Kd), idxK nm L 0 = (j : Int) ∧ L[j]? = some q ∧ q.nm = nm := by
  obtain ⟨j, q, h1, h2, h3⟩ := (idxK_spec nm L 0).resolve_left h
  exact ⟨j, q, by simpa using h1, h2, h3⟩
theorem idxK_neg_iff {nm : Nm} {L : List Kd} : idxK nm L 0 = -1 ↔ ∀ x ∈ L, x.nm ≠ nm := by
  refine ⟨idxK_none, fun h => ?_⟩
  rcases idxK_spec nm L 0 with h1 | ⟨j, q, h1, h2, h3⟩
  · exact h1
  · exact absurd h3 (h q (List.mem_of_getElem? h2))
theorem oChk_zero (A : List Kd) (of : List Nm) : ∀ seen, oChk A seen of = 0 → ∀ n ∈ of, ∃ x ∈ A, x.nm = n := by
  induction of with
  | nil => intro seen h n hn; simp at hn
  | cons m r ih =>
    intro seen h n hn
    unfold oChk at h
    split at h
    · exact absurd h (by decide)
    · rename_i h1
      split at h
      · exact absurd h (by decide)
      · rcases List.mem_cons.1 hn with rfl | hn
        · obtain ⟨j, q, _, h2, h3⟩ := idxK_has h1
          exact ⟨q, List.mem_of_getElem? h2, h3⟩
        · exact ih _ h n hn
theorem kErr_zero {A : List Kd} {k : Kd} (h : kErr A k = 0) : nErr k.nm = 0 ∧ idxK k.nm A 0 = -1 ∧ (k.of.length ≤ 4 ∧ k.fs.length ≤ 8) ∧ oChk A [] k.of = 0 ∧ fChk none k.fs = 0 ∧ ∃ l, fieldsOf (kinOf (A ++ [k])) = some l ∧ l.length ≤ 8 := by
  unfold kErr at h
  split at h
  · rename_i h1
    split at h
    · rename_i h2
      split at h
      · exact absurd h (by decide)
      · rename_i h3
        split at h
        · rename_i h4
          split at h
          · rename_i h5
            refine ⟨h1, h2, by omega, h4, h5, ?_⟩
            cases e : fieldsOf (kinOf (A ++ [k])) with
            | none => rw [e] at h; exact absurd h (by decide)
            | some l =>
              rw [e] at h
              refine ⟨l, rfl, ?_⟩
              unfold aErr at h
              simp only at h
              split at h
              · exact absurd h (by decide)
              · omega
          · rename_i h5; exact absurd h h5
        · rename_i h4; exact absurd h h4
    · exact absurd h (by decide)
  · rename_i h1; exact absurd h h1
theorem kErr_right {A : List Kd} {k : Kd} (hA : Right A) (h : kErr A k = 0) : Right (A ++ [k]) := by
  obtain ⟨h1, h2, h3, h4, h5, _⟩ := kErr_zero h
  exact right_snoc.2 ⟨idxK_none h2, oChk_zero A k.of [] h4, hA⟩
/-- All that is known of kinds without a fault. -/
def Good (L : List Kd) : Prop := ∀ i k, L[i]? = some k → kErr (L.take i) k = 0
theorem ksGo_good (L : List Kd) : ∀ A, (ksGo A L).2 = 0 ↔ ∀ i k, L[i]? = some k → kErr (A ++ L.take i) k = 0 := by
  induction L with
  | nil => intro A; simp [ksGo]
  | cons x r ih =>
    intro A
    unfold ksGo
    split
    · rename_i h
      rw [ih]
      constructor
      · intro h1 i k hk
        cases i with
        | zero => simp at hk; subst hk; simpa using h
        | succ i => have := h1 i k (by simpa using hk); simpa using this
      · intro h1 i k hk
        have := h1 (i + 1) k (by simpa using hk)
        simpa using this
    · rename_i h
      constructor
      · intro h1; exact absurd h1 h
      · intro h1; exact absurd (by simpa using h1 0 x (by simp)) h
theorem ksErr_good {L : List Kd} : (ksErr L).2 = 0 ↔ Good L ∧ L.length ≤ 12 := by
  unfold ksErr
  split
  · rename_i h
    constructor
    · intro h1; exact absurd h1 (by decide)
    · intro h1; omega
  · rename_i h
    rw [ksGo_good]
    constructor
    · intro h1; exact ⟨fun i k hk => by simpa using h1 i k hk, by omega⟩
    · rintro ⟨h1, _⟩ i k hk; simpa using h1 i k hk
theorem Good.take {L : List Kd} (h : Good L) (i : Nat) : Good (L.take i) := fun j k hk => by
  rw [List.getElem?_take] at hk
  split at hk
  · rename_i hlt
    have := h j k hk
    rw [List.take_take]
    rwa [Nat.min_eq_left (by omega)]
  · cases hk
theorem Good.right {L : List Kd} (h : Good L) : Right L := by
  revert h
  refine snoc_ind (P := fun L => Good L → Right L) ?_ ?_ L
  · intro _; trivial
  · intro A k ih h
    have h1 : Good A := by
      have := h.take A.length
      simpa using this
    have h2 := h A.length k (by simp)
    simp at h2
    exact kErr_right (ih h1) h2
theorem Good.small {L : List Kd} (h : Good L) : Small L := fun k hk => by
  obtain ⟨i, hi⟩ := List.mem_iff_getElem?.1 hk
  exact (kErr_zero (h i k hi)).2.2.1
theorem Good.fields {L : List Kd} (h : Good L) {i : Nat} {k : Kd} (hk : L[i]? = some k) : ∃ l, fieldsOf (kinOf (L.take (i + 1))) = some l ∧ l.length ≤ 8 := by
  obtain ⟨_, _, _, _, _, l, h1, h2⟩ := kErr_zero (h i k hk)
  exact ⟨l, by rw [takeK hk]; exact h1, h2⟩
theorem back_sub (r : List Kd) : ∀ ns, (back r ns).Sublist r := by
  induction r with
  | nil => intro ns; exact List.Sublist.slnil
  | cons k r ih =>
    intro ns
    unfold back
    split
    · exact (ih _).cons_cons _
    · exact (ih _).cons _
theorem kinOf_sub (L : List Kd) : (∀ k ∈ kinOf L, k ∈ L) ∧ (kinOf L).length ≤ L.length := by
  unfold kinOf
  split
  · simp
  · rename_i k hk
    have h := back_sub L.reverse [k.nm]
    exact ⟨fun x hx => by simpa using h.subset (by simpa using hx), by simpa using h.length_le⟩
theorem small_fs {K : List Kd} (h : Small K) : (K.flatMap Kd.fs).length ≤ K.length * 8 := by
  induction K with
  | nil => simp
  | cons k r ih =>
    have h1 := (h k (by simp)).2
    have h2 := ih (fun x hx => h x (by simp [hx]))
    simp only [List.flatMap_cons, List.length_append, List.length_cons]
    omega

end Go.Proofs.YtkmkhadacppdnaaGreatDoor

/-
  copy between slices whose elements have several cells; a row with one element more: laws of no program.
-/
namespace Go.Proofs.YtkmkhadacppdnaaGreatDoor
open Go.RowKit Go.Lib
set_option linter.unusedVariables false
set_option linter.unusedSimpArgs false

theorem run_copy_rowN {P : Program} (w : World) (dT sT ty elem : TypeId) (size g o dLen dCap : Nat) (a : Addr) (sLen sCap : Nat) (cur : Array Value) (t : TypeId) (cs : List Value) (k : Nat)
    (hu : P.underlying dT = some (.slice elem)) (hs : (P.info? elem).map (·.size) = some size)
    (hg : w.heap[g]? = some (.cells cur t (0, 0))) (hk : Nat.min sLen dLen = k) (hn : cs.length = k * size)
    (hsrc : ∀ j v, cs[j]? = some v → w.cell? (a.add j) = some v) (hfit : o + cs.length ≤ cur.size) (h1 : ∀ v ∈ cs, v.oneCell' = true) :
    (Builtin.copy_ #[dT, sT] ty #[.slice (some ⟨g, o, none⟩) dLen dCap, .slice (some a) sLen sCap]).run P w =
      .ok (goInt k) (w.setRow g (cur.toList.take o ++ cs ++ cur.toList.drop (o + cs.length)).toArray) := by
  have hl := run_loadCells_list (P := P) w a cs hsrc
  have hst := run_storeCells_at P g o t cs 0 cur w hg (by simpa using hfit) h1
  cases hq : P.info? elem with
  | none => simp [hq] at hs
  | some i =>
    have hi : i.size = size := by simpa [hq] using hs
    simp [Builtin.copy_, run_underlying hu, Builtin.lenOf, Builtin.firstCells, sizeOf, typeInfo, hq, hi, hk, ← hn, hl, hst]

theorem wp_copy_runN {P : Program} (w : World) {o : Oper} {a : Act} {K : Act → World → Prop} {Q : Exit → Act → World → Prop} (d s : Operand) (t t' : TypeId)
    (ho : o.op = .call { callee := .builtin .copy, args := #[d, s], argTypes := #[t, t'] }) (v u : Value) (hd : a.eval d = v) (hs : a.eval s = u) {v' : Value} {w' : World}
    (hr : (Builtin.copy_ #[t, t'] o.type #[v, u]).run P w = .ok v' w') (h : K (a.put o.dst v') w') : o.wp P a w K Q := by
  unfold Oper.wp execOp
  simp only [ho, resolve, invoke, builtin, Sem.run_bind, Sem.run_pure, Result.andThen_ok, List.map_toArray, List.map_cons, List.map_nil, hd, hs, hr]
  exact h
theorem wpList_copy_runN {P : Program} (w : World) {ops : Array Oper} {rest : List Oper} {o : Oper} {a : Act} {Q : Exit → Act → World → Prop} (hgd : o.guard = none) (d s : Operand) (t t' : TypeId)
    (ho : o.op = .call { callee := .builtin .copy, args := #[d, s], argTypes := #[t, t'] }) (v u : Value) (hd : a.eval d = v) (hs : a.eval s = u) {v' : Value} {w' : World}
    (hr : (Builtin.copy_ #[t, t'] o.type #[v, u]).run P w = .ok v' w') (h : wpList P ops Q rest (a.put o.dst v') w') : wpList P ops Q (o :: rest) a w :=
  wpList_plain hgd fun _ hK => wp_copy_runN w d s t t' ho v u hd hs hr (hK _ _ h)
theorem step_copy_runN {P : Program} {ops : Array Oper} {o : Oper} {a : Act} {w : World} {K : Act → World → Prop} {Q : Exit → Act → World → Prop} {E : Prop}
    (hg : o.guard = none) (d x : Operand) (dT sT : TypeId) (hop : o.op = Op.call { callee := Callee.builtin Builtin.copy, args := #[d, x], argTypes := #[dT, sT] })
    (v u : Value) (hd : a.eval d = v) (hx : a.eval x = u) {v' : Value} {w' : World} (hr : (Builtin.copy_ #[dT, sT] o.type #[v, u]).run P w = .ok v' w') (hK : K (a.put o.dst v') w') :
    if Region.wanted o (yielded ops a.tmps) = true then Oper.wp P o a w K Q else E := by
  have hw : Region.wanted o (yielded ops a.tmps) = true := by simp [Region.wanted, hg]
  rw [if_pos hw]
  exact wp_copy_runN w d x dT sT hop v u hd hx hr hK

/-- The row behind one copy. -/
def lay (l : List Value) (o : Nat) (cs : List Value) : List Value := l.take o ++ cs ++ l.drop (o + cs.length)
theorem lay_len {l : List Value} {o : Nat} {cs : List Value} (h : o + cs.length ≤ l.length) : (lay l o cs).length = l.length := by simp [lay]; omega
/-- Room is there: what stands behind moves up, then the new one is laid. -/
theorem lay_room (l xs ys zs new : List Value) (hl : l = xs ++ ys ++ zs) (hz : new.length ≤ zs.length) :
    (lay (lay l (xs.length + new.length) ys) xs.length new).take (xs.length + new.length + ys.length) = xs ++ new ++ ys := by
  subst hl
  have e1 : (lay (xs ++ ys ++ zs) (xs.length + new.length) ys) = (xs ++ (ys ++ zs)).take (xs.length + new.length) ++ (ys ++ (xs ++ (ys ++ zs)).drop (xs.length + new.length + ys.length)) := by simp [lay]
  obtain ⟨u, hu, hul⟩ : ∃ u, (xs ++ (ys ++ zs)).take (xs.length + new.length) = xs ++ u ∧ u.length = new.length := ⟨(ys ++ zs).take new.length, by rw [List.take_append, List.take_of_length_le (by omega)]; congr 2; omega, by simp; omega⟩
  obtain ⟨t, ht⟩ : ∃ t, (xs ++ (ys ++ zs)).drop (xs.length + new.length + ys.length) = t := ⟨_, rfl⟩
  rw [e1, hu, ht]
  have e3 : lay (xs ++ u ++ (ys ++ t)) xs.length new = (xs ++ new ++ ys) ++ t := by
    unfold lay
    have h1 : (xs ++ u ++ (ys ++ t)).take xs.length = xs := by rw [show xs ++ u ++ (ys ++ t) = xs ++ (u ++ (ys ++ t)) by simp]; exact List.take_left
    have h2 : (xs ++ u ++ (ys ++ t)).drop (xs.length + new.length) = ys ++ t := List.drop_left' (by simp; omega)
    rw [h1, h2]; simp
  rw [e3]
  exact List.take_left' (by simp; omega)
/-- A new row: the new one, then what stood behind. -/
theorem lay_grow (xs ys new zs : List Value) (hz : zs.length = new.length + ys.length) (t : List Value) :
    (lay (lay (xs ++ zs ++ t) xs.length new) (xs.length + new.length) ys).take (xs.length + new.length + ys.length) = xs ++ new ++ ys := by
  have e1 : lay (xs ++ zs ++ t) xs.length new = (xs ++ new) ++ (zs ++ t).drop new.length := by
    unfold lay
    rw [show xs ++ zs ++ t = xs ++ (zs ++ t) by simp, List.take_left, List.drop_append, List.drop_of_length_le (by omega)]
    simp
  rw [e1]
  unfold lay
  rw [show (xs ++ new ++ (zs ++ t).drop new.length).take (xs.length + new.length) = xs ++ new from List.take_left' (by simp)]
  exact List.take_left' (by simp; omega)

end Go.Proofs.YtkmkhadacppdnaaGreatDoor
