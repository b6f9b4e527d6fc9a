/-
  Fields in the order of their names, one more put in; and what is known of kinds that are right: mathematics.
-/
import Derived.Test.YtgjlonilbhlneaaDoorKinC
import Derived.Lib.Bytealg
namespace Go.Proofs.YtgjlonilbhlneaaDoor
open Go.RowKit
set_option linter.unusedVariables false
set_option linter.unusedSimpArgs false

theorem cmpB_range (a b : List UInt8) : Lib.compareBytes a b = -1 ∨ Lib.compareBytes a b = 0 ∨ Lib.compareBytes a b = 1 := by
  induction a generalizing b with
  | nil => cases b <;> simp [Lib.compareBytes]
  | cons c r ih =>
    cases b with
    | nil => simp [Lib.compareBytes]
    | cons d q =>
      simp only [Lib.compareBytes]
      split
      · simp
      · split
        · simp
        · exact ih q
theorem cmpB_anti (a b : List UInt8) : Lib.compareBytes b a = -Lib.compareBytes a b := by
  induction a generalizing b with
  | nil => cases b <;> simp [Lib.compareBytes]
  | cons c r ih =>
    cases b with
    | nil => simp [Lib.compareBytes]
    | cons d q =>
      simp only [Lib.compareBytes]
      by_cases h1 : c < d
      · have h2 : ¬ d < c := by rw [UInt8.lt_iff_toNat_lt] at *; omega
        simp [h1, h2]
      · by_cases h2 : d < c
        · simp [h1, h2]
        · simp [h1, h2, ih q]
theorem cmpB_zero (a b : List UInt8) : Lib.compareBytes a b = 0 ↔ a = b := by
  induction a generalizing b with
  | nil => cases b <;> simp [Lib.compareBytes]
  | cons c r ih =>
    cases b with
    | nil => simp [Lib.compareBytes]
    | cons d q =>
      simp only [Lib.compareBytes]
      by_cases h1 : c < d
      · have hne : ¬ c = d := by intro e; rw [e, UInt8.lt_iff_toNat_lt] at h1; omega
        simp [h1, hne]
      · by_cases h2 : d < c
        · have hne : ¬ c = d := by intro e; rw [e, UInt8.lt_iff_toNat_lt] at h2; omega
          simp [h1, h2, hne]
        · have he : c = d := by rw [UInt8.lt_iff_toNat_lt] at h1 h2; exact UInt8.toNat_inj.1 (by omega)
          simp [h1, h2, ih q, he]
theorem cmpB_trans (a b c : List UInt8) (h1 : Lib.compareBytes a b ≤ 0) (h2 : Lib.compareBytes b c ≤ 0) : Lib.compareBytes a c ≤ 0 := by
  induction a generalizing b c with
  | nil => cases c <;> simp [Lib.compareBytes]
  | cons x r ih =>
    cases b with
    | nil => simp [Lib.compareBytes] at h1
    | cons y q =>
      cases c with
      | nil => simp [Lib.compareBytes] at h2
      | cons z p =>
        simp only [Lib.compareBytes] at h1 h2 ⊢
        simp only [UInt8.lt_iff_toNat_lt] at *
        by_cases a1 : x.toNat < y.toNat
        · by_cases b1 : y.toNat < z.toNat
          · rw [if_pos (by omega)]; decide
          · by_cases b2 : z.toNat < y.toNat
            · rw [if_neg b1, if_pos b2] at h2; simp at h2
            · rw [if_pos (by omega)]; decide
        · by_cases a2 : y.toNat < x.toNat
          · rw [if_neg a1, if_pos a2] at h1; simp at h1
          · rw [if_neg a1, if_neg a2] at h1
            by_cases b1 : y.toNat < z.toNat
            · rw [if_pos (by omega)]; decide
            · by_cases b2 : z.toNat < y.toNat
              · rw [if_neg b1, if_pos b2] at h2; simp at h2
              · rw [if_neg b1, if_neg b2] at h2
                rw [if_neg (by omega), if_neg (by omega)]
                exact ih q p h1 h2
theorem less_cmp (a : List UInt8) : ∀ b, Op.bytesLess a b = decide (Lib.compareBytes a b < 0) := by
  induction a with
  | nil => intro b; cases b <;> simp [Op.bytesLess, Lib.compareBytes]
  | cons c r ih =>
    intro b
    cases b with
    | nil => simp [Op.bytesLess, Lib.compareBytes]
    | cons d q =>
      simp only [Op.bytesLess, Lib.compareBytes]
      by_cases h1 : c < d
      · simp [h1]
      · by_cases h2 : d < c
        · have hne : ¬ c = d := by intro e; rw [e, UInt8.lt_iff_toNat_lt] at h2; omega
          simp [h1, h2, hne]
        · have he : c = d := by rw [UInt8.lt_iff_toNat_lt] at h1 h2; exact UInt8.toNat_inj.1 (by omega)
          simp [h1, h2, he, ih q]
theorem less_irr (a : Nm) : Op.bytesLess a a = false := by
  rw [less_cmp, (cmpB_zero a a).2 rfl]; decide
theorem less_trans {a b c : Nm} (h1 : Op.bytesLess a b = true) (h2 : Op.bytesLess b c = true) : Op.bytesLess a c = true := by
  rw [less_cmp] at *
  have g1 : Lib.compareBytes a b < 0 := by simpa using h1
  have g2 : Lib.compareBytes b c < 0 := by simpa using h2
  have h3 := cmpB_trans a b c (by omega) (by omega)
  rcases Int.lt_or_eq_of_le h3 with h | h
  · simpa using h
  · have e := (cmpB_zero _ _).1 h
    subst e
    have := cmpB_anti a b
    omega
theorem less_tri {a b : Nm} (h1 : Op.bytesLess a b = false) (h2 : ¬ a = b) : Op.bytesLess b a = true := by
  rw [less_cmp] at *
  have g1 : ¬ Lib.compareBytes a b < 0 := by simpa using h1
  have g2 : ¬ Lib.compareBytes a b = 0 := fun e => h2 ((cmpB_zero _ _).1 e)
  have := cmpB_anti a b
  have : Lib.compareBytes b a < 0 := by omega
  simpa using this
theorem less_asym {a b : Nm} (h1 : Op.bytesLess a b = true) : Op.bytesLess b a = false := by
  cases h : Op.bytesLess b a
  · rfl
  · have := less_trans h1 h
    rw [less_irr] at this
    exact absurd this (by decide)

/-- In the order of their names. -/
def Srt (l : List Fd) : Prop := l.Pairwise fun a b => Op.bytesLess a.nm b.nm = true
theorem lo_le (nm : Nm) (l : List Fd) : lo nm l ≤ l.length := by
  induction l with
  | nil => exact Nat.le_refl _
  | cons g r ih => unfold lo; split <;> simp <;> omega
theorem lo_spec (nm : Nm) {l : List Fd} (h : Srt l) : ∀ i g, l[i]? = some g → (i < lo nm l ↔ Op.bytesLess g.nm nm = true) := by
  induction l with
  | nil => intro i g hg; simp at hg
  | cons x r ih =>
    obtain ⟨h1, h2⟩ := List.pairwise_cons.1 h
    intro i g hg
    by_cases hx : Op.bytesLess x.nm nm = true
    · have e : lo nm (x :: r) = lo nm r + 1 := by simp [lo, hx]
      rw [e]
      cases i with
      | zero => simp at hg; subst hg; simp [hx]
      | succ i =>
        have := ih h2 i g (by simpa using hg)
        rw [← this]; omega
    · have e : lo nm (x :: r) = 0 := by simp [lo, hx]
      rw [e]
      refine ⟨fun h => absurd h (by omega), fun hl => ?_⟩
      cases i with
      | zero => simp at hg; subst hg; exact absurd hl hx
      | succ i =>
        have hm : g ∈ r := List.mem_of_getElem? (by simpa using hg)
        exact absurd (less_trans (h1 g hm) hl) hx
theorem insF_spec {all : List Fd} (h : Srt all) (f : Fd) {r : List Fd} (hr : insF all f = some r) : Srt r ∧ (∀ x, x ∈ r ↔ x ∈ all ∨ x = f) ∧ r.length ≤ all.length + 1 := by
  have hput : (∀ g, all[lo f.nm all]? = some g → ¬ g.nm = f.nm) → Srt (all.take (lo f.nm all) ++ f :: all.drop (lo f.nm all)) ∧ (∀ x, x ∈ all.take (lo f.nm all) ++ f :: all.drop (lo f.nm all) ↔ x ∈ all ∨ x = f) ∧ (all.take (lo f.nm all) ++ f :: all.drop (lo f.nm all)).length ≤ all.length + 1 := by
    intro hne
    refine ⟨?_, fun x => ?_, ?_⟩
    · have hsp := h
      unfold Srt at hsp ⊢
      rw [← List.take_append_drop (lo f.nm all) all] at hsp
      obtain ⟨p1, p2, p3⟩ := List.pairwise_append.1 hsp
      have ha : ∀ a ∈ all.take (lo f.nm all), Op.bytesLess a.nm f.nm = true := by
        intro a hm
        obtain ⟨j, hj⟩ := List.mem_iff_getElem?.1 hm
        rw [List.getElem?_take] at hj
        split at hj
        · rename_i hlt
          exact (lo_spec f.nm h j a hj).1 hlt
        · cases hj
      have hb : ∀ b ∈ all.drop (lo f.nm all), Op.bytesLess f.nm b.nm = true := by
        intro b hm
        obtain ⟨j, hj⟩ := List.mem_iff_getElem?.1 hm
        rw [List.getElem?_drop] at hj
        have h1 : ¬ Op.bytesLess b.nm f.nm = true := fun e => by
          have := (lo_spec f.nm h _ b hj).2 e; omega
        refine less_tri (by simpa using h1) (fun e => ?_)
        cases j with
        | zero => exact hne b (by simpa using hj) e
        | succ j =>
          obtain ⟨g, hg⟩ : ∃ g, all[lo f.nm all]? = some g := ⟨all[lo f.nm all]'(by have := (List.getElem?_eq_some_iff.1 hj).1; omega), by simp⟩
          have h2 : ¬ Op.bytesLess g.nm f.nm = true := fun e => by
            have := (lo_spec f.nm h _ g hg).2 e; omega
          have h3 : Op.bytesLess g.nm b.nm = true := by
            have hlt := (List.getElem?_eq_some_iff.1 hj).1
            have := List.pairwise_iff_getElem.1 h (lo f.nm all) (lo f.nm all + (j + 1)) (by omega) hlt (by omega)
            rw [(List.getElem?_eq_some_iff.1 hg).2, (List.getElem?_eq_some_iff.1 hj).2] at this
            exact this
          rw [e] at h3
          exact h2 h3
      refine List.pairwise_append.2 ⟨p1, List.pairwise_cons.2 ⟨hb, p2⟩, fun a hm b hmb => ?_⟩
      rcases List.mem_cons.1 hmb with rfl | hmb
      · exact ha a hm
      · exact p3 a hm b hmb
    · have : x ∈ all ↔ x ∈ all.take (lo f.nm all) ∨ x ∈ all.drop (lo f.nm all) := by
        rw [← List.mem_append, List.take_append_drop]
      rw [this]; simp only [List.mem_append, List.mem_cons]
      constructor
      · rintro (h | h | h)
        · exact .inl (.inl h)
        · exact .inr h
        · exact .inl (.inr h)
      · rintro ((h | h) | h)
        · exact .inl h
        · exact .inr (.inr h)
        · exact .inr (.inl h)
    · simp; omega
  unfold insF at hr
  split at hr
  · rename_i g hg
    split at hr
    · split at hr
      · rename_i h1 h2
        have e := (feq_iff g f).1 h2
        obtain rfl := Option.some.inj hr
        refine ⟨h, fun x => ⟨fun hx => .inl hx, fun hx => ?_⟩, by omega⟩
        rcases hx with hx | rfl
        · exact hx
        · rw [← e]; exact List.mem_of_getElem? hg
      · cases hr
    · rename_i h1
      obtain rfl := Option.some.inj hr
      exact hput (fun g' hg' => by rw [hg] at hg'; obtain rfl := Option.some.inj hg'; simpa using h1)
  · rename_i hg
    obtain rfl := Option.some.inj hr
    exact hput (fun g' hg' => by rw [hg] at hg'; cases hg')
theorem fOf_spec (fs : List Fd) : ∀ {all r : List Fd}, Srt all → fOf all fs = some r → Srt r ∧ (∀ x, x ∈ r ↔ x ∈ all ∨ x ∈ fs) ∧ r.length ≤ all.length + fs.length := by
  induction fs with
  | nil =>
    intro all r h hr
    obtain rfl := Option.some.inj hr
    exact ⟨h, fun x => by simp, by simp⟩
  | cons f fs ih =>
    intro all r h hr
    unfold fOf at hr
    split at hr
    · rename_i a ha
      obtain ⟨s1, m1, l1⟩ := insF_spec h f ha
      obtain ⟨s2, m2, l2⟩ := ih s1 hr
      refine ⟨s2, fun x => ?_, by simp; omega⟩
      rw [m2, m1]; simp [or_assoc]
    · cases hr
theorem fOf_app (a b : List Fd) : ∀ all, fOf all (a ++ b) = (fOf all a).bind fun r => fOf r b := by
  induction a with
  | nil => intro all; rfl
  | cons f a ih =>
    intro all
    simp only [List.cons_append, fOf]
    cases insF all f with
    | none => rfl
    | some x => exact ih x
theorem srt_nil : Srt [] := List.Pairwise.nil

/-- Few enough of each. -/
def Small (L : List Kd) : Prop := ∀ k ∈ L, k.of.length ≤ 4 ∧ k.fs.length ≤ 8
/-- Names are not too long for memory. -/
def SzK (L : List Kd) : Prop := ∀ k ∈ L, k.nm.length ≤ maxLen ∧ ∀ f ∈ k.fs, f.nm.length ≤ maxLen
theorem idxK_none {nm : Nm} {L : List Kd} {k : Nat} (h : idxK nm L k = -1) : ∀ x ∈ L, x.nm ≠ nm := by
  induction L generalizing k with
  | nil => intro x hx; simp at hx
  | cons p r ih =>
    intro x hx
    by_cases hp : (p.nm == nm) = true
    · unfold idxK at h; rw [if_pos hp] at h; omega
    · have e : idxK nm (p :: r) k = idxK nm r (k + 1) := by
        conv => lhs; unfold idxK
        rw [if_neg hp]
      rw [e] at h
      rcases List.mem_cons.1 hx with rfl | hx
      · simpa using hp
      · exact ih h x hx
theorem idxK_has {nm : Nm} {L : List Kd} (h : ¬ idxK nm L 0 = -1) : ∃ (j : Nat) (q : Kd), idxK nm L 0 = (j : Int) ∧ L[j]? = some q ∧ q.nm = nm := by
  obtain ⟨j, q, h1, h2, h3⟩ := (idxK_spec nm L 0).resolve_left h
  exact ⟨j, q, by simpa using h1, h2, h3⟩
theorem idxK_neg_iff {nm : Nm} {L : List Kd} : idxK nm L 0 = -1 ↔ ∀ x ∈ L, x.nm ≠ nm := by
  refine ⟨idxK_none, fun h => ?_⟩
  rcases idxK_spec nm L 0 with h1 | ⟨j, q, h1, h2, h3⟩
  · exact h1
  · exact absurd h3 (h q (List.mem_of_getElem? h2))
theorem oChk_zero (A : List Kd) (of : List Nm) : ∀ seen, oChk A seen of = 0 → ∀ n ∈ of, ∃ x ∈ A, x.nm = n := by
  induction of with
  | nil => intro seen h n hn; simp at hn
  | cons m r ih =>
    intro seen h n hn
    unfold oChk at h
    split at h
    · exact absurd h (by decide)
    · rename_i h1
      split at h
      · exact absurd h (by decide)
      · rcases List.mem_cons.1 hn with rfl | hn
        · obtain ⟨j, q, _, h2, h3⟩ := idxK_has h1
          exact ⟨q, List.mem_of_getElem? h2, h3⟩
        · exact ih _ h n hn
theorem kErr_zero {A : List Kd} {k : Kd} (h : kErr A k = 0) : nErr k.nm = 0 ∧ idxK k.nm A 0 = -1 ∧ (k.of.length ≤ 4 ∧ k.fs.length ≤ 8) ∧ oChk A [] k.of = 0 ∧ fChk none k.fs = 0 ∧ ∃ l, fieldsOf (kinOf (A ++ [k])) = some l ∧ l.length ≤ 8 := by
  unfold kErr at h
  split at h
  · rename_i h1
    split at h
    · rename_i h2
      split at h
      · exact absurd h (by decide)
      · rename_i h3
        split at h
        · rename_i h4
          split at h
          · rename_i h5
            refine ⟨h1, h2, by omega, h4, h5, ?_⟩
            cases e : fieldsOf (kinOf (A ++ [k])) with
            | none => rw [e] at h; exact absurd h (by decide)
            | some l =>
              rw [e] at h
              refine ⟨l, rfl, ?_⟩
              unfold aErr at h
              simp only at h
              split at h
              · exact absurd h (by decide)
              · omega
          · rename_i h5; exact absurd h h5
        · rename_i h4; exact absurd h h4
    · exact absurd h (by decide)
  · rename_i h1; exact absurd h h1
theorem kErr_right {A : List Kd} {k : Kd} (hA : Right A) (h : kErr A k = 0) : Right (A ++ [k]) := by
  obtain ⟨h1, h2, h3, h4, h5, _⟩ := kErr_zero h
  exact right_snoc.2 ⟨idxK_none h2, oChk_zero A k.of [] h4, hA⟩
/-- All that is known of kinds without a fault. -/
def Good (L : List Kd) : Prop := ∀ i k, L[i]? = some k → kErr (L.take i) k = 0
theorem ksGo_good (L : List Kd) : ∀ A, (ksGo A L).2 = 0 ↔ ∀ i k, L[i]? = some k → kErr (A ++ L.take i) k = 0 := by
  induction L with
  | nil => intro A; simp [ksGo]
  | cons x r ih =>
    intro A
    unfold ksGo
    split
    · rename_i h
      rw [ih]
      constructor
      · intro h1 i k hk
        cases i with
        | zero => simp at hk; subst hk; simpa using h
        | succ i => have := h1 i k (by simpa using hk); simpa using this
      · intro h1 i k hk
        have := h1 (i + 1) k (by simpa using hk)
        simpa using this
    · rename_i h
      constructor
      · intro h1; exact absurd h1 h
      · intro h1; exact absurd (by simpa using h1 0 x (by simp)) h
theorem ksErr_good {L : List Kd} : (ksErr L).2 = 0 ↔ Good L ∧ L.length ≤ 12 := by
  unfold ksErr
  split
  · rename_i h
    constructor
    · intro h1; exact absurd h1 (by decide)
    · intro h1; omega
  · rename_i h
    rw [ksGo_good]
    constructor
    · intro h1; exact ⟨fun i k hk => by simpa using h1 i k hk, by omega⟩
    · rintro ⟨h1, _⟩ i k hk; simpa using h1 i k hk
theorem Good.take {L : List Kd} (h : Good L) (i : Nat) : Good (L.take i) := fun j k hk => by
  rw [List.getElem?_take] at hk
  split at hk
  · rename_i hlt
    have := h j k hk
    rw [List.take_take]
    rwa [Nat.min_eq_left (by omega)]
  · cases hk
theorem Good.right {L : List Kd} (h : Good L) : Right L := by
  revert h
  refine snoc_ind (P := fun L => Good L → Right L) ?_ ?_ L
  · intro _; trivial
  · intro A k ih h
    have h1 : Good A := by
      have := h.take A.length
      simpa using this
    have h2 := h A.length k (by simp)
    simp at h2
    exact kErr_right (ih h1) h2
theorem Good.small {L : List Kd} (h : Good L) : Small L := fun k hk => by
  obtain ⟨i, hi⟩ := List.mem_iff_getElem?.1 hk
  exact (kErr_zero (h i k hi)).2.2.1
theorem Good.fields {L : List Kd} (h : Good L) {i : Nat} {k : Kd} (hk : L[i]? = some k) : ∃ l, fieldsOf (kinOf (L.take (i + 1))) = some l ∧ l.length ≤ 8 := by
  obtain ⟨_, _, _, _, _, l, h1, h2⟩ := kErr_zero (h i k hk)
  exact ⟨l, by rw [takeK hk]; exact h1, h2⟩
theorem back_sub (r : List Kd) : ∀ ns, (back r ns).Sublist r := by
  induction r with
  | nil => intro ns; exact List.Sublist.slnil
  | cons k r ih =>
    intro ns
    unfold back
    split
    · exact (ih _).cons_cons _
    · exact (ih _).cons _
theorem kinOf_sub (L : List Kd) : (∀ k ∈ kinOf L, k ∈ L) ∧ (kinOf L).length ≤ L.length := by
  unfold kinOf
  split
  · simp
  · rename_i k hk
    have h := back_sub L.reverse [k.nm]
    exact ⟨fun x hx => by simpa using h.subset (by simpa using hx), by simpa using h.length_le⟩
theorem small_fs {K : List Kd} (h : Small K) : (K.flatMap Kd.fs).length ≤ K.length * 8 := by
  induction K with
  | nil => simp
  | cons k r ih =>
    have h1 := (h k (by simp)).2
    have h2 := ih (fun x hx => h x (by simp [hx]))
    simp only [List.flatMap_cons, List.length_append, List.length_cons]
    omega

end Go.Proofs.YtgjlonilbhlneaaDoor
