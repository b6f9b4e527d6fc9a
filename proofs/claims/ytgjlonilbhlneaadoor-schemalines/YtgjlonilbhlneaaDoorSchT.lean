/-
  Mathematics of a schema's text: what a right schema's words are, how long its lines are, and how many of them there are.
-/
import Derived.Test.YtgjlonilbhlneaaDoorSchR
namespace Go.Proofs.YtgjlonilbhlneaaDoor
open Go.RowKit
set_option linter.unusedVariables false
set_option linter.unusedSimpArgs false

theorem fBad_zero {o : Option Fd} {f : Fd} (h : fBad o f = 0) : nErr f.nm = 0 ∧ (f.t = 1 ∨ f.t = 2 ∨ f.t = 3) := by
  unfold fBad at h
  split at h
  · rename_i h1
    split at h
    · rename_i h2; exact ⟨h1, h2⟩
    · exact absurd h (by decide)
  · rename_i h1; exact absurd h h1
theorem fChk_all (fs : List Fd) : ∀ o, fChk o fs = 0 → ∀ f ∈ fs, nErr f.nm = 0 ∧ (f.t = 1 ∨ f.t = 2 ∨ f.t = 3) := by
  induction fs with
  | nil => intro o _ f hf; simp at hf
  | cons g r ih =>
    intro o h f hf
    by_cases h0 : fBad o g = 0
    · rw [fChk_step h0] at h
      rcases List.mem_cons.1 hf with rfl | hf
      · exact fBad_zero h0
      · exact ih _ h f hf
    · rw [fChk_stop h0] at h; exact absurd h h0
theorem good_name {L : List Kd} (h : Good L) {k : Kd} (hk : k ∈ L) : nErr k.nm = 0 := by
  obtain ⟨i, hi⟩ := List.mem_iff_getElem?.1 hk
  exact (kErr_zero (h i k hi)).1
theorem good_of {L : List Kd} (h : Good L) {k : Kd} (hk : k ∈ L) : ∀ n ∈ k.of, nErr n = 0 := fun n hn => by
  obtain ⟨i, hi⟩ := List.mem_iff_getElem?.1 hk
  obtain ⟨x, hx, rfl⟩ := oChk_zero _ _ _ (kErr_zero (h i k hi)).2.2.2.1 n hn
  exact good_name h (List.mem_of_mem_take hx)
theorem good_fs {L : List Kd} (h : Good L) {k : Kd} (hk : k ∈ L) : ∀ f ∈ k.fs, nErr f.nm = 0 ∧ (f.t = 1 ∨ f.t = 2 ∨ f.t = 3) := by
  obtain ⟨i, hi⟩ := List.mem_iff_getElem?.1 hk
  exact fChk_all _ _ (kErr_zero (h i k hi)).2.2.2.2.1
theorem good_ok {L : List Kd} (h : Good L) {k : Kd} (hk : k ∈ L) : KOk k :=
  ⟨(h.small k hk).1, (h.small k hk).2, fun n hn => name_len (good_of h hk n hn), fun f hf => ⟨name_len (good_fs h hk f hf).1, (good_fs h hk f hf).2⟩⟩
theorem tyW_len (t : Int) : (tyW t).length ≤ 4 := by
  unfold tyW
  split
  · decide
  · split
    · decide
    · split <;> decide
theorem fText_len (f : Fd) (h : f.nm.length ≤ 8) : (fText f).length ≤ 14 := by
  have h1 := tyW_len f.t
  have h2 : (if f.key = true then [42] else if f.must = true then [33] else ([] : Nm)).length ≤ 1 := by
    split
    · decide
    · split <;> decide
  unfold fText
  simp only [List.length_append, List.length_cons, List.length_nil]
  omega
theorem kWords_len (k : Kd) (h : KOk k) (hn : k.nm.length ≤ 8) : 0 < (kWords k).length ∧ (kWords k).length ≤ 12 ∧ ∀ x ∈ kWords k, x.length ≤ 36 := by
  have h1 := h.of4
  have h2 := h.fs8
  have h3 := join_len k.of [44] 8 h.nms
  simp only [List.length_cons, List.length_nil] at h3
  unfold kWords
  refine ⟨by simp, ?_, ?_⟩
  · by_cases e : k.of = [] <;> simp [e] <;> omega
  · intro x hx
    rw [List.mem_append, List.mem_append] at hx
    rcases hx with (hx | hx) | hx
    · rcases List.mem_cons.1 hx with rfl | hx
      · decide
      · have : x = k.nm := by simpa using hx
        rw [this]; omega
    · by_cases e : k.of = []
      · rw [if_pos e] at hx; simp at hx
      · rw [if_neg e] at hx
        rcases List.mem_cons.1 hx with rfl | hx
        · decide
        · have : x = Lib.join k.of [44] := by simpa using hx
          rw [this]; omega
    · obtain ⟨f, hf, rfl⟩ := List.mem_map.1 hx
      have := fText_len f (h.fds f hf).1
      omega
theorem kLine_len (k : Kd) (h : KOk k) (hn : k.nm.length ≤ 8) : (Lib.join (kWords k) [32]).length ≤ 444 := by
  obtain ⟨_, h1, h2⟩ := kWords_len k h hn
  have := join_len (kWords k) [32] 36 h2
  simp only [List.length_cons, List.length_nil] at this
  omega
/-- What a bond must have. -/
structure BOk (x : Bd) : Prop where
  nm : nErr x.nm = 0
  fr : nErr x.fr = 0
  to : nErr x.to = 0
  rg : inR x.mn x.mx = true
theorem good_bond {L : List Kd} {B : List Bd} (h : Good L) (hb : GoodB L B) {x : Bd} (hx : x ∈ B) : BOk x := by
  obtain ⟨i, hi⟩ := List.mem_iff_getElem?.1 hx
  obtain ⟨h1, _, h3, h4, h5⟩ := bErr_zero (hb i x hi)
  obtain ⟨k1, hk1, e1⟩ := hasK_iff.1 h3
  obtain ⟨k2, hk2, e2⟩ := hasK_iff.1 h4
  exact ⟨h1, by rw [← e1]; exact good_name h hk1, by rw [← e2]; exact good_name h hk2, h5⟩
theorem bWords_len (x : Bd) (h : BOk x) : ∀ y ∈ bWords x, y.length ≤ 21 := by
  obtain ⟨r1, r2, r3⟩ := inR_iff.1 h.rg
  have l1 := name_len h.nm
  have l2 := name_len h.fr
  have l3 := name_len h.to
  have l4 := Lib.itoa_length_le x.mn (by omega) (by omega)
  have l5 : (mxW x.mx).length ≤ 21 := by
    unfold mxW
    split
    · decide
    · exact Lib.itoa_length_le x.mx (by omega) (by omega)
  intro y hy
  unfold bWords at hy
  simp only [List.mem_cons, List.not_mem_nil, or_false] at hy
  rcases hy with rfl | rfl | rfl | rfl | rfl | rfl
  · decide
  · omega
  · omega
  · omega
  · exact l4
  · exact l5
theorem bLine_len (x : Bd) (h : BOk x) : (Lib.join (bWords x) [32]).length ≤ 132 := by
  have := join_len (bWords x) [32] 21 (bWords_len x h)
  simp only [List.length_cons, List.length_nil, show (bWords x).length = 6 from rfl] at this
  omega
theorem lines_len {α : Type} (f : α → List Nm) (m : Nat) (l : List α) (h : ∀ x ∈ l, (Lib.join (f x) [32]).length ≤ m) : (l.flatMap fun x => lineL (f x)).length ≤ (m + 1) * l.length := by
  induction l with
  | nil => simp
  | cons a r ih =>
    have h1 := h a (by simp)
    have h2 := ih (fun x hx => h x (by simp [hx]))
    have h3 : (lineL (f a)).length = (Lib.join (f a) [32]).length + 1 := by unfold lineL; simp
    simp only [List.flatMap_cons, List.length_append, List.length_cons] at h2 ⊢
    rw [Nat.mul_add, Nat.mul_one]
    omega
theorem kText_take {L : List Kd} {i : Nat} {k : Kd} (h : L[i]? = some k) : kText (L.take (i + 1)) = kText (L.take i) ++ lineL (kWords k) := by
  unfold kText; rw [takeK h]; simp
theorem bText_take {B : List Bd} {i : Nat} {x : Bd} (h : B[i]? = some x) : bText (B.take (i + 1)) = bText (B.take i) ++ lineL (bWords x) := by
  unfold bText; rw [takeK h]; simp
/-- How many lines end. -/
def nl (l : Nm) : Nat := l.countP (· == 10)
theorem nl_app (a b : Nm) : nl (a ++ b) = nl a + nl b := List.countP_append
theorem nl_zero {l : Nm} (h : ∀ c ∈ l, ¬ c = 10) : nl l = 0 := by
  unfold nl; rw [List.countP_eq_zero]; intro c hc; simpa using h c hc
theorem join_mem (ws : List Nm) (sp : Nm) : ∀ c ∈ Lib.join ws sp, c ∈ sp ∨ ∃ x ∈ ws, c ∈ x := by
  unfold Lib.join
  induction ws with
  | nil => intro c hc; simp at hc
  | cons a r ih =>
    intro c hc
    cases r with
    | nil => right; exact ⟨a, by simp, by simpa using hc⟩
    | cons b r =>
      rw [List.intercalate_cons_cons] at hc
      rcases List.mem_append.1 hc with hc | hc
      · rcases List.mem_append.1 hc with hc | hc
        · right; exact ⟨a, by simp, hc⟩
        · exact .inl hc
      · rcases ih c hc with h | ⟨x, hx, hc⟩
        · exact .inl h
        · right; exact ⟨x, by simp [List.mem_cons.1 hx], hc⟩
theorem line_nl (ws : List Nm) (h : ∀ x ∈ ws, ∀ c ∈ x, ¬ c = 10) : nl (lineL ws) = 1 := by
  unfold lineL
  rw [nl_app, nl_zero]
  · rfl
  · intro c hc
    rcases join_mem ws [32] c hc with h1 | ⟨x, hx, h1⟩
    · have : c = 32 := by simpa using h1
      rw [this]; decide
    · exact h x hx c h1
theorem lines_nl {α : Type} (f : α → List Nm) (l : List α) (h : ∀ x ∈ l, nl (lineL (f x)) = 1) : nl (l.flatMap fun x => lineL (f x)) = l.length := by
  induction l with
  | nil => rfl
  | cons a r ih =>
    rw [List.flatMap_cons, nl_app, h a (by simp), ih (fun x hx => h x (by simp [hx])), List.length_cons]
    omega
theorem name_nl {l : Nm} (h : nErr l = 0) : ∀ c ∈ l, ¬ c = 10 := by
  unfold nErr at h
  split at h
  · exact absurd h (by decide)
  · split at h
    · exact absurd h (by decide)
    · split at h
      · exact absurd h (by decide)
      · rename_i h3
        intro c hc e
        apply h3
        unfold hasP
        rw [List.any_eq_true]
        exact ⟨c, hc, by rw [e]; decide⟩
theorem dec_nl (n : Nat) (h : n < 100) : ∀ c ∈ Lib.decDigits n, ¬ c = 10 := by
  have h1 : ((List.range 100).all fun n => (Lib.decDigits n).all (· != 10)) = true := by kernel_rfl
  have := List.all_eq_true.1 (List.all_eq_true.1 h1 n (List.mem_range.2 h))
  intro c hc
  simpa using this c hc
theorem itoa_nl (n : Int) (h : 0 ≤ n) (h2 : n ≤ 20) : ∀ c ∈ Lib.itoa n, ¬ c = 10 := by
  obtain ⟨i, rfl⟩ : ∃ i : Nat, n = (i : Int) := ⟨n.toNat, by omega⟩
  rw [itoa_nat]; exact dec_nl i (by omega)
theorem k_nl {L : List Kd} (h : Good L) {k : Kd} (hk : k ∈ L) : nl (lineL (kWords k)) = 1 := by
  refine line_nl _ fun x hx => ?_
  unfold kWords at hx
  rw [List.mem_append, List.mem_append] at hx
  rcases hx with (hx | hx) | hx
  · rcases List.mem_cons.1 hx with rfl | hx
    · decide
    · have : x = k.nm := by simpa using hx
      rw [this]; exact name_nl (good_name h hk)
  · by_cases e : k.of = []
    · rw [if_pos e] at hx; simp at hx
    · rw [if_neg e] at hx
      rcases List.mem_cons.1 hx with rfl | hx
      · decide
      · have : x = Lib.join k.of [44] := by simpa using hx
        rw [this]
        intro c hc
        rcases join_mem _ _ c hc with h1 | ⟨n, hn, h1⟩
        · have : c = 44 := by simpa using h1
          rw [this]; decide
        · exact name_nl (good_of h hk n hn) c h1
  · obtain ⟨f, hf, rfl⟩ := List.mem_map.1 hx
    obtain ⟨h1, h2⟩ := good_fs h hk f hf
    unfold fText
    intro c hc
    rw [List.mem_append, List.mem_append, List.mem_append] at hc
    rcases hc with ((hc | hc) | hc) | hc
    · exact name_nl h1 c hc
    · have : c = 58 := by simpa using hc
      rw [this]; decide
    · have : ∀ t : Int, (t = 1 ∨ t = 2 ∨ t = 3) → ∀ c ∈ tyW t, ¬ c = 10 := by
        rintro t (rfl | rfl | rfl) <;> decide
      exact this _ h2 c hc
    · split at hc
      · have : c = 42 := by simpa using hc
        rw [this]; decide
      · split at hc
        · have : c = 33 := by simpa using hc
          rw [this]; decide
        · simp at hc
theorem b_nl {x : Bd} (h : BOk x) : nl (lineL (bWords x)) = 1 := by
  refine line_nl _ fun y hy => ?_
  obtain ⟨r1, r2, r3⟩ := inR_iff.1 h.rg
  unfold bWords at hy
  simp only [List.mem_cons, List.not_mem_nil, or_false] at hy
  rcases hy with rfl | rfl | rfl | rfl | rfl | rfl
  · decide
  · exact name_nl h.nm
  · exact name_nl h.fr
  · exact name_nl h.to
  · exact itoa_nl _ (by omega) (by omega)
  · unfold mxW
    split
    · decide
    · exact itoa_nl _ (by omega) (by omega)
theorem text_nl {L : List Kd} {B : List Bd} (h : (sErr L B).2 = 0) : nl (sText L B) = L.length + B.length := by
  obtain ⟨h1, h2, _⟩ := sErr_good.1 h
  have hG := (ksErr_good.1 h1).1
  unfold sText kText bText
  rw [nl_app, lines_nl _ _ (fun k hk => k_nl hG hk), lines_nl _ _ (fun x hx => b_nl (good_bond hG h2 hx))]
end Go.Proofs.YtgjlonilbhlneaaDoor
