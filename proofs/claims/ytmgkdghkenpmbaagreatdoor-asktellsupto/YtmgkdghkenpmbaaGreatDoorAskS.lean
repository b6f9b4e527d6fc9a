/-
  The walks of Parse, and of Print of what is wrong; steps of the call's own as steps that lie in memory.
-/
import Derived.Test.YtmgkdghkenpmbaaGreatDoorAskR
namespace Go.Proofs.YtmgkdghkenpmbaaGreatDoor
open Go.RowKit
set_option linter.unusedVariables false
set_option linter.unusedSimpArgs false

theorem print_bad {v : Value} {M : List Sp} {w : World} (h : IsSp w v M) (hz : ∀ p ∈ M, SpSz p.st) (hM : M.length ≤ maxLen) (he : ¬ askE (M.map Sp.st) = 0) :
    Calls Tryz.prog 6 #[v] w fun e w' => e = .returned (.tuple #[.string ⟨#[]⟩, .iface 48 (.int .i64 (askE (M.map Sp.st)))]) ∧ Below w.heap.size w w' := by
  have c1 := plain_any h hz hM
  rw [errV_ne he] at c1
  generalize askE (M.map Sp.st) = z at c1 ⊢
  clear h hz hM he
  go_enter Tryz.func6, Tryz.ntmps6
  go_wp2_with (go_at_call 10; refine c1.mono ?_; rintro e W0 ⟨rfl, hB0⟩)
  go_ret2
  exact ⟨rfl, hB0⟩

theorem flat_at {α : Type} (f : α → List Value) (n : Nat) (hf : ∀ a, (f a).length = n) : ∀ (L : List α) (k : Nat) (x : α) (j : Nat), L[k]? = some x → j < n → (L.flatMap f)[k * n + j]? = (f x)[j]? := by
  intro L
  induction L with
  | nil => intro k x j h; simp at h
  | cons a r ih =>
    intro k x j h hj
    cases k with
    | zero =>
      simp at h; subst h
      rw [List.flatMap_cons, Nat.zero_mul, Nat.zero_add, List.getElem?_append_left (by rw [hf]; exact hj)]
    | succ k =>
      have h' : r[k]? = some x := by simpa using h
      rw [List.flatMap_cons, List.getElem?_append_right (by rw [hf, Nat.succ_mul]; omega), hf, ← ih k x j h' hj]
      congr 1
      rw [Nat.succ_mul]; omega
theorem own_isTs {w : World} {base : Nat} {v : Value} {L : List Tst} (h : w.ownsRow base 33 5 v L.length (cellsT L)) : IsTs w v L := by
  have hc : ∀ g, v.ownBlock = some g → ∀ j u, (cellsT L)[j]? = some u → w.cell? ((⟨g, 0, none⟩ : Addr).add j) = some u := fun g hg => h.cells hg
  rcases h.2 with ⟨rfl, h0⟩ | ⟨g, cap, cur, rfl, hb, hg, hle, hcm, hcs, _⟩
  · obtain rfl := List.eq_nil_of_length_eq_zero h0
    exact ⟨none, 0, rfl, .inl rfl⟩
  · refine ⟨_, cap, rfl, .inr ⟨g, 0, rfl, (Array.getElem?_eq_some_iff.1 hg).1, fun k p hp => ?_⟩⟩
    have hat := flat_at Tst.cells 5 (fun _ => rfl) L k p
    have hc' := hc g rfl
    have d0 := hc' _ _ ((hat 0 hp (by decide)).trans rfl)
    have d1 := hc' _ _ ((hat 1 hp (by decide)).trans rfl)
    have d2 := hc' _ _ ((hat 2 hp (by decide)).trans rfl)
    have d3 := hc' _ _ ((hat 3 hp (by decide)).trans rfl)
    have d4 := hc' _ _ ((hat 4 hp (by decide)).trans rfl)
    rw [Addr.add_lit] at d0 d1 d2 d3 d4
    exact ⟨d0, by rw [Nat.add_assoc]; exact d1, by rw [Nat.add_assoc]; exact d2, by rw [Nat.add_assoc]; exact d3, by rw [Nat.add_assoc]; exact d4⟩
theorem own_isSp {w : World} {base : Nat} {v : Value} {M : List Sp} (h : OwnSp w base v M) : IsSp w v M := by
  have hc : ∀ g, v.ownBlock = some g → ∀ j u, (cellsS M)[j]? = some u → w.cell? ((⟨g, 0, none⟩ : Addr).add j) = some u := fun g hg => h.1.cells hg
  rcases h.1.2 with ⟨rfl, h0⟩ | ⟨g, cap, cur, rfl, hb, hg, hle, hcm, hcs, _⟩
  · obtain rfl := List.eq_nil_of_length_eq_zero h0
    exact ⟨none, 0, rfl, .inl rfl⟩
  · refine ⟨_, cap, rfl, .inr ⟨g, 0, rfl, (Array.getElem?_eq_some_iff.1 hg).1, fun k p hp => ⟨?_, own_isTs (h.2 p (List.mem_of_getElem? hp))⟩⟩⟩
    have hat := flat_at Sp.cells 4 (fun _ => rfl) M k p
    have hc' := hc g rfl
    have d0 := hc' _ _ ((hat 0 hp (by decide)).trans rfl)
    have d1 := hc' _ _ ((hat 1 hp (by decide)).trans rfl)
    have d2 := hc' _ _ ((hat 2 hp (by decide)).trans rfl)
    have d3 := hc' _ _ ((hat 3 hp (by decide)).trans rfl)
    rw [Addr.add_lit] at d0 d1 d2 d3
    exact ⟨d0, by rw [Nat.add_assoc]; exact d1, by rw [Nat.add_assoc]; exact d2, by rw [Nat.add_assoc]; exact d3⟩
theorem OwnSp.on {w w' : World} {base : Nat} {v : Value} {M : List Sp} (h : OwnSp w base v M) (hB : Below w.heap.size w w') : OwnSp w' base v M :=
  ⟨own_kt h.1 (Kt.of_below hB), fun p hp => own_kt (h.2 p hp) (Kt.of_below hB)⟩
theorem OwnSp.base {w : World} {base base' : Nat} {v : Value} {M : List Sp} (h : OwnSp w base v M) (hb : base' ≤ base) : OwnSp w base' v M :=
  ⟨own_base h.1 hb, fun p hp => own_base (h.2 p hp) hb⟩

/-- A text is no longer than another one, in all of its parts. -/
def TstLe (n : Nat) (x : Tst) : Prop := x.nm.length ≤ n ∧ x.s.length ≤ n
def StLe (n : Nat) (p : St) : Prop := p.bd.length ≤ n ∧ p.kd.length ≤ n ∧ ∀ x ∈ p.ts, TstLe n x
theorem StLe.mono {n m : Nat} {p : St} (h : StLe n p) (hm : n ≤ m) : StLe m p := ⟨Nat.le_trans h.1 hm, Nat.le_trans h.2.1 hm, fun x hx => ⟨Nat.le_trans (h.2.2 x hx).1 hm, Nat.le_trans (h.2.2 x hx).2 hm⟩⟩
theorem parseL_le {l : Nm} (h : (parseL l).1 = 0) : (parseL l).2.2.2.length ≤ l.length := by
  obtain ⟨h1, h2⟩ := show_parse h
  rcases vErr_ok h1 with ⟨_, _, _, e⟩ | ⟨_, _, e⟩ | ⟨e1, _, _, _⟩
  · rw [e]; simp
  · rw [e]; simp
  · rw [e1] at h2
    have h3 : quo (parseL l).2.2.2 = l := h2
    have h4 := dbl_len (parseL l).2.2.2
    have h5 := congrArg List.length h3
    simp [quo] at h5
    omega
theorem nameT_le (r : Nm) : (nameT r).length ≤ r.length := by have := nameD_len r; omega
theorem pVal_le {r : Nm} {v : Int × Int × Nm} (h : (pVal r).2 = some v) : v.2.2.length ≤ r.length := by
  unfold pVal at h
  split at h
  · rename_i h0
    simp only [Option.some.injEq] at h
    subst h
    exact Nat.le_trans (parseL_le h0) (vw_le false r)
  · cases h
theorem pTest_parts {r : Nm} {x : Tst} (h : (pTest r).2 = some x) : TstLe r.length x := by
  unfold pTest at h
  have h1 := nameT_le r
  have h2 := nameD_len r
  have h3 := howR_len (nameD r)
  split at h
  · cases h
  · split at h
    · simp only [Option.some.injEq] at h; subst h
      exact ⟨h1, by simp⟩
    · obtain ⟨v, hv, hx⟩ := Option.map_eq_some_iff.1 h
      subst hx
      have := pVal_le hv
      exact ⟨h1, by simp only; omega⟩
theorem testsR_parts (n : Nat) : ∀ (r : Nm), r.length ≤ n → ∀ ts, (testsR r).2 = some ts → ∀ x ∈ ts, TstLe r.length x := by
  induction n with
  | zero =>
    intro r hr ts h
    obtain rfl : r = [] := List.eq_nil_of_length_eq_zero (by omega)
    rw [testsR_no (by rfl)] at h; cases h
  | succ n ih =>
    intro r hr ts h x hx
    cases hp : (pTest r).2 with
    | none => rw [testsR_no hp] at h; cases h
    | some y =>
      have hy := pTest_parts hp
      have hlt := tail_lt hp
      by_cases h1 : seesB (pTest r).1 44 = true
      · rw [testsR_on hp h1] at h
        obtain ⟨l, hl, rfl⟩ := Option.map_eq_some_iff.1 h
        rcases List.mem_cons.1 hx with rfl | hx
        · exact hy
        · have := ih _ (by omega) l hl x hx
          exact ⟨by have := this.1; omega, by have := this.2; omega⟩
      · have h1' : seesB (pTest r).1 44 = false := by simpa using h1
        by_cases h2 : seesB (pTest r).1 93 = true
        · rw [testsR_shut hp h1' h2] at h
          simp only [Option.some.injEq] at h; subst h
          simp at hx; subst hx; exact hy
        · rw [testsR_bad hp h1' (by simpa using h2)] at h; cases h
theorem pTests_parts {r : Nm} {ts : List Tst} (h : (pTests r).2 = some ts) : ∀ x ∈ ts, TstLe r.length x := by
  unfold pTests at h
  split at h
  · intro x hx
    have := testsR_parts _ r.tail (Nat.le_refl _) ts h x hx
    have hl := List.length_tail (l := r)
    exact ⟨by have := this.1; omega, by have := this.2; omega⟩
  · simp only [Option.some.injEq] at h; subst h
    intro x hx; cases hx
theorem pKind_parts {n : Nm} {b : Bool} {r : Nm} {p : St} (h : (pKind n b r).2 = some p) : p.bd = n ∧ p.kd.length ≤ r.length ∧ ∀ x ∈ p.ts, TstLe r.length x := by
  unfold pKind at h
  have h1 := nameT_le r
  have h2 := nameD_len r
  split at h
  · cases h
  · obtain ⟨ts, hts, rfl⟩ := Option.map_eq_some_iff.1 h
    refine ⟨rfl, h1, fun x hx => ?_⟩
    have := pTests_parts hts x hx
    exact ⟨by have := this.1; omega, by have := this.2; omega⟩
theorem pBond_parts {r r1 n : Nm} {b : Bool} (h : pBond r = (r1, some (n, b))) : n.length ≤ r.length := by
  by_cases h32 : seesB r 32 = true
  · by_cases h1 : (takeR (ar0 (seesB r.tail 60)) r.tail).2 = true
    · rcases hq : takeR (ar0 (seesB r.tail 60)) r.tail with ⟨q, ok⟩
      rw [hq] at h1; simp only at h1; subst h1
      by_cases h2 : nameT q = []
      · rw [pBond_c h32 (by rw [hq]) (by rw [hq]; exact h2)] at h; simp at h
      · rw [pBond_d h32 hq h2] at h
        have hl := takeR_len (ar0 (seesB r.tail 60)) r.tail
        rw [hq] at hl
        have hn := nameT_le q
        have ht := List.length_tail (l := r)
        injection h with h3 h4
        split at h4
        · injection h4 with h4; injection h4 with h4 _
          rw [← h4]; simp only at hl; omega
        · cases h4
    · rw [pBond_b h32 (by simpa using h1)] at h; simp at h
  · rw [pBond_a (by simpa using h32)] at h; simp at h
theorem pStep_parts {f : Bool} {r : Nm} {p : St} (h : (pStep f r).2 = some p) : StLe r.length p := by
  cases f with
  | true =>
    have e : pStep true r = pKind [] false r := by unfold pStep; rw [if_pos rfl]
    rw [e] at h
    obtain ⟨h1, h2, h3⟩ := pKind_parts h
    exact ⟨by rw [h1]; simp, h2, h3⟩
  | false =>
    rcases hb : pBond r with ⟨r1, _ | ⟨n, b⟩⟩
    · rw [pStep_no hb] at h; cases h
    · rw [pStep_yes hb] at h
      obtain ⟨h1, h2, h3⟩ := pKind_parts h
      have h4 := pBond_parts hb
      have h5 := pBond_len r
      rw [hb] at h5
      exact ⟨by rw [h1]; exact h4, Nat.le_trans h2 h5, fun x hx => ⟨Nat.le_trans (h3 x hx).1 h5, Nat.le_trans (h3 x hx).2 h5⟩⟩
theorem stepsR_parts (n : Nat) : ∀ (f : Bool) (r : Nm), r.length ≤ n → ∀ l, (stepsR f r).2 = some l → ∀ p ∈ l, StLe r.length p := by
  induction n with
  | zero =>
    intro f r hr l h
    obtain rfl : r = [] := List.eq_nil_of_length_eq_zero (by omega)
    cases hp : (pStep f []).2 with
    | none => rw [stepsR_no hp] at h; cases h
    | some y => have := pStep_len (f := f) (r := []) (by rw [hp]; rfl); simp at this
  | succ n ih =>
    intro f r hr l h p hx
    cases hp : (pStep f r).2 with
    | none => rw [stepsR_no hp] at h; cases h
    | some y =>
      have hy := pStep_parts hp
      have hlt := pStep_len (f := f) (r := r) (by rw [hp]; rfl)
      by_cases h1 : (pStep f r).1 = []
      · rw [stepsR_end hp h1] at h
        simp only [Option.some.injEq] at h; subst h
        simp at hx; subst hx; exact hy
      · rw [stepsR_on hp h1] at h
        obtain ⟨q, hq, rfl⟩ := Option.map_eq_some_iff.1 h
        rcases List.mem_cons.1 hx with rfl | hx
        · exact hy
        · exact (ih _ _ (by omega) q hq p hx).mono (by omega)
theorem capL_sz {l : List St} {n : Nat} (h : ∀ p ∈ l, StLe n p) (hn : n ≤ maxLen) : ∀ p ∈ capL l, SpSz p := by
  intro p hp
  obtain ⟨q, hq, rfl⟩ := List.mem_map.1 (List.mem_of_mem_take hp)
  obtain ⟨h1, h2, h3⟩ := h q hq
  refine ⟨Nat.le_trans h1 hn, Nat.le_trans h2 hn, ?_, fun x hx => ?_⟩
  · show (q.ts.take 9).length ≤ maxLen
    rw [List.length_take]; unfold maxLen; omega
  · have := h3 x (List.mem_of_mem_take hx)
    exact ⟨Nat.le_trans this.1 hn, Nat.le_trans this.2 hn⟩
end Go.Proofs.YtmgkdghkenpmbaaGreatDoor
