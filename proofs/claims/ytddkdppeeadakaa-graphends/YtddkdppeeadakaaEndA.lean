/-
  The law GraphEnds: its mathematics, the graph that it asks first, and its calls where all is right.
-/
import Derived.Test.YtddkdppeeadakaaGraI
namespace Go.Proofs.Ytddkdppeeadakaa
open Go.RowKit
set_option linter.unusedVariables false
set_option linter.unusedSimpArgs false

/-- A sum over the first k. -/
def sm (f : Int → Int) (A : List Int) (k : Nat) : Int := ((A.take k).map f).sum
theorem sm_s (f : Int → Int) {A : List Int} {k : Nat} {a : Int} (h : A[k]? = some a) : sm f A (k + 1) = sm f A k + f a := by
  obtain ⟨hk, rfl⟩ := List.getElem?_eq_some_iff.1 h
  unfold sm
  rw [List.take_succ_eq_append_getElem hk, List.map_append, List.sum_append]; simp
theorem sm_b {f : Int → Int} (h : ∀ a, 0 ≤ f a ∧ f a ≤ 120) (A : List Int) : ∀ k, k ≤ A.length → 0 ≤ sm f A k ∧ sm f A k ≤ 120 * (k : Int)
  | 0, _ => by simp [sm]
  | k + 1, hk => by
    have ih := sm_b h A k (by omega)
    have e := sm_s f (A := A) (k := k) (a := A[k]) (by simp)
    have := h A[k]
    rw [e]; omega
theorem sm_all (f : Int → Int) (A : List Int) : sm f A A.length = (A.map f).sum := by unfold sm; rw [List.take_length]
theorem gone_b (A L : List Int) : 0 ≤ gone A L ∧ gone A L ≤ L.length := by
  unfold gone
  have := List.length_filter_le (fun x => !A.contains x) L
  omega
theorem gone_in {A X : List Int} {k : Nat} {x : Int} (h : X[k]? = some x) (hx : A.contains x = true) : gone A (X.take (k + 1)) = gone A (X.take k) := by
  obtain ⟨hk, rfl⟩ := List.getElem?_eq_some_iff.1 h
  have hx' : (!A.contains X[k]) = false := by rw [hx]; rfl
  unfold gone; rw [List.take_succ_eq_append_getElem hk, List.filter_append, List.filter_cons, if_neg (by rw [hx']; exact Bool.false_ne_true)]; simp
theorem gone_out {A X : List Int} {k : Nat} {x : Int} (h : X[k]? = some x) (hx : A.contains x = false) : gone A (X.take (k + 1)) = gone A (X.take k) + 1 := by
  obtain ⟨hk, rfl⟩ := List.getElem?_eq_some_iff.1 h
  have hx' : (!A.contains X[k]) = true := by rw [hx]; rfl
  unfold gone; rw [List.take_succ_eq_append_getElem hk, List.filter_append, List.filter_cons, if_pos hx']; simp
/-- The ids. -/
def ids (N : List Nd) : List Int := N.map (·.id)
theorem hasId_ids (N : List Nd) (x : Int) : hasId N x = (ids N).contains x := by
  unfold hasId ids
  induction N with
  | nil => rfl
  | cons n r ih => rw [List.any_cons, List.map_cons, List.contains_cons, ih]; congr 1; rw [Bool.eq_iff_iff]; simp; exact eq_comm
theorem ndE_zero {o : Option Nd} {n : Nd} (h : ndE o n = 0) : n.low o = false := by
  unfold ndE at h
  split at h
  · split at h
    · cases h
    · rename_i h2; simpa using h2
  · cases h
theorem chkN_rise : ∀ (N : List Nd) (o : Option Nd), chkN o N = 0 → (∀ q, o = some q → ∀ x ∈ ids N, q.id < x) ∧ (ids N).Nodup
  | [], o, _ => ⟨fun _ _ x hx => by simp [ids] at hx, List.nodup_nil⟩
  | n :: r, o, h => by
    by_cases he : ndE o n = 0
    · rw [chkN_ok he] at h
      obtain ⟨h1, h2⟩ := chkN_rise r (some n) h
      have h1' := h1 n rfl
      have hl := ndE_zero he
      refine ⟨fun q hq x hx => ?_, List.nodup_cons.2 ⟨fun hm => absurd (h1' _ hm) (Int.lt_irrefl _), h2⟩⟩
      subst hq
      have hl' : q.id < n.id := by simpa [Nd.low] using hl
      rcases List.mem_cons.1 hx with rfl | hx
      · exact hl'
      · have := h1' x hx; omega
    · rw [chkN_bad he] at h; exact absurd h he
theorem gErr_nodup {N : List Nd} {T : List Te} (h : gErr N T = 0) : (ids N).Nodup := by
  unfold gErr at h
  split at h
  · cases h
  · by_cases hn : chkN none N = 0
    · exact (chkN_rise N none hn).2
    · rw [if_neg hn] at h; exact absurd h hn

/-- The law's own graph. -/
def N1 : List Nd := [⟨1, ⟨#[97]⟩, .slice none 0 0, []⟩, ⟨2, ⟨#[97]⟩, .slice none 0 0, []⟩]
def T1 : List Te := [⟨⟨#[112]⟩, 1, 2⟩]
theorem fE_one : fE N1 T1 2 = 0 := by decide +kernel
theorem inn_one : innL N1 T1 ⟨#[112]⟩ 2 = [1] := by decide +kernel
set_option maxHeartbeats 1000000 in
theorem one_in (W : World) :
    Calls Try.prog 4 #[.agg #[.slice (some ⟨W.heap.size, 0, none⟩) 2 2, .slice (some ⟨W.heap.size + 1, 0, none⟩) 1 1], .int .i64 2, .string ⟨#[112]⟩]
      (((W.alloc (.cells #[.int .i64 1, .string ⟨#[97]⟩, .slice none 0 0, .int .i64 2, .string ⟨#[97]⟩, .slice none 0 0] 29)).alloc (.cells #[.string ⟨#[112]⟩, .int .i64 1, .int .i64 2] 31)).alloc (.cells #[.slice (some ⟨W.heap.size, 0, none⟩) 2 2, .slice (some ⟨W.heap.size + 1, 0, none⟩) 1 1] 25))
      fun e w' => ∃ b c, e = .returned (.tuple #[.slice (some ⟨b, 0, none⟩) 1 c, .nilIface]) ∧ w'.cell? ⟨b, 0, none⟩ = some (.int .i64 1) ∧ Below W.heap.size W w' := by
  have hR : ∀ w, IsR w (.slice none 0 0) [] := fun w => ⟨none, 0, rfl, .inl rfl⟩
  have hB : Below W.heap.size W (((W.alloc (.cells #[.int .i64 1, .string ⟨#[97]⟩, .slice none 0 0, .int .i64 2, .string ⟨#[97]⟩, .slice none 0 0] 29)).alloc (.cells #[.string ⟨#[112]⟩, .int .i64 1, .int .i64 2] 31)).alloc (.cells #[.slice (some ⟨W.heap.size, 0, none⟩) 2 2, .slice (some ⟨W.heap.size + 1, 0, none⟩) 1 1] 25)) := b_alloc (b_alloc (b_alloc (Below.refl _ _) _) _) _
  have hB1 : Below (W.alloc (.cells #[.int .i64 1, .string ⟨#[97]⟩, .slice none 0 0, .int .i64 2, .string ⟨#[97]⟩, .slice none 0 0] 29)).heap.size (W.alloc (.cells #[.int .i64 1, .string ⟨#[97]⟩, .slice none 0 0, .int .i64 2, .string ⟨#[97]⟩, .slice none 0 0] 29)) (((W.alloc (.cells #[.int .i64 1, .string ⟨#[97]⟩, .slice none 0 0, .int .i64 2, .string ⟨#[97]⟩, .slice none 0 0] 29)).alloc (.cells #[.string ⟨#[112]⟩, .int .i64 1, .int .i64 2] 31)).alloc (.cells #[.slice (some ⟨W.heap.size, 0, none⟩) 2 2, .slice (some ⟨W.heap.size + 1, 0, none⟩) 1 1] 25)) := b_alloc (b_alloc (Below.refl _ _) _) _
  have hB2 : Below ((W.alloc (.cells #[.int .i64 1, .string ⟨#[97]⟩, .slice none 0 0, .int .i64 2, .string ⟨#[97]⟩, .slice none 0 0] 29)).alloc (.cells #[.string ⟨#[112]⟩, .int .i64 1, .int .i64 2] 31)).heap.size ((W.alloc (.cells #[.int .i64 1, .string ⟨#[97]⟩, .slice none 0 0, .int .i64 2, .string ⟨#[97]⟩, .slice none 0 0] 29)).alloc (.cells #[.string ⟨#[112]⟩, .int .i64 1, .int .i64 2] 31)) (((W.alloc (.cells #[.int .i64 1, .string ⟨#[97]⟩, .slice none 0 0, .int .i64 2, .string ⟨#[97]⟩, .slice none 0 0] 29)).alloc (.cells #[.string ⟨#[112]⟩, .int .i64 1, .int .i64 2] 31)).alloc (.cells #[.slice (some ⟨W.heap.size, 0, none⟩) 2 2, .slice (some ⟨W.heap.size + 1, 0, none⟩) 1 1] 25)) := b_alloc (Below.refl _ _) _
  have hN : IsN (((W.alloc (.cells #[.int .i64 1, .string ⟨#[97]⟩, .slice none 0 0, .int .i64 2, .string ⟨#[97]⟩, .slice none 0 0] 29)).alloc (.cells #[.string ⟨#[112]⟩, .int .i64 1, .int .i64 2] 31)).alloc (.cells #[.slice (some ⟨W.heap.size, 0, none⟩) 2 2, .slice (some ⟨W.heap.size + 1, 0, none⟩) 1 1] 25)) (.slice (some ⟨W.heap.size, 0, none⟩) 2 2) N1 := by
    refine ⟨_, _, rfl, Nat.le_refl _, .inr ⟨_, _, rfl, by simp; omega, fun k n hn => ?_⟩⟩
    match k with
    | 0 => obtain rfl := Option.some.inj hn; exact ⟨(hB1.cell (by simp)).trans (by simp), (hB1.cell (by simp)).trans (by simp), (hB1.cell (by simp)).trans (by simp), hR _⟩
    | 1 => obtain rfl := Option.some.inj hn; exact ⟨(hB1.cell (by simp)).trans (by simp), (hB1.cell (by simp)).trans (by simp), (hB1.cell (by simp)).trans (by simp), hR _⟩
    | k + 2 => simp [N1] at hn
  have hT : IsT (((W.alloc (.cells #[.int .i64 1, .string ⟨#[97]⟩, .slice none 0 0, .int .i64 2, .string ⟨#[97]⟩, .slice none 0 0] 29)).alloc (.cells #[.string ⟨#[112]⟩, .int .i64 1, .int .i64 2] 31)).alloc (.cells #[.slice (some ⟨W.heap.size, 0, none⟩) 2 2, .slice (some ⟨W.heap.size + 1, 0, none⟩) 1 1] 25)) (.slice (some ⟨W.heap.size + 1, 0, none⟩) 1 1) T1 := by
    refine ⟨_, _, rfl, Nat.le_refl _, .inr ⟨_, _, rfl, by simp, fun k n hn => ?_⟩⟩
    match k with
    | 0 => obtain rfl := Option.some.inj hn; exact ⟨(hB2.cell (by simp)).trans (by simp), (hB2.cell (by simp)).trans (by simp), (hB2.cell (by simp)).trans (by simp)⟩
    | k + 1 => simp [T1] at hn
  refine (in_all hN hT ?_ ?_ (by decide) (by decide) 2 ⟨#[112]⟩).mono ?_
  · intro n hn
    simp only [N1, List.mem_cons, List.mem_nil_iff, or_false] at hn
    rcases hn with rfl | rfl
    · exact ⟨by decide, fun p hp => by simp at hp, by decide⟩
    · exact ⟨by decide, fun p hp => by simp at hp, by decide⟩
  · intro t ht
    simp only [T1, List.mem_cons, List.mem_nil_iff, or_false] at ht
    subst ht
    decide
  · rintro e w' ⟨v, rfl, hI, hB2⟩
    rw [fE_one, errV_0]
    rw [inn_one] at hI
    rcases hI with ⟨_, h⟩ | ⟨b, c, rfl, hc, hb, hl⟩
    · cases h
    · exact ⟨b, c, rfl, hl 0 1 rfl, on1 hB hB2⟩

/-- Out of, and in to, a node that is there. -/
theorem out_ok {vn vt : Value} {N : List Nd} {T : List Te} {w : World} (hN : IsN w vn N) (hT : IsT w vt T) (zN : SzN N) (zT : SzT T) (lN : N.length ≤ maxLen) (lT : T.length ≤ maxLen) {id : Int} (bd : ByteArray) (hf : fE N T id = 0) :
    Calls Try.prog 6 #[.agg #[vn, vt], .int .i64 id, .string bd] w fun e w' => ∃ ao c, e = .returned (.tuple #[.slice ao (outs T bd id).length c, .nilIface]) ∧ IsI w' (.slice ao (outs T bd id).length c) (outs T bd id) ∧ Below w.heap.size w w' := by
  refine (out_all hN hT zN zT lN lT id bd).mono ?_
  rintro e w' ⟨v, rfl, hI, hB⟩
  rw [hf, errV_0]
  rw [show outL N T bd id = outs T bd id by unfold outL; rw [if_pos hf]] at hI
  obtain ⟨ao, c, rfl⟩ := hI.sl
  exact ⟨ao, c, rfl, hI, hB⟩
theorem in_ok {vn vt : Value} {N : List Nd} {T : List Te} {w : World} (hN : IsN w vn N) (hT : IsT w vt T) (zN : SzN N) (zT : SzT T) (lN : N.length ≤ maxLen) (lT : T.length ≤ maxLen) {id : Int} (bd : ByteArray) (hf : fE N T id = 0) :
    Calls Try.prog 4 #[.agg #[vn, vt], .int .i64 id, .string bd] w fun e w' => ∃ ao c, e = .returned (.tuple #[.slice ao (inns T bd id).length c, .nilIface]) ∧ IsI w' (.slice ao (inns T bd id).length c) (inns T bd id) ∧ Below w.heap.size w w' := by
  refine (in_all hN hT zN zT lN lT id bd).mono ?_
  rintro e w' ⟨v, rfl, hI, hB⟩
  rw [hf, errV_0]
  rw [show innL N T bd id = inns T bd id by unfold innL; rw [if_pos hf]] at hI
  obtain ⟨ao, c, rfl⟩ := hI.sl
  exact ⟨ao, c, rfl, hI, hB⟩
/-- And of one that is not. -/
theorem out_no {vn vt : Value} {N : List Nd} {T : List Te} {w : World} (hN : IsN w vn N) (hT : IsT w vt T) (zN : SzN N) (zT : SzT T) (lN : N.length ≤ maxLen) (lT : T.length ≤ maxLen) {id : Int} (bd : ByteArray) (hf : fE N T id = 5) :
    Calls Try.prog 6 #[.agg #[vn, vt], .int .i64 id, .string bd] w fun e w' => e = .returned (.tuple #[.slice none 0 0, .iface 42 (.int .i64 5)]) ∧ Below w.heap.size w w' := by
  refine (out_any hN hT zN zT lN lT id bd).mono ?_
  rintro e w' ⟨v, rfl, _, h, hB⟩
  rw [hf] at h ⊢
  rw [h (by decide)]
  exact ⟨rfl, hB⟩
theorem in_no {vn vt : Value} {N : List Nd} {T : List Te} {w : World} (hN : IsN w vn N) (hT : IsT w vt T) (zN : SzN N) (zT : SzT T) (lN : N.length ≤ maxLen) (lT : T.length ≤ maxLen) {id : Int} (bd : ByteArray) (hf : fE N T id = 5) :
    Calls Try.prog 4 #[.agg #[vn, vt], .int .i64 id, .string bd] w fun e w' => e = .returned (.tuple #[.slice none 0 0, .iface 42 (.int .i64 5)]) ∧ Below w.heap.size w w' := by
  refine (in_any hN hT zN zT lN lT id bd).mono ?_
  rintro e w' ⟨v, rfl, _, h, hB⟩
  rw [hf] at h ⊢
  rw [h (by decide)]
  exact ⟨rfl, hB⟩
end Go.Proofs.Ytddkdppeeadakaa
