/-
  DeltaEmpties in plain words: what is left of a graph whose nodes are gone, one by one; the graph of two nodes and one tie.
-/
import Derived.Test.YtkgblicmkijpdaaDelL
import Derived.Test.YtkgblicmkijpdaaDelJ
import Derived.Test.YtkgblicmkijpdaaDelK
import Derived.Test.YtkgblicmkijpdaaFulB
namespace Go.Proofs.Ytkgblicmkijpdaa
open Go.RowKit
set_option linter.unusedVariables false
set_option linter.unusedSimpArgs false

/-- Gone of a node. -/
abbrev oG (id : Int) : Opx := ⟨2, ⟨id, ⟨#[]⟩, .slice none 0 0, []⟩, ⟨⟨#[]⟩, 0, 0, ⟨#[]⟩⟩, ⟨⟨#[]⟩, 0, 0⟩⟩
theorem oG_sz (id : Int) : OpSz (oG id) := by
  have h0 : (⟨#[]⟩ : ByteArray).size ≤ maxLen := by decide
  exact ⟨⟨h0, fun p hp => (by cases hp), by show 0 ≤ maxLen; decide⟩, ⟨h0, h0⟩, h0⟩
theorem isR_nil (w : World) : IsR w (.slice none 0 0) [] := ⟨none, 0, rfl, .inl rfl⟩
/-- Do of Gone. -/
theorem doG {vn vt : Value} {N : List Nd} {T : List Te} {w : World} (hN : IsN w vn N) (hT : IsT w vt T) (zN : SzN N) (zT : SzT T) (he : gErr N T = 0) (id : Int) (hf : fndN id N = true) :
    Calls Try.prog 6 #[.agg #[vn, vt], (oG id).one] w fun e w' => ∃ un ut M, e = .returned (.tuple #[.agg #[un, ut], .nilIface]) ∧ (cN M = (cN N).eraseIdx (loN id N) ∧ OwnNs w' w.heap.size un M ∧ OwnTs w' w.heap.size ut (T.filter (keepT id)) ∧ gErr M (T.filter (keepT id)) = 0) ∧ Below w.heap.size w w' :=
  (do_in goneS hN hT zN zT he (isR_nil w) (oG_sz id) (gone_ap rfl) (gone_keeps _)).mono fun e w' h => by
    have h0 : goneS.e (oG id) (cN N) T = 0 := by
      show goneE id (cN N) = 0
      unfold goneE; rw [fndN_c, hf]; rfl
    obtain ⟨hB, ⟨_, un, ut, M, rfl, hM, h1, h2, h3⟩ | ⟨h1, _⟩⟩ := h
    · refine ⟨un, ut, M, rfl, ⟨?_, h1, h2, h3⟩, hB⟩
      rw [hM]
      show (cN N).eraseIdx (loN id (cN N)) = _
      rw [loN_c]
    · exact absurd h0 h1

/-- The graph of two nodes and one tie. -/
def two : List Nd := [⟨1, ⟨#[97]⟩, .nilIface, [prK 1]⟩, ⟨2, ⟨#[97]⟩, .nilIface, [prK 2]⟩]
def oneT : List Te := [⟨⟨#[112]⟩, 1, 2⟩]
theorem two_of {N : List Nd} (hl : N.length = 2) (h : ∀ (j : Nat) (x : Nd), N[j]? = some x → x.id = (j : Int) + 1 ∧ x.kd = ⟨#[97]⟩ ∧ x.rc = [prK ((j : Int) + 1)]) : cN N = two := by
  match N, hl with
  | [a, b], _ =>
    obtain ⟨a1, a2, a3⟩ := h 0 a rfl
    obtain ⟨b1, b2, b3⟩ := h 1 b rfl
    obtain ⟨ai, ak, av, ar⟩ := a
    obtain ⟨bi, bk, bv, br⟩ := b
    simp only at a1 a2 a3 b1 b2 b3
    subst a1 a2 a3 b1 b2 b3
    rfl
theorem rowT_one : rowT 1 = oneT := by simp [rowT, List.range_succ, tK, oneT]
theorem two_err : gErr two oneT = 0 := by decide +kernel
theorem two_fnd : fndN 2 two = true := by decide +kernel
theorem two_lo : loN 2 two = 1 := by decide +kernel
theorem two_tie : oneT.filter (keepT 2) = [] := by decide +kernel
theorem two_szN {N : List Nd} (h : cN N = two) : SzN N := fun n hn => by
  have : n.c ∈ two := by rw [← h]; exact List.mem_map.2 ⟨n, hn, rfl⟩
  have hk : (⟨#[97]⟩ : ByteArray).size ≤ maxLen := by decide
  have hz : ∀ i, Sz [prK i] := fun i p hp => by
    simp at hp; subst hp
    exact ⟨by show (⟨#[107]⟩ : ByteArray).size ≤ maxLen; decide, by show (⟨#[]⟩ : ByteArray).size ≤ maxLen; decide⟩
  obtain ⟨i, kd, rv, rc⟩ := n
  simp [two, Nd.c] at this
  rcases this with ⟨_, rfl, rfl⟩ | ⟨_, rfl, rfl⟩ <;> exact ⟨hk, hz _, by show 1 ≤ maxLen; decide⟩
theorem one_szT : SzT oneT := fun t ht => by
  simp [oneT] at ht; subst ht
  show (⟨#[112]⟩ : ByteArray).size ≤ maxLen
  decide
/-- The fact that opens the law: of two nodes with a tie one is gone, and the tie with it. -/
theorem fact_two {N : List Nd} {vn vt : Value} {w : World} (hl : N.length = 2) (h : ∀ (j : Nat) (x : Nd), N[j]? = some x → x.id = (j : Int) + 1 ∧ x.kd = ⟨#[97]⟩ ∧ x.rc = [prK ((j : Int) + 1)]) (hN : IsN w vn N) (hT : IsT w vt (rowT 1)) :
    Calls Try.prog 6 #[.agg #[vn, vt], (oG 2).one] w fun e w' => ∃ a c b d, e = .returned (.tuple #[.agg #[.slice a 1 c, .slice b 0 d], .nilIface]) ∧ Below w.heap.size w w' := by
  have hc := two_of hl h
  rw [rowT_one] at hT
  have he : gErr N oneT = 0 := by rw [← gErr_c, hc]; exact two_err
  have hf : fndN 2 N = true := by rw [← fndN_c, hc]; exact two_fnd
  refine (doG hN hT (two_szN hc) one_szT he 2 hf).mono ?_
  rintro e w' ⟨un, ut, M, rfl, ⟨hM, h1, h2, _⟩, hB⟩
  rw [two_tie] at h2
  obtain ⟨a, c, rfl⟩ := own_slice h1.1
  obtain ⟨b, d, rfl⟩ := own_slice h2
  have : M.length = 1 := by
    have := congrArg List.length hM
    rw [cN_len, List.length_eraseIdx_of_lt (by rw [cN_len]; exact fndN_lt hf), cN_len, hl] at this
    exact this
  rw [this]
  exact ⟨a, c, b, d, rfl, hB⟩

/-- Ties of which no end is a node. -/
def looseT (N : List Nd) (t : Te) : Bool := !hasId N t.fr && !hasId N t.tt
theorem keep_all (N : List Nd) (T : List Te) : N.foldl (fun U n => U.filter (keepT n.id)) T = T.filter (looseT N) := by
  induction N generalizing T with
  | nil =>
    rw [List.foldl_nil]
    exact (List.filter_eq_self.2 (fun t _ => by simp [looseT, hasId])).symm
  | cons n r ih =>
    rw [List.foldl_cons, ih, List.filter_filter]
    congr 1
    funext t
    unfold looseT keepT Te.end hasId
    rw [List.any_cons, List.any_cons, Bool.beq_comm (a := n.id) (b := t.fr), Bool.beq_comm (a := n.id) (b := t.tt)]
    cases (t.fr == n.id) <;> cases (t.tt == n.id) <;> simp
/-- The first one is found at the front. -/
theorem first_fnd (n : Nd) (r : List Nd) : fndN n.id (n :: r) = true ∧ loN n.id (n :: r) = 0 := by
  have h : loN n.id (n :: r) = 0 := by simp [loN]
  refine ⟨?_, h⟩
  unfold fndN
  rw [h]
  simp
end Go.Proofs.Ytkgblicmkijpdaa
