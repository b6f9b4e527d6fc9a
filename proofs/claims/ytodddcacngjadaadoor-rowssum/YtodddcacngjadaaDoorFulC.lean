/-
  A row of nodes and ties is right.
-/
import Derived.Test.YtodddcacngjadaaDoorFulA
import Derived.Test.YtodddcacngjadaaDoorTellsC
namespace Go.Proofs.YtodddcacngjadaaDoor
open Go.RowKit
set_option linter.unusedVariables false
set_option linter.unusedSimpArgs false

theorem idOk_of {i : Int} (h1 : 1 ≤ i) (h2 : i ≤ 1000) : idOk i = true := by unfold idOk; simp [h1, h2]
theorem nErr_a : nErr [97] = 0 := by decide
theorem nErr_p : nErr [112] = 0 := by decide
theorem rErr_k (i : Int) (h1 : 1 ≤ i) (h2 : i ≤ 1000) : rErr [prK i] = 0 := by
  have hb : (prK i).bad = 0 := by
    have : inR 1 i = true := by simp [inR]; omega
    simp [prK, Pr.bad, vErr, this]
  have hn : nErr (prK i).l = 0 := by show nErr [107] = 0; decide
  unfold rErr
  rw [if_neg (by simp), chk_first hn hb, chk_end]
theorem row_chkN : ∀ (N : List Nd) (m : Nat) (o : Option Nd), (∀ (j : Nat) (x : Nd), N[j]? = some x → x.id = ((m + j : Nat) : Int) + 1 ∧ x.kd = ⟨#[97]⟩ ∧ x.rc = [prK (((m + j : Nat) : Int) + 1)]) → (∀ q, o = some q → q.id ≤ m) → m + N.length ≤ 60 → chkN o N = 0
  | [], _, o, _, _, _ => chkN_end o
  | n :: r, m, o, h, ho, hl => by
    obtain ⟨h1, h2, h3⟩ := h 0 n rfl
    simp only [Nat.add_zero] at h1 h3
    have hl' : m + (r.length + 1) ≤ 60 := by simpa using hl
    have he : ndE o n = 0 := by
      rw [ndE_rec (idOk_of (by omega) (by omega)) ?_ (by rw [h2]; exact nErr_a), h3]
      · exact rErr_k _ (by omega) (by omega)
      · cases o with
        | none => rfl
        | some q => have := ho q rfl; simp [Nd.low]; omega
    rw [chkN_ok he]
    refine row_chkN r (m + 1) (some n) (fun j x hx => ?_) (fun q hq => ?_) (by omega)
    · have := h (j + 1) x (by simpa using hx)
      rwa [show m + (j + 1) = m + 1 + j by omega] at this
    · injection hq with hq; subst hq; rw [h1]; omega
theorem tCmp_up (j : Nat) : tCmp (tK (j + 1)) (tK j) = 1 := by
  have h1 : Lib.compareBytes [112] [112] = 0 := by decide
  have h2 : Lib.compareInt (((j + 1 : Nat) : Int) + 1) ((j : Int) + 1) = 1 := by
    unfold Lib.compareInt
    (repeat' split) <;> first | rfl | (exfalso; omega)
  unfold tCmp
  rw [show Lib.compareBytes (tK (j + 1)).bd.data.toList (tK j).bd.data.toList = 0 from h1, show Lib.compareInt (tK (j + 1)).fr (tK j).fr = 1 from h2]
  exact or3_b _ rfl (by decide)
theorem row_chkT : ∀ (k s : Nat) (o : Option Te), (o = none ∨ ∃ q, s = q + 1 ∧ o = some (tK q)) → s + k ≤ 120 → chkT o ((List.range' s k).map tK) = 0
  | 0, _, o, _, _ => chkT_end o
  | k + 1, s, o, ho, hl => by
    rw [List.range'_succ, List.map_cons]
    have he : teE o (tK s) = 0 := by
      refine teE_ok nErr_p ?_ ?_
      · show (idOk ((s : Int) + 1) && idOk ((s : Int) + 1 + 1)) = true
        rw [idOk_of (by omega) (by omega), idOk_of (by omega) (by omega)]; rfl
      · rcases ho with rfl | ⟨q, rfl, rfl⟩
        · rfl
        · simp [Te.low, tCmp_up]
    rw [chkT_ok he]
    exact row_chkT k (s + 1) (some (tK s)) (.inr ⟨s, rfl, rfl⟩) (by omega)
theorem row_gErr {N : List Nd} {m : Nat} (h : ∀ (j : Nat) (x : Nd), N[j]? = some x → x.id = (j : Int) + 1 ∧ x.kd = ⟨#[97]⟩ ∧ x.rc = [prK ((j : Int) + 1)]) (hn : N.length ≤ 60) (hm : m ≤ 120) : gErr N (rowT m) = 0 := by
  have h1 : chkN none N = 0 := row_chkN N 0 none (fun j x hx => by rw [Nat.zero_add]; exact h j x hx) (fun q hq => by cases hq) (by omega)
  have h2 : chkT none (rowT m) = 0 := by
    have := row_chkT m 0 none (.inl rfl) (by omega)
    unfold rowT
    rw [List.range_eq_range']; exact this
  unfold gErr
  rw [if_neg (by rw [rowT_len]; omega), if_pos h1, h2]
theorem row_szN {N : List Nd} (h : ∀ (j : Nat) (x : Nd), N[j]? = some x → x.id = (j : Int) + 1 ∧ x.kd = ⟨#[97]⟩ ∧ x.rc = [prK ((j : Int) + 1)]) : SzN N := fun n hn => by
  obtain ⟨j, hj⟩ := List.mem_iff_getElem?.1 hn
  obtain ⟨_, h2, h3⟩ := h j n hj
  rw [h2, h3]
  refine ⟨by decide, fun p hp => ?_, by show (1 : Nat) ≤ maxLen; decide⟩
  obtain rfl : p = prK ((j : Int) + 1) := by simpa using hp
  exact ⟨by show (1 : Nat) ≤ maxLen; decide, by show (0 : Nat) ≤ maxLen; decide⟩
theorem row_szT (m : Nat) : SzT (rowT m) := fun t ht => by
  obtain ⟨j, _, rfl⟩ := List.mem_map.1 ht
  show (1 : Nat) ≤ maxLen
  decide

end Go.Proofs.YtodddcacngjadaaDoor
