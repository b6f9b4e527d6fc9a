/-
  A row of nodes and ties is right; the walk of Next.
-/
import Derived.Test.YtddkdppeeadakaaDoorFulA
import Derived.Test.YtddkdppeeadakaaDoorTellsC
namespace Go.Proofs.YtddkdppeeadakaaDoor
open Go.RowKit
set_option linter.unusedVariables false
set_option linter.unusedSimpArgs false

theorem idOk_of {i : Int} (h1 : 1 ≤ i) (h2 : i ≤ 1000) : idOk i = true := by unfold idOk; simp [h1, h2]
theorem nErr_a : nErr [97] = 0 := by decide
theorem nErr_p : nErr [112] = 0 := by decide
theorem rErr_k (i : Int) (h1 : 1 ≤ i) (h2 : i ≤ 1000) : rErr [prK i] = 0 := by
  have hb : (prK i).bad = 0 := by
    have : inR 1 i = true := by simp [inR]; omega
    simp [prK, Pr.bad, vErr, this]
  have hn : nErr (prK i).l = 0 := by show nErr [107] = 0; decide
  unfold rErr
  rw [if_neg (by simp), chk_first hn hb, chk_end]
theorem row_chkN : ∀ (N : List Nd) (m : Nat) (o : Option Nd), (∀ (j : Nat) (x : Nd), N[j]? = some x → x.id = ((m + j : Nat) : Int) + 1 ∧ x.kd = ⟨#[97]⟩ ∧ x.rc = [prK (((m + j : Nat) : Int) + 1)]) → (∀ q, o = some q → q.id ≤ m) → m + N.length ≤ 60 → chkN o N = 0
  | [], _, o, _, _, _ => chkN_end o
  | n :: r, m, o, h, ho, hl => by
    obtain ⟨h1, h2, h3⟩ := h 0 n rfl
    simp only [Nat.add_zero] at h1 h3
    have hl' : m + (r.length + 1) ≤ 60 := by simpa using hl
    have he : ndE o n = 0 := by
      rw [ndE_rec (idOk_of (by omega) (by omega)) ?_ (by rw [h2]; exact nErr_a), h3]
      · exact rErr_k _ (by omega) (by omega)
      · cases o with
        | none => rfl
        | some q => have := ho q rfl; simp [Nd.low]; omega
    rw [chkN_ok he]
    refine row_chkN r (m + 1) (some n) (fun j x hx => ?_) (fun q hq => ?_) (by omega)
    · have := h (j + 1) x (by simpa using hx)
      rwa [show m + (j + 1) = m + 1 + j by omega] at this
    · injection hq with hq; subst hq; rw [h1]; omega
theorem tCmp_up (j : Nat) : tCmp (tK (j + 1)) (tK j) = 1 := by
  have h1 : Lib.compareBytes [112] [112] = 0 := by decide
  have h2 : Lib.compareInt (((j + 1 : Nat) : Int) + 1) ((j : Int) + 1) = 1 := by
    unfold Lib.compareInt
    (repeat' split) <;> first | rfl | (exfalso; omega)
  unfold tCmp
  rw [show Lib.compareBytes (tK (j + 1)).bd.data.toList (tK j).bd.data.toList = 0 from h1, show Lib.compareInt (tK (j + 1)).fr (tK j).fr = 1 from h2]
  exact or3_b _ rfl (by decide)
theorem row_chkT : ∀ (k s : Nat) (o : Option Te), (o = none ∨ ∃ q, s = q + 1 ∧ o = some (tK q)) → s + k ≤ 120 → chkT o ((List.range' s k).map tK) = 0
  | 0, _, o, _, _ => chkT_end o
  | k + 1, s, o, ho, hl => by
    rw [List.range'_succ, List.map_cons]
    have he : teE o (tK s) = 0 := by
      refine teE_ok nErr_p ?_ ?_
      · show (idOk ((s : Int) + 1) && idOk ((s : Int) + 1 + 1)) = true
        rw [idOk_of (by omega) (by omega), idOk_of (by omega) (by omega)]; rfl
      · rcases ho with rfl | ⟨q, rfl, rfl⟩
        · rfl
        · simp [Te.low, tCmp_up]
    rw [chkT_ok he]
    exact row_chkT k (s + 1) (some (tK s)) (.inr ⟨s, rfl, rfl⟩) (by omega)
theorem row_gErr {N : List Nd} {m : Nat} (h : ∀ (j : Nat) (x : Nd), N[j]? = some x → x.id = (j : Int) + 1 ∧ x.kd = ⟨#[97]⟩ ∧ x.rc = [prK ((j : Int) + 1)]) (hn : N.length ≤ 60) (hm : m ≤ 120) : gErr N (rowT m) = 0 := by
  have h1 : chkN none N = 0 := row_chkN N 0 none (fun j x hx => by rw [Nat.zero_add]; exact h j x hx) (fun q hq => by cases hq) (by omega)
  have h2 : chkT none (rowT m) = 0 := by
    have := row_chkT m 0 none (.inl rfl) (by omega)
    unfold rowT
    rw [List.range_eq_range']; exact this
  unfold gErr
  rw [if_neg (by rw [rowT_len]; omega), if_pos h1, h2]
theorem row_szN {N : List Nd} (h : ∀ (j : Nat) (x : Nd), N[j]? = some x → x.id = (j : Int) + 1 ∧ x.kd = ⟨#[97]⟩ ∧ x.rc = [prK ((j : Int) + 1)]) : SzN N := fun n hn => by
  obtain ⟨j, hj⟩ := List.mem_iff_getElem?.1 hn
  obtain ⟨_, h2, h3⟩ := h j n hj
  rw [h2, h3]
  refine ⟨by decide, fun p hp => ?_, by show (1 : Nat) ≤ maxLen; decide⟩
  obtain rfl : p = prK ((j : Int) + 1) := by simpa using hp
  exact ⟨by show (1 : Nat) ≤ maxLen; decide, by show (0 : Nat) ≤ maxLen; decide⟩
theorem row_szT (m : Nat) : SzT (rowT m) := fun t ht => by
  obtain ⟨j, _, rfl⟩ := List.mem_map.1 ht
  show (1 : Nat) ≤ maxLen
  decide

set_option maxHeartbeats 1000000 in
set_option maxRecDepth 100000 in
theorem next_row {an am : Option Addr} {cn cm n m : Nat} {N : List Nd} {w : World} (hl : N.length = n) (hN : IsN w (.slice an n cn) N) (hT : IsT w (.slice am m cm) (rowT m)) (h : ∀ (j : Nat) (x : Nd), N[j]? = some x → x.id = (j : Int) + 1 ∧ x.kd = ⟨#[97]⟩ ∧ x.rc = [prK ((j : Int) + 1)]) (hn : n ≤ 60) (hm : m ≤ 120) :
    Calls Tryd.prog 7 #[.agg #[.slice an n cn, .slice am m cm]] w fun e w' => e = .returned (.tuple #[.int .i64 ((n : Int) + 1), .nilIface]) ∧ Below w.heap.size w w' := by
  have hB : Below w.heap.size w (w.alloc (.cells #[.slice an n cn, .slice am m cm] 25)) := b_alloc (Below.refl _ _) _
  have cc := gcheck_any (hN.on hB) (hT.on hB) (row_szN h) (row_szT m) (by unfold maxLen; omega) (by rw [rowT_len]; unfold maxLen; omega)
  rw [row_gErr h (by omega) hm, errV_0] at cc
  have HG : Hid (∀ W, Below (w.alloc (.cells #[.slice an n cn, .slice am m cm] 25)).heap.size (w.alloc (.cells #[.slice an n cn, .slice am m cm] 25)) W → W.cell? ⟨w.heap.size, 0, none⟩ = some (.slice an n cn)) := fun W hW => (hW.cell (by simp)).trans (by simp)
  cases n with
  | zero =>
    go_enter Tryd.func7, Tryd.ntmps7
    go_wp2_with (first | (go_at_call 5; refine cc.mono ?_; rintro e W1 ⟨rfl, hB1⟩; have k0 := HG.out W1 hB1))
    go_ret2
    exact ⟨rfl, on1 hB hB1⟩
  | succ q =>
    obtain ⟨an', cn', e, hc, h0 | ⟨b, off, e2, hb, hL⟩⟩ := hN
    · rw [h0] at hl; simp at hl
    injection e with e1 e4 e3
    subst e1
    subst e2
    obtain ⟨x, hx⟩ : ∃ x, N[q]? = some x := ⟨N[q], by simp⟩
    have hid := (h q x hx).1
    have d0 := (hL q x hx).1
    rw [hid] at d0
    have HD : Hid (∀ W, Below (w.alloc (.cells #[.slice (some ⟨b, off, none⟩) (q + 1) cn, .slice am m cm] 25)).heap.size (w.alloc (.cells #[.slice (some ⟨b, off, none⟩) (q + 1) cn, .slice am m cm] 25)) W → W.cell? ⟨b, off + q * 3, none⟩ = some (.int .i64 ((q : Int) + 1))) := fun W hW => ((on1 hB hW).cell (p := ⟨b, off + q * 3, none⟩) hb).trans d0
    have hw1 : IntKind.i64.wrap ((q : Int) + 1 - 1) = (q : Int) := by rw [IntKind.wrap_i64]; omega
    have hi1 : (q : Int) < ((q : Int) + 1) := by omega
    have hne : ((q : Int) + 1 == 0) = false := by simp; omega
    have hne2 : ((q : Int) + 1 == 1000) = false := by simp; omega
    have hw2 : IntKind.i64.wrap ((q : Int) + 1 + 1) = (q : Int) + 1 + 1 := by rw [IntKind.wrap_i64]; omega
    clear d0 hx hL hc hid hT h e3 e4 hl
    go_enter Tryd.func7, Tryd.ntmps7
    go_wp2_with (first | (go_at_call 5; refine cc.mono ?_; rintro e W1 ⟨rfl, hB1⟩; have k0 := HG.out W1 hB1; have k1 := HD.out W1 hB1))
    go_ret2
    exact ⟨ret_v (by simp), on1 hB hB1⟩
end Go.Proofs.YtddkdppeeadakaaDoor
