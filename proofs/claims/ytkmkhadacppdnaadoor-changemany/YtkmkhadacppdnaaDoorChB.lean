/-
  The walk of change.findField.
-/
import Derived.Test.YtkmkhadacppdnaaDoorCpB
namespace Go.Proofs.YtkmkhadacppdnaaDoor
open Go.RowKit
set_option linter.unusedVariables false
set_option linter.unusedSimpArgs false

set_option maxHeartbeats 1000000 in
theorem fName_any (f : Fd) (s : Nm) (w : World) :
    Calls Tryd.prog 67 #[f.one, .string (bs s)] w fun e w' => e = .returned (.int .i64 (Lib.compareBytes f.nm s)) ∧ Below w.heap.size w w' := by
  have c := fun w => compare_any (bs f.nm) (bs s) w
  simp only [bs_data] at c
  generalize Lib.compareBytes f.nm s = r at c ⊢
  go_enter Tryd.func67, Tryd.ntmps67
  go_wp2_with (go_at_call 61; refine (c _).mono ?_; rintro e w' ⟨rfl, rfl⟩)
  go_ret
  exact ⟨rfl, b_allocK (Below.refl _ _) (Nat.le_refl _) _⟩
set_option maxHeartbeats 8000000 in
set_option maxRecDepth 100000 in
theorem searchN_some (b off cap : Nat) (L : List Fd) (s : Nm) (w : World) (hb : b < w.heap.size) (hL : LiesF w b off L) (hs : Srt L) (hn : L.length ≤ 96) :
    Calls Tryd.prog 66 #[.slice (some ⟨b, off, none⟩) L.length cap, .string (bs s), .func (.func 67) #[] #[]] w fun e w' => e = .returned (.tuple #[.int .i64 (lo s L), .bool (fnd s L)]) ∧ Below w.heap.size w w' := by
  have hlo := lo_le s L
  have HS : Hid (LiesF w b off L ∧ Srt L) := ⟨hL, hs⟩
  clear hL hs
  go_enter Tryd.func66, Tryd.ntmps66
  go_wp2
  go_loopw [9, 10] (fun i j wr => ∃ p q : Nat, p ≤ lo s L ∧ lo s L ≤ q ∧ q ≤ L.length ∧ i = .int .i64 p ∧ j = .int .i64 q ∧ Below w.heap.size w wr) (fun i j _ => (intOf j).toNat - (intOf i).toNat)
  case atStart => exact ⟨0, L.length, Nat.zero_le _, hlo, Nat.le_refl _, rfl, rfl, Below.refl _ _⟩
  case round =>
    obtain ⟨p, q, h1, h2, h3, rfl, rfl, hBw⟩ := hrel
    have HR : Hid (p ≤ lo s L ∧ lo s L ≤ q ∧ Below w.heap.size w wr) := ⟨h1, h2, hBw⟩
    by_cases hlt : p < q
    · obtain ⟨m, hm⟩ : ∃ m, m = (p + q) / 2 := ⟨_, rfl⟩
      have hml : m < L.length := by omega
      have hmq : m < q := by omega
      have hpm : p ≤ m := by omega
      have hdiv : ((p : Int) + (q : Int)) / 2 = (m : Int) := by omega
      obtain ⟨x, hx⟩ : ∃ x, L[m]? = some x := ⟨L[m], by simp [hml]⟩
      obtain ⟨c0, c1, c2, c3⟩ := HS.out.1 m x hx
      have d0 := (hBw.cell (p := ⟨b, off + m * 4, none⟩) hb).trans c0
      have d1 := (hBw.cell (p := ⟨b, off + m * 4 + 1, none⟩) hb).trans c1
      have d2 := (hBw.cell (p := ⟨b, off + m * 4 + 2, none⟩) hb).trans c2
      have d3 := (hBw.cell (p := ⟨b, off + m * 4 + 3, none⟩) hb).trans c3
      have hsp := lo_spec s HS.out.2 m x hx
      rw [less_cmp, decide_eq_true_iff] at hsp
      have cb := fun W => fName_any x s W
      obtain ⟨r, hr⟩ : ∃ r, Lib.compareBytes x.nm s = r := ⟨_, rfl⟩
      rw [hr] at cb hsp
      clear c0 c1 c2 c3 hr hx hm
      by_cases hr0 : r < 0
      · have HM : Hid (m + 1 ≤ lo s L) := hsp.2 hr0
        clear hsp h1 h2
        go_upto_region 5 with fail
        try rw [hdiv]
        clear hdiv
        go_wp2_with (go_at_call 67; refine (cb _).mono ?_; rintro e W2 ⟨rfl, hB2⟩)
        go_roundw
        case rel => exact ⟨m + 1, q, HM.out, HR.out.2.1, h3, by go_num, rfl, on1K HR.out.2.2 hB2 (Nat.le_refl _)⟩
        case measure => simp [intOf]; omega
      · have HM : Hid (lo s L ≤ m) := by
          show _ ≤ _
          have : ¬ m < lo s L := fun h => hr0 (hsp.1 h)
          omega
        clear hsp h1 h2
        go_upto_region 5 with fail
        try rw [hdiv]
        clear hdiv
        go_wp2_with (go_at_call 67; refine (cb _).mono ?_; rintro e W2 ⟨rfl, hB2⟩)
        go_roundw
        case rel => exact ⟨p, m, HR.out.1, HM.out, by omega, rfl, by go_num, on1K HR.out.2.2 hB2 (Nat.le_refl _)⟩
        case measure => simp [intOf]; omega
    · have hpl : p = lo s L := by omega
      by_cases hl : p < L.length
      · obtain ⟨x, hx⟩ : ∃ x, L[p]? = some x := ⟨L[p], by simp [hl]⟩
        obtain ⟨c0, c1, c2, c3⟩ := HS.out.1 p x hx
        have d0 := (hBw.cell (p := ⟨b, off + p * 4, none⟩) hb).trans c0
        have d1 := (hBw.cell (p := ⟨b, off + p * 4 + 1, none⟩) hb).trans c1
        have d2 := (hBw.cell (p := ⟨b, off + p * 4 + 2, none⟩) hb).trans c2
        have d3 := (hBw.cell (p := ⟨b, off + p * 4 + 3, none⟩) hb).trans c3
        have cb := fun W => fName_any x s W
        have hz := cmpB_zero x.nm s
        have hfnd : fnd s L = (Lib.compareBytes x.nm s == 0) := by
          unfold fnd; rw [← hpl, hx]; simp only
          rw [Bool.eq_iff_iff, beq_iff_eq, beq_iff_eq]; exact hz.symm
        obtain ⟨r, hr⟩ : ∃ r, Lib.compareBytes x.nm s = r := ⟨_, rfl⟩
        rw [hr] at cb hfnd
        have HF : Hid (fnd s L = (r == 0) ∧ p = lo s L) := ⟨hfnd, hpl⟩
        have hpi : (p : Int) < (L.length : Int) := by omega
        clear c0 c1 c2 c3 hr hx hz hfnd hpl h1 h2
        go_wp2_with (go_at_call 67; refine (cb _).mono ?_; rintro e W2 ⟨rfl, hB2⟩)
        go_ret2
        exact ⟨ret_v (by rw [HF.out.1, ← HF.out.2]; rfl), on1K hBw hB2 (Nat.le_refl _)⟩
      · have hfnd : fnd s L = false := by
          unfold fnd; rw [← hpl, List.getElem?_eq_none (by omega)]
        have HF : Hid (fnd s L = false ∧ p = lo s L) := ⟨hfnd, hpl⟩
        have hpi : ¬ (p : Int) < (L.length : Int) := by omega
        have hpd : decide ((p : Int) < (L.length : Int)) = false := by simpa using hpi
        clear hfnd hpl h1 h2
        go_wp2
        go_ret2
        exact ⟨ret_v (by rw [HF.out.1, ← HF.out.2]; rfl), hBw⟩
set_option maxHeartbeats 4000000 in
theorem searchN_nil (ao : Option Addr) (c : Nat) (s : Nm) (w : World) :
    Calls Tryd.prog 66 #[.slice ao 0 c, .string (bs s), .func (.func 67) #[] #[]] w fun e w' => e = .returned (.tuple #[.int .i64 0, .bool false]) ∧ Below w.heap.size w w' := by
  go_enter Tryd.func66, Tryd.ntmps66
  go_wp2
  go_loopw [9, 10] (fun i j wr => i = .int .i64 0 ∧ j = .int .i64 0 ∧ wr = w) (fun i j _ => 0)
  case atStart => exact ⟨rfl, rfl, rfl⟩
  case round =>
    obtain ⟨rfl, rfl, rfl⟩ := hrel
    go_wp2
    go_ret2
    exact ⟨rfl, Below.refl _ _⟩
theorem searchN_any {v : Value} {L : List Fd} {w : World} (h : IsF w v L) (hs : Srt L) (hn : L.length ≤ 96) (s : Nm) :
    Calls Tryd.prog 66 #[v, .string (bs s), .func (.func 67) #[] #[]] w fun e w' => e = .returned (.tuple #[.int .i64 (lo s L), .bool (fnd s L)]) ∧ Below w.heap.size w w' := by
  rcases h with ⟨ao, c, rfl, rfl, _⟩ | ⟨b, off, cap, rfl, hcap, hm, hb, hl⟩
  · exact searchN_nil ao c s w
  · exact searchN_some b off cap L s w hb hl hs hn
set_option maxHeartbeats 1000000 in
theorem findField_any {v : Value} {L : List Fd} {w : World} (h : IsF w v L) (hs : Srt L) (hn : L.length ≤ 96) (s : Nm) :
    Calls Tryd.prog 51 #[v, .string (bs s)] w fun e w' => e = .returned (.tuple #[.int .i64 (lo s L), .bool (fnd s L)]) ∧ Below w.heap.size w w' := by
  have c := searchN_any h hs hn s
  generalize (lo s L : Int) = a at c ⊢
  generalize fnd s L = r at c ⊢
  clear h hs hn
  go_enter Tryd.func51, Tryd.ntmps51
  go_wp2_with (go_at_call 66; refine c.mono ?_; rintro e w' ⟨rfl, hB1⟩)
  go_ret2
  exact ⟨rfl, hB1⟩
end Go.Proofs.YtkmkhadacppdnaaDoor
