/-
  The walk of record.Unset.
-/
import Derived.Test.YtghlncdnnmpikaaGreatDoorUnB0
namespace Go.Proofs.YtghlncdnnmpikaaGreatDoor
open Go.RowKit
set_option linter.unusedVariables false
set_option linter.unusedSimpArgs false
set_option maxHeartbeats 8000000 in
set_option maxRecDepth 100000 in
theorem unset_some (b off cap : Nat) (L : List Pr) (s : ByteArray) (w : World) (hb : b < w.heap.size) (hL : Lies w b off L) (hs : Sz L) (hcap : L.length ≤ cap) (he : fErr s.toList L = 0) (j : Nat) (hj : idx s.toList L 0 = (j : Int)) (hjl : j < L.length) (hn : L.length ≤ 8) :
    Calls Tryz.prog 14 #[.slice (some ⟨b, off, none⟩) L.length cap, .string s] w fun e w' => ∃ v, e = .returned (.tuple #[v, .nilIface]) ∧ w'.ownsRow w.heap.size 27 4 v (L.take j ++ L.drop (j + 1)).length (cellsOf (L.take j ++ L.drop (j + 1))) ∧ Below w.heap.size w w' := by
  have c1 := find_any (v := .slice (some ⟨b, off, none⟩) L.length cap) (w := w) (.inr ⟨b, off, cap, rfl, hcap, hb, hL⟩) hs (by unfold maxLen; omega) s
  have hA : fAt s.toList L = (j : Int) := by unfold fAt; rw [if_pos he, hj]
  rw [he, errV_0, hA] at c1
  have HK : Hid (Lies w b off L) := hL
  have h1 : (j : Int) ≤ (L.length : Int) := by omega
  have h1c : (j : Int) ≤ (cap : Int) := by omega
  have h2 : (j : Int) + 1 ≤ (L.length : Int) := by omega
  have hw : IntKind.i64.wrap ((j : Int) + 1) = (j : Int) + 1 := by rw [IntKind.wrap_i64]; omega
  have ht : ((j : Int) + 1).toNat = j + 1 := by omega
  have e1 : Hid ((L.take j).length = j ∧ (L.drop (j + 1)).length = L.length - (j + 1)) := ⟨by simp; omega, by simp⟩
  clear hL hs he hj hA
  by_cases hc : cap = j + 1
  · have hl : Hid (L.length = j + 1) := by show _ = _; omega
    subst hc
    go_enter Tryz.func14, Tryz.ntmps14
    go_wp2_with (go_at_call 24; refine c1.mono ?_; rintro e W1 ⟨rfl, hB1⟩; refine Hid.out ?_)
    refine Lib.hid ?_
    have hbW : b < W1.heap.size := Nat.lt_of_lt_of_le hb hB1.size
    have cc := cat_call (cap := j + 1) (o2 := off) (c2 := 0) HK.out hb hB1 (Or.inl hl.out) e1 hn
    rw [show L.length - (j + 1) = 0 by have := hl.out; omega] at cc
    go_wp2_with fail
    go_region_with (go_at_call 25; refine cc.mono ?_; rintro e W2 ⟨v2, rfl, hown2, hB2⟩)
    all_goals
      go_wp2
      go_ret2
      exact ⟨v2, rfl, own_base hown2 (Nat.le_trans hB1.size (Nat.le_succ _)), un_below hB1 hB2⟩
  · go_enter Tryz.func14, Tryz.ntmps14
    go_wp2_with (go_at_call 24; refine c1.mono ?_; rintro e W1 ⟨rfl, hB1⟩; refine Hid.out ?_)
    refine Lib.hid ?_
    have hbW : b < W1.heap.size := Nat.lt_of_lt_of_le hb hB1.size
    have cc := cat_call (cap := cap) (c2 := cap - (j + 1)) (o2 := off + (j + 1) * 4) HK.out hb hB1 (Or.inr rfl) e1 hn
    go_wp2_with fail
    go_region_with (go_at_call 25; refine cc.mono ?_; rintro e W2 ⟨v2, rfl, hown2, hB2⟩)
    all_goals
      go_wp2
      go_ret2
      exact ⟨v2, rfl, own_base hown2 (Nat.le_trans hB1.size (Nat.le_succ _)), un_below hB1 hB2⟩
theorem unset_any {v : Value} {L : List Pr} {w : World} (h : IsRec w v L) (hs : Sz L) (s : ByteArray) (hr : rErr L = 0) (j : Nat) (hj : idx s.toList L 0 = (j : Int)) (hjl : j < L.length) :
    Calls Tryz.prog 14 #[v, .string s] w fun e w' => ∃ ao cp, e = .returned (.tuple #[.slice ao (L.length - 1) cp, .nilIface]) ∧ IsRec w' (.slice ao (L.length - 1) cp) (L.take j ++ L.drop (j + 1)) ∧ Below w.heap.size w w' := by
  have hn := rErr_len hr
  have he : fErr s.toList L = 0 := by unfold fErr; rw [if_pos hr, if_neg (by rw [hj]; omega)]
  rcases h with ⟨rfl, rfl⟩ | ⟨b, off, cap, rfl, hc, hb, hl⟩
  · simp at hjl
  · refine (unset_some b off cap L s w hb hl hs hc he j hj hjl hn).mono ?_
    rintro e w' ⟨v, rfl, ho, hB⟩
    have hlen : (L.take j ++ L.drop (j + 1)).length = L.length - 1 := by simp; omega
    obtain ⟨ao, cp, rfl⟩ := own_slice ho
    rw [hlen] at ho ⊢
    refine ⟨ao, cp, rfl, ?_, hB⟩
    rw [← hlen] at ho ⊢
    exact own_isRec ho
end Go.Proofs.YtghlncdnnmpikaaGreatDoor
