/-
  The walk of the law ValueTells, whatever the values and the text.
-/
import Derived.Test.YtbcfecjhgmljcaaDoorTells0
import Derived.Test.YtbcfecjhgmljcaaDoorTells1
import Derived.Test.YtbcfecjhgmljcaaDoorTells2
import Derived.Test.YtbcfecjhgmljcaaDoorTells3
namespace Go.Proofs.YtbcfecjhgmljcaaDoor
open Go.RowKit
set_option linter.unusedVariables false
set_option linter.unusedSimpArgs false

/-- What is read, or the zero value. -/
def pv (l : List UInt8) : Int × Int × List UInt8 := if (parseL l).1 = 0 then (parseL l).2 else (0, 0, [])
theorem read_pv (s : ByteArray) (hs : s.size ≤ 140737488355328) : Gives 11 #[.string s] (.tuple #[agg (pv s.data.toList).1 (pv s.data.toList).2.1 ⟨(pv s.data.toList).2.2.toArray⟩, .int .i64 (parseL s.data.toList).1]) := fun w => by
  have := read_any s hs w
  by_cases h : (parseL s.data.toList).1 = 0
  · have e : pv s.data.toList = (parseL s.data.toList).2 := by unfold pv; rw [if_pos h]
    rw [e]
    rw [h] at this ⊢
    exact this
  · have e : pv s.data.toList = (0, 0, []) := by unfold pv; rw [if_neg h]
    rw [e]
    rw [rdV_ne h] at this
    exact this
theorem parse_pv (s : ByteArray) (hs : s.size ≤ 140737488355328) : Gives 12 #[.string s] (.tuple #[agg (pv s.data.toList).1 (pv s.data.toList).2.1 ⟨(pv s.data.toList).2.2.toArray⟩, errV (parseL s.data.toList).1]) := fun w => by
  by_cases h : (parseL s.data.toList).1 = 0
  · have e : pv s.data.toList = (parseL s.data.toList).2 := by unfold pv; rw [if_pos h]
    rw [e, h]
    exact parse_ok s hs h w
  · have e : pv s.data.toList = (0, 0, []) := by unfold pv; rw [if_neg h]
    rw [e, errV_ne h]
    exact parse_no s hs h w
theorem check_gives (t n : Int) (s : ByteArray) (hs : s.size ≤ maxLen) : Gives 8 #[agg t n s] (errV (vErr t n s.data.toList)) := fun w => by
  refine (check_any t n s w hs).mono ?_
  rintro e w' ⟨rfl, rfl⟩
  exact ⟨rfl, (Below.refl _ w).alloc (Nat.le_refl _) _⟩
theorem same (x : Int) : Same x := fun w hg => error_any x w hg
theorem cErr_left {ta na : Int} {la : List UInt8} {tb nb : Int} {lb : List UInt8} (h : ¬ vErr ta na la = 0) : cErr ta na la tb nb lb = vErr ta na la := by unfold cErr; rw [if_neg h]
theorem cErr_right {ta na : Int} {la : List UInt8} {tb nb : Int} {lb : List UInt8} (h : vErr ta na la = 0) (h2 : ¬ vErr tb nb lb = 0) : cErr ta na la tb nb lb = vErr tb nb lb := by unfold cErr; rw [if_pos h, if_neg h2]
theorem cErr_type {ta na : Int} {la : List UInt8} {tb nb : Int} {lb : List UInt8} (h : vErr ta na la = 0) (h2 : vErr tb nb lb = 0) (h3 : ¬ ta = tb) : cErr ta na la tb nb lb = 8 := by unfold cErr; rw [if_pos h, if_pos h2, if_neg h3]
theorem cVal_no {ta na : Int} {la : List UInt8} {tb nb : Int} {lb : List UInt8} (h : ¬ cErr ta na la tb nb lb = 0) : cVal ta na la tb nb lb = 0 := by unfold cVal; rw [if_neg h]

theorem tells_walk (ta na : Int) (sa : ByteArray) (tb nb : Int) (sb s : ByteArray) (w : World) (hT : Tab w) (hg : Hnd w) (ha : sa.size ≤ maxLen) (hb : sb.size ≤ maxLen) (hs : s.size ≤ 140737488355328) :
    Calls Tryd.prog 3 #[agg ta na sa, agg tb nb sb, .string s] w fun e w' => e = .returned (.bool true) ∧ Below w.heap.size w w' := by
  have hsm : s.size ≤ maxLen := Nat.le_trans hs (by unfold maxLen; decide)
  have hV := rvalue_any ta na sa ha
  have hC := check_gives ta na sa ha
  have hR := read_pv s hs
  have hP := parse_pv s hs
  have hN := fun w => name_any s w hsm
  have hM := fun w => rname_any s w hsm
  have hCm := cmp_gives ta na sa tb nb sb ha hb
  by_cases h1 : vErr ta na sa.data.toList = 0
  · have hSh := show_any ta na sa h1
    have hPr := print_ok ta na sa h1
    rw [← errV_0, ← h1] at hPr
    have hVb := rvalue_any tb nb sb hb
    by_cases h2 : vErr tb nb sb.data.toList = 0
    · by_cases h3 : ta = tb
      · subst h3
        rw [cVal_mk h1 h2, cErr_mk h1 h2] at hCm
        exact tells_3 ta na sa ta nb sb s w hT hg _ _ _ _ _ _ _ _ _ hV hC (same _) hR hP (same _) hN hM (same _) h1 hSh hPr hVb h2 rfl (same 0) (order_any ta na sa nb sb h1 h2) hCm
      · have e8 := cErr_type h1 h2 h3
        rw [cVal_no (by rw [e8]; decide), e8] at hCm
        exact tells_2 ta na sa tb nb sb s w hT hg _ _ _ _ 0 _ _ _ _ hV hC (same _) hR hP (same _) hN hM (same _) h1 hSh hPr hVb h2 (by simpa using h3) (same 8) hCm
    · have e2 := cErr_right (tb := tb) (nb := nb) (lb := sb.data.toList) h1 h2
      rw [cVal_no (by rw [e2]; exact h2), e2] at hCm
      exact tells_1 ta na sa tb nb sb s w hT hg _ _ _ _ 0 _ _ _ _ hV hC (same _) hR hP (same _) hN hM (same _) h1 hSh hPr hVb h2 (same _) hCm
  · have hPr := print_no ta na sa ha h1
    rw [← errV_ne h1] at hPr
    have e1 := cErr_left (tb := tb) (nb := nb) (lb := sb.data.toList) h1
    rw [cVal_no (by rw [e1]; exact h1), e1] at hCm
    exact tells_0 ta na sa tb nb sb s w hT hg _ 0 _ _ 0 _ _ _ ⟨#[]⟩ hV hC (same _) hR hP (same _) hN hM (same _) h1 hPr hCm
end Go.Proofs.YtbcfecjhgmljcaaDoor
