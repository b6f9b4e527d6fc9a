/-
  The walk of the law ValueBack, whatever the values and the text.
-/
import Derived.Test.YtbcfecjhgmljcaaDoorBack00
import Derived.Test.YtbcfecjhgmljcaaDoorBack01
import Derived.Test.YtbcfecjhgmljcaaDoorBack10
import Derived.Test.YtbcfecjhgmljcaaDoorBack11
namespace Go.Proofs.YtbcfecjhgmljcaaDoor
open Go.RowKit
set_option linter.unusedVariables false
set_option linter.unusedSimpArgs false

theorem showL_len {t n : Int} {l : List UInt8} (h : vErr t n l = 0) : (showL t n l).length ≤ 50 := by
  rcases vErr_ok h with ⟨rfl, h1, h2, rfl⟩ | ⟨rfl, hn, rfl⟩ | ⟨rfl, rfl, hl, hb⟩
  · have e : showL 1 n [] = Lib.itoa n := by unfold showL; rw [if_pos rfl]
    rw [e]
    unfold Lib.itoa
    split
    · have := dd_len 8 n.natAbs (by show _ < 1000000000; omega)
      simp; omega
    · have := dd_len 8 n.toNat (by show _ < 1000000000; omega)
      omega
  · rcases hn with rfl | rfl <;> decide
  · have e : showL 3 0 l = quo l := by unfold showL; rw [if_neg (by decide), if_neg (by decide)]
    have := dbl_len l
    rw [e]; simp [quo]; omega
theorem vErr_short {t n : Int} {l : List UInt8} (h : vErr t n l = 0) : l.length ≤ 20 := by
  rcases vErr_ok h with ⟨rfl, h1, h2, rfl⟩ | ⟨rfl, hn, rfl⟩ | ⟨rfl, rfl, hl, hb⟩
  · simp
  · simp
  · exact hl
theorem size_mk (l : List UInt8) : (⟨l.toArray⟩ : ByteArray).size = l.length := by
  show l.toArray.size = _
  rw [List.size_toArray]

theorem cErr_zero {ta na : Int} {la : List UInt8} {tb nb : Int} {lb : List UInt8} (h : cErr ta na la tb nb lb = 0) : vErr ta na la = 0 ∧ vErr tb nb lb = 0 ∧ ta = tb := by
  unfold cErr at h
  by_cases h1 : vErr ta na la = 0
  · rw [if_pos h1] at h
    by_cases h2 : vErr tb nb lb = 0
    · rw [if_pos h2] at h
      by_cases h3 : ta = tb
      · exact ⟨h1, h2, h3⟩
      · rw [if_neg h3] at h; simp at h
    · rw [if_neg h2] at h; exact absurd h h2
  · rw [if_neg h1] at h; exact absurd h h1
theorem cErr_mk {ta na : Int} {la : List UInt8} {nb : Int} {lb : List UInt8} (h1 : vErr ta na la = 0) (h2 : vErr ta nb lb = 0) : cErr ta na la ta nb lb = 0 := by
  unfold cErr; rw [if_pos h1, if_pos h2, if_pos rfl]
theorem cVal_mk {ta na : Int} {la : List UInt8} {nb : Int} {lb : List UInt8} (h1 : vErr ta na la = 0) (h2 : vErr ta nb lb = 0) : cVal ta na la ta nb lb = if ta = 3 then Lib.compareBytes la lb else Lib.compareInt na nb := by
  unfold cVal; rw [if_pos (cErr_mk h1 h2)]

theorem cmp_math (t na nb nc : Int) (sa sb sc : ByteArray) (h1 : vErr t na sa.data.toList = 0) (h2 : vErr t nb sb.data.toList = 0) (h3 : vErr t nc sc.data.toList = 0) :
    Hid ((t = t ∧ na = nb ∧ sa = sb ∧ cVal t na sa.data.toList t nb sb.data.toList = 0 ∧ cVal t nb sb.data.toList t na sa.data.toList = 0 ∧ (0 < cVal t nb sb.data.toList t nc sc.data.toList ∨ cVal t na sa.data.toList t nc sc.data.toList ≤ 0))
      ∨ (t = t ∧ ¬ na = nb ∧ sa = sb ∧ cVal t na sa.data.toList t nb sb.data.toList = -1 ∧ cVal t nb sb.data.toList t na sa.data.toList = 1 ∧ (0 < cVal t nb sb.data.toList t nc sc.data.toList ∨ cVal t na sa.data.toList t nc sc.data.toList ≤ 0))
      ∨ (t = t ∧ ¬ na = nb ∧ sa = sb ∧ cVal t na sa.data.toList t nb sb.data.toList = 1 ∧ cVal t nb sb.data.toList t na sa.data.toList = -1)
      ∨ (t = t ∧ na = nb ∧ ¬ sa.toList = sb.toList ∧ cVal t na sa.data.toList t nb sb.data.toList = -1 ∧ cVal t nb sb.data.toList t na sa.data.toList = 1 ∧ (0 < cVal t nb sb.data.toList t nc sc.data.toList ∨ cVal t na sa.data.toList t nc sc.data.toList ≤ 0))
      ∨ (t = t ∧ na = nb ∧ ¬ sa.toList = sb.toList ∧ cVal t na sa.data.toList t nb sb.data.toList = 1 ∧ cVal t nb sb.data.toList t na sa.data.toList = -1)) := by
  rw [cVal_mk h1 h2, cVal_mk h2 h1, cVal_mk h2 h3, cVal_mk h1 h3]
  show _ ∨ _
  by_cases ht : t = 3
  · subst ht
    simp only [if_true]
    have n1 : na = 0 := by rcases vErr_ok h1 with h | h | h <;> omega
    have n2 : nb = 0 := by rcases vErr_ok h2 with h | h | h <;> omega
    subst n1; subst n2
    have an := cmpB_anti sa.data.toList sb.data.toList
    have ze := cmpB_zero sa.data.toList sb.data.toList
    have tr := cmpB_trans sa.data.toList sb.data.toList sc.data.toList
    rcases cmpB_range sa.data.toList sb.data.toList with h | h | h
    · have hne : ¬ sa.toList = sb.toList := by
        rw [Lib.toList_data, Lib.toList_data]; intro e; have := ze.2 e; omega
      refine Or.inr (Or.inr (Or.inr (Or.inl ⟨by trivial, rfl, hne, h, by omega, ?_⟩)))
      by_cases hj : Lib.compareBytes sb.data.toList sc.data.toList ≤ 0
      · exact Or.inr (tr (by omega) hj)
      · exact Or.inl (by omega)
    · have he : sa.data.toList = sb.data.toList := ze.1 h
      have he2 : sa = sb := (list_eq he).trans (list_eq rfl).symm
      refine Or.inl ⟨by trivial, rfl, he2, h, by omega, ?_⟩
      by_cases hj : Lib.compareBytes sb.data.toList sc.data.toList ≤ 0
      · exact Or.inr (tr (by omega) hj)
      · exact Or.inl (by omega)
    · have hne : ¬ sa.toList = sb.toList := by
        rw [Lib.toList_data, Lib.toList_data]; intro e; have := ze.2 e; omega
      exact Or.inr (Or.inr (Or.inr (Or.inr ⟨by trivial, rfl, hne, h, by omega⟩)))
  · simp only [if_neg ht]
    have s1 : sa.data.toList = [] := by
      rcases vErr_ok h1 with h | h | h
      · exact h.2.2.2
      · exact h.2.2
      · exact absurd h.1 ht
    have s2 : sb.data.toList = [] := by
      rcases vErr_ok h2 with h | h | h
      · exact h.2.2.2
      · exact h.2.2
      · exact absurd h.1 ht
    have he2 : sa = sb := (list_eq s1).trans (list_eq s2).symm
    unfold Lib.compareInt
    by_cases hlt : na < nb
    · refine Or.inr (Or.inl ⟨by trivial, by omega, he2, by rw [if_pos hlt], by rw [if_neg (by omega), if_pos (by omega)], ?_⟩)
      by_cases hj : nc < nb
      · left; rw [if_neg (by omega), if_pos (by omega)]; decide
      · right; rw [if_pos (by omega)]; decide
    · by_cases hgt : nb < na
      · exact Or.inr (Or.inr (Or.inl ⟨by trivial, by omega, he2, by rw [if_neg hlt, if_pos hgt], by rw [if_pos hgt]⟩))
      · have hen : na = nb := by omega
        refine Or.inl ⟨by trivial, hen, he2, by rw [if_neg hlt, if_neg hgt], by rw [if_neg hgt, if_neg hlt], ?_⟩
        by_cases hj : nc < nb
        · left; rw [if_neg (by omega), if_pos (by omega)]; decide
        · right; rw [hen]; split
          · decide
          · first | decide | (rw [if_neg (by omega)]; decide)

theorem cmp_gives (ta na : Int) (sa : ByteArray) (tb nb : Int) (sb : ByteArray) (ha : sa.size ≤ maxLen) (hb : sb.size ≤ maxLen) :
    Gives 14 #[agg ta na sa, agg tb nb sb] (.tuple #[.int .i64 (cVal ta na sa.data.toList tb nb sb.data.toList), errV (cErr ta na sa.data.toList tb nb sb.data.toList)]) :=
  fun w => compare_any ta na sa tb nb sb w ha hb

theorem print_ok (t n : Int) (s : ByteArray) (h : vErr t n s.data.toList = 0) : GivesT 10 #[agg t n s] (.tuple #[.string ⟨(showL t n s.data.toList).toArray⟩, .nilIface]) := fun w hT => by
  have hs : s.size ≤ maxLen := by rw [size_len]; have := vErr_short h; unfold maxLen; omega
  have := print_any t n s w hs hT
  rw [if_pos h] at this; exact this
theorem print_no (t n : Int) (s : ByteArray) (hs : s.size ≤ maxLen) (h : ¬ vErr t n s.data.toList = 0) : GivesT 10 #[agg t n s] (.tuple #[.string ⟨#[]⟩, .iface 44 (.int .i64 (vErr t n s.data.toList))]) := fun w hT => by
  have := print_any t n s w hs hT
  rw [if_neg h, errV_ne h] at this; exact this
theorem parse_ok (s : ByteArray) (hs : s.size ≤ 140737488355328) (h : (parseL s.data.toList).1 = 0) : Gives 12 #[.string s] (.tuple #[agg (parseL s.data.toList).2.1 (parseL s.data.toList).2.2.1 ⟨(parseL s.data.toList).2.2.2.toArray⟩, .nilIface]) := fun w => by
  have := parse_any s w hs
  rw [h, resV_0] at this; exact this
theorem parse_no (s : ByteArray) (hs : s.size ≤ 140737488355328) (h : ¬ (parseL s.data.toList).1 = 0) : Gives 12 #[.string s] (.tuple #[agg 0 0 ⟨#[]⟩, .iface 44 (.int .i64 (parseL s.data.toList).1)]) := fun w => by
  have := parse_any s w hs
  rw [resV_ne h] at this; exact this
theorem back_parse (t n : Int) (s : ByteArray) (h : vErr t n s.data.toList = 0) : Gives 12 #[.string ⟨(showL t n s.data.toList).toArray⟩] (.tuple #[agg t n s, .nilIface]) := fun w => by
  have hp := parse_show h
  have := parse_ok ⟨(showL t n s.data.toList).toArray⟩ (by rw [size_mk]; have := showL_len h; omega) (by show (parseL (showL t n s.data.toList)).1 = 0; rw [hp]) w
  rw [show (⟨(showL t n s.data.toList).toArray⟩ : ByteArray).data.toList = showL t n s.data.toList from rfl, hp] at this
  exact this

theorem back_walk (ta na : Int) (sa : ByteArray) (tb nb : Int) (sb : ByteArray) (tc nc : Int) (sc s : ByteArray) (w : World) (hT : Tab w) (ha : sa.size ≤ maxLen) (hb : sb.size ≤ maxLen) (hc : sc.size ≤ maxLen) (hs : s.size ≤ 140737488355328) :
    Calls Tryd.prog 4 #[agg ta na sa, agg tb nb sb, agg tc nc sc, .string s] w fun e w' => e = .returned (.bool true) ∧ Below w.heap.size w w' := by
  have c1 := cmp_gives ta na sa tb nb sb ha hb
  have c2 := cmp_gives tb nb sb tc nc sc hb hc
  have c3 := cmp_gives ta na sa tc nc sc ha hc
  have c4 := cmp_gives tb nb sb ta na sa hb ha
  by_cases hA : vErr ta na sa.data.toList = 0
  · have p1 := print_ok ta na sa hA
    have p2 := back_parse ta na sa hA
    by_cases hS : (parseL s.data.toList).1 = 0
    · have q1 := parse_ok s hs hS
      obtain ⟨v1, v2⟩ := show_parse hS
      have q2 := print_ok (parseL s.data.toList).2.1 (parseL s.data.toList).2.2.1 ⟨(parseL s.data.toList).2.2.2.toArray⟩ v1
      rw [show (⟨(parseL s.data.toList).2.2.2.toArray⟩ : ByteArray).data.toList = (parseL s.data.toList).2.2.2 from rfl, v2, ← list_eq (s := s) rfl] at q2
      by_cases e1 : cErr ta na sa.data.toList tb nb sb.data.toList = 0
      · by_cases e2 : cErr tb nb sb.data.toList tc nc sc.data.toList = 0
        · obtain ⟨va, vb, rfl⟩ := cErr_zero e1
          obtain ⟨_, vc, rfl⟩ := cErr_zero e2
          rw [cErr_mk va vb, errV_0] at c1
          rw [cErr_mk vb vc, errV_0] at c2
          rw [cErr_mk va vc, errV_0] at c3
          rw [cErr_mk vb va, errV_0] at c4
          exact back_113 ta na sa ta nb sb ta nc sc s w hT 0 0 0 _ _ _ _ .nilIface .nilIface .nilIface _ _ _ _ p1 p2 q1 q2 c1 c2 c3 c4 (cmp_math ta na nb nc sa sb sc va vb vc)
        · rw [e1, errV_0] at c1
          rw [errV_ne e2] at c2
          exact back_112 ta na sa tb nb sb tc nc sc s w hT 0 0 _ _ _ _ _ .nilIface _ _ _ _ _ _ p1 p2 q1 q2 c1 c2 c3 c4
      · rw [errV_ne e1] at c1
        exact back_111 ta na sa tb nb sb tc nc sc s w hT 0 0 _ _ _ _ _ _ _ _ _ _ _ _ p1 p2 q1 q2 c1 c2 c3 c4
    · have q1 := parse_no s hs hS
      by_cases e1 : cErr ta na sa.data.toList tb nb sb.data.toList = 0
      · by_cases e2 : cErr tb nb sb.data.toList tc nc sc.data.toList = 0
        · obtain ⟨va, vb, rfl⟩ := cErr_zero e1
          obtain ⟨_, vc, rfl⟩ := cErr_zero e2
          rw [cErr_mk va vb, errV_0] at c1
          rw [cErr_mk vb vc, errV_0] at c2
          rw [cErr_mk va vc, errV_0] at c3
          rw [cErr_mk vb va, errV_0] at c4
          exact back_103 ta na sa ta nb sb ta nc sc s w hT 0 _ 0 _ _ _ _ .nilIface .nilIface .nilIface _ 0 0 ⟨#[]⟩ p1 p2 q1 c1 c2 c3 c4 (cmp_math ta na nb nc sa sb sc va vb vc)
        · rw [e1, errV_0] at c1
          rw [errV_ne e2] at c2
          exact back_102 ta na sa tb nb sb tc nc sc s w hT 0 _ _ _ _ _ _ .nilIface _ _ _ 0 0 ⟨#[]⟩ p1 p2 q1 c1 c2 c3 c4
      · rw [errV_ne e1] at c1
        exact back_101 ta na sa tb nb sb tc nc sc s w hT 0 _ _ _ _ _ _ _ _ _ _ 0 0 ⟨#[]⟩ p1 p2 q1 c1 c2 c3 c4
  · have p1 := print_no ta na sa ha hA
    have e1 : ¬ cErr ta na sa.data.toList tb nb sb.data.toList = 0 := fun h => hA (cErr_zero h).1
    rw [errV_ne e1] at c1
    by_cases hS : (parseL s.data.toList).1 = 0
    · have q1 := parse_ok s hs hS
      obtain ⟨v1, v2⟩ := show_parse hS
      have q2 := print_ok (parseL s.data.toList).2.1 (parseL s.data.toList).2.2.1 ⟨(parseL s.data.toList).2.2.2.toArray⟩ v1
      rw [show (⟨(parseL s.data.toList).2.2.2.toArray⟩ : ByteArray).data.toList = (parseL s.data.toList).2.2.2 from rfl, v2, ← list_eq (s := s) rfl] at q2
      exact back_011 ta na sa tb nb sb tc nc sc s w hT _ 0 _ _ _ _ _ _ _ _ ⟨#[]⟩ _ _ _ p1 q1 q2 c1 c2 c3 c4
    · have q1 := parse_no s hs hS
      exact back_001 ta na sa tb nb sb tc nc sc s w hT _ _ _ _ _ _ _ _ _ _ ⟨#[]⟩ 0 0 ⟨#[]⟩ p1 q1 c1 c2 c3 c4
end Go.Proofs.YtbcfecjhgmljcaaDoor
