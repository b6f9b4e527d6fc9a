/-
  The walk of the law AskBack.
-/
import Derived.Test.YtmgkdghkenpmbaaGreatDoorAskX
namespace Go.Proofs.YtmgkdghkenpmbaaGreatDoor
open Go.RowKit
set_option linter.unusedVariables false
set_option linter.unusedSimpArgs false

set_option maxHeartbeats 4000000 in
set_option maxRecDepth 100000 in
theorem aback_yy {v : Value} {M : List Sp} {s : ByteArray} {w : World} (h : IsSp w v M) (hz : ∀ p ∈ M, SpSz p.st) (hM : M.length ≤ maxLen) (hs : s.size ≤ 140737488355328) (hT : Tab w) (hS : Sg w) (h1 : askE (M.map Sp.st) = 0) (h2 : paE s.data.toList = 0) :
    Calls Tryz.prog 3 #[v, .string s] w fun e w' => e = .returned (.bool true) ∧ Below w.heap.size w w' := by
  have cF := parse_fact w hS
  obtain ⟨av, cv, ev⟩ : ∃ av cv, v = .slice av M.length cv := by obtain ⟨a, c, e, _⟩ := h; exact ⟨a, c, e⟩
  subst ev
  have HK : Hid (IsSp w (.slice av M.length cv) M ∧ (∀ p ∈ M, SpSz p.st) ∧ M.length ≤ maxLen ∧ s.size ≤ 140737488355328 ∧ Tab w ∧ Sg w) := ⟨h, hz, hM, hs, hT, hS⟩
  have H1 := Lib.hid h1
  have H2 := Lib.hid h2
  clear h hz hM hs hT hS h1 h2
  go_enter Tryz.func3, Tryz.ntmps3
  go_wp2_with (go_at_call 5; refine cF.mono ?_; rintro e W0 ⟨⟨g, c, hh, d, rfl, f1, f2, f3, f4⟩, hB0⟩; have HB0 := Lib.hid hB0; clear hB0; refine Hid.out ?_)
  refine Lib.hid ?_
  have cP := print_ok (HK.out.1.on HB0.out) HK.out.2.1 HK.out.2.2.1 H1.out (tabOn HK.out.2.2.2.2.1 HB0.out) (HK.out.2.2.2.2.2.on HB0.out)
  have cB := fun (W : World) (hS : Sg W) => parse_back (l := M.map Sp.st) W hS H1.out
  generalize bs (askT (M.map Sp.st)) = tx at cP cB
  go_wp2_with (first | (go_at_call 6; refine cP.mono ?_; rintro e W1 ⟨rfl, hB1⟩; have HB1 := Lib.hid (on1 HB0.out hB1); clear hB1) | (go_at_call 5; refine (cB _ (HK.out.2.2.2.2.2.on HB1.out)).mono ?_; rintro e W2 ⟨v2, M2, rfl, hO2, hM2, hB2⟩; have HO2 := Lib.hid hO2; have HM2 := Lib.hid hM2; have HB2 := Lib.hid (on1 HB1.out hB2); clear hO2 hM2 hB2) | (go_at_call 7; refine (ssteps_same (own_isSp HO2.out) (HK.out.1.on HB2.out) HM2.out (by rw [← List.length_map (f := Sp.st), HM2.out, List.length_map]; exact (askE_sz H1.out).2.2.1) (fun p hp => (askE_sz (M := M2) (by rw [HM2.out]; exact H1.out)).2.2.2 p hp)).mono ?_; rintro e W3 ⟨rfl, hB3⟩; have HBx := Lib.hid (on1 HB2.out hB3); clear hB3; refine Hid.out ?_))
  refine Lib.hid ?_
  have cQ := parse_good s W3 HK.out.2.2.2.1 (HK.out.2.2.2.2.2.on HBx.out) H2.out
  go_wp2_with (first | (go_at_call 5; refine cQ.mono ?_; rintro e W4 ⟨v4, M4, rfl, hO4, ⟨p4, q4⟩, hB4⟩; have HB4 := Lib.hid (on1 HBx.out hB4); have HP4 := Lib.hid (And.intro hO4 (And.intro p4 q4)); clear hO4 p4 q4 hB4) | (go_at_call 6; refine (print_back (s := s) HP4.out.1 HP4.out.2.1 HP4.out.2.2 (tabOn HK.out.2.2.2.2.1 HB4.out) (HK.out.2.2.2.2.2.on HB4.out)).mono ?_; rintro e W5 ⟨rfl, hB5⟩))
  go_ret
  exact ⟨rfl, on1 HB4.out hB5⟩
set_option maxHeartbeats 4000000 in
set_option maxRecDepth 100000 in
theorem aback_yn {v : Value} {M : List Sp} {s : ByteArray} {w : World} (h : IsSp w v M) (hz : ∀ p ∈ M, SpSz p.st) (hM : M.length ≤ maxLen) (hs : s.size ≤ 140737488355328) (hT : Tab w) (hS : Sg w) (h1 : askE (M.map Sp.st) = 0) (h2 : ¬ paE s.data.toList = 0) :
    Calls Tryz.prog 3 #[v, .string s] w fun e w' => e = .returned (.bool true) ∧ Below w.heap.size w w' := by
  have cF := parse_fact w hS
  obtain ⟨av, cv, ev⟩ : ∃ av cv, v = .slice av M.length cv := by obtain ⟨a, c, e, _⟩ := h; exact ⟨a, c, e⟩
  subst ev
  have HK : Hid (IsSp w (.slice av M.length cv) M ∧ (∀ p ∈ M, SpSz p.st) ∧ M.length ≤ maxLen ∧ s.size ≤ 140737488355328 ∧ Tab w ∧ Sg w) := ⟨h, hz, hM, hs, hT, hS⟩
  have H1 := Lib.hid h1
  have H2 := Lib.hid h2
  clear h hz hM hs hT hS h1 h2
  go_enter Tryz.func3, Tryz.ntmps3
  go_wp2_with (go_at_call 5; refine cF.mono ?_; rintro e W0 ⟨⟨g, c, hh, d, rfl, f1, f2, f3, f4⟩, hB0⟩; have HB0 := Lib.hid hB0; clear hB0; refine Hid.out ?_)
  refine Lib.hid ?_
  have cP := print_ok (HK.out.1.on HB0.out) HK.out.2.1 HK.out.2.2.1 H1.out (tabOn HK.out.2.2.2.2.1 HB0.out) (HK.out.2.2.2.2.2.on HB0.out)
  have cB := fun (W : World) (hS : Sg W) => parse_back (l := M.map Sp.st) W hS H1.out
  generalize bs (askT (M.map Sp.st)) = tx at cP cB
  go_wp2_with (first | (go_at_call 6; refine cP.mono ?_; rintro e W1 ⟨rfl, hB1⟩; have HB1 := Lib.hid (on1 HB0.out hB1); clear hB1) | (go_at_call 5; refine (cB _ (HK.out.2.2.2.2.2.on HB1.out)).mono ?_; rintro e W2 ⟨v2, M2, rfl, hO2, hM2, hB2⟩; have HO2 := Lib.hid hO2; have HM2 := Lib.hid hM2; have HB2 := Lib.hid (on1 HB1.out hB2); clear hO2 hM2 hB2) | (go_at_call 7; refine (ssteps_same (own_isSp HO2.out) (HK.out.1.on HB2.out) HM2.out (by rw [← List.length_map (f := Sp.st), HM2.out, List.length_map]; exact (askE_sz H1.out).2.2.1) (fun p hp => (askE_sz (M := M2) (by rw [HM2.out]; exact H1.out)).2.2.2 p hp)).mono ?_; rintro e W3 ⟨rfl, hB3⟩; have HBx := Lib.hid (on1 HB2.out hB3); clear hB3; refine Hid.out ?_))
  refine Lib.hid ?_
  have cQ := parse_wrong s W3 HK.out.2.2.2.1 (HK.out.2.2.2.2.2.on HBx.out) H2.out
  generalize paE s.data.toList = z2 at cQ
  generalize paAt s.data.toList = z3 at cQ
  go_wp2_with (go_at_call 5; refine cQ.mono ?_; rintro e W4 ⟨v4, rfl, hO4, hB4⟩)
  go_ret
  exact ⟨rfl, on1 HBx.out hB4⟩
set_option maxHeartbeats 4000000 in
set_option maxRecDepth 100000 in
theorem aback_ny {v : Value} {M : List Sp} {s : ByteArray} {w : World} (h : IsSp w v M) (hz : ∀ p ∈ M, SpSz p.st) (hM : M.length ≤ maxLen) (hs : s.size ≤ 140737488355328) (hT : Tab w) (hS : Sg w) (h1 : ¬ askE (M.map Sp.st) = 0) (h2 : paE s.data.toList = 0) :
    Calls Tryz.prog 3 #[v, .string s] w fun e w' => e = .returned (.bool true) ∧ Below w.heap.size w w' := by
  have cF := parse_fact w hS
  obtain ⟨av, cv, ev⟩ : ∃ av cv, v = .slice av M.length cv := by obtain ⟨a, c, e, _⟩ := h; exact ⟨a, c, e⟩
  subst ev
  have HK : Hid (IsSp w (.slice av M.length cv) M ∧ (∀ p ∈ M, SpSz p.st) ∧ M.length ≤ maxLen ∧ s.size ≤ 140737488355328 ∧ Tab w ∧ Sg w) := ⟨h, hz, hM, hs, hT, hS⟩
  have H1 := Lib.hid h1
  have H2 := Lib.hid h2
  clear h hz hM hs hT hS h1 h2
  go_enter Tryz.func3, Tryz.ntmps3
  go_wp2_with (go_at_call 5; refine cF.mono ?_; rintro e W0 ⟨⟨g, c, hh, d, rfl, f1, f2, f3, f4⟩, hB0⟩; have HB0 := Lib.hid hB0; clear hB0; refine Hid.out ?_)
  refine Lib.hid ?_
  have cP := print_bad (HK.out.1.on HB0.out) HK.out.2.1 HK.out.2.2.1 H1.out
  generalize askE (M.map Sp.st) = z1 at cP
  go_wp2_with (go_at_call 6; refine cP.mono ?_; rintro e W1 ⟨rfl, hB1⟩; have HBx := Lib.hid (on1 HB0.out hB1); clear hB1; refine Hid.out ?_)
  refine Lib.hid ?_
  have cQ := parse_good s W1 HK.out.2.2.2.1 (HK.out.2.2.2.2.2.on HBx.out) H2.out
  go_wp2_with (first | (go_at_call 5; refine cQ.mono ?_; rintro e W4 ⟨v4, M4, rfl, hO4, ⟨p4, q4⟩, hB4⟩; have HB4 := Lib.hid (on1 HBx.out hB4); have HP4 := Lib.hid (And.intro hO4 (And.intro p4 q4)); clear hO4 p4 q4 hB4) | (go_at_call 6; refine (print_back (s := s) HP4.out.1 HP4.out.2.1 HP4.out.2.2 (tabOn HK.out.2.2.2.2.1 HB4.out) (HK.out.2.2.2.2.2.on HB4.out)).mono ?_; rintro e W5 ⟨rfl, hB5⟩))
  go_ret
  exact ⟨rfl, on1 HB4.out hB5⟩
set_option maxHeartbeats 4000000 in
set_option maxRecDepth 100000 in
theorem aback_nn {v : Value} {M : List Sp} {s : ByteArray} {w : World} (h : IsSp w v M) (hz : ∀ p ∈ M, SpSz p.st) (hM : M.length ≤ maxLen) (hs : s.size ≤ 140737488355328) (hT : Tab w) (hS : Sg w) (h1 : ¬ askE (M.map Sp.st) = 0) (h2 : ¬ paE s.data.toList = 0) :
    Calls Tryz.prog 3 #[v, .string s] w fun e w' => e = .returned (.bool true) ∧ Below w.heap.size w w' := by
  have cF := parse_fact w hS
  obtain ⟨av, cv, ev⟩ : ∃ av cv, v = .slice av M.length cv := by obtain ⟨a, c, e, _⟩ := h; exact ⟨a, c, e⟩
  subst ev
  have HK : Hid (IsSp w (.slice av M.length cv) M ∧ (∀ p ∈ M, SpSz p.st) ∧ M.length ≤ maxLen ∧ s.size ≤ 140737488355328 ∧ Tab w ∧ Sg w) := ⟨h, hz, hM, hs, hT, hS⟩
  have H1 := Lib.hid h1
  have H2 := Lib.hid h2
  clear h hz hM hs hT hS h1 h2
  go_enter Tryz.func3, Tryz.ntmps3
  go_wp2_with (go_at_call 5; refine cF.mono ?_; rintro e W0 ⟨⟨g, c, hh, d, rfl, f1, f2, f3, f4⟩, hB0⟩; have HB0 := Lib.hid hB0; clear hB0; refine Hid.out ?_)
  refine Lib.hid ?_
  have cP := print_bad (HK.out.1.on HB0.out) HK.out.2.1 HK.out.2.2.1 H1.out
  generalize askE (M.map Sp.st) = z1 at cP
  go_wp2_with (go_at_call 6; refine cP.mono ?_; rintro e W1 ⟨rfl, hB1⟩; have HBx := Lib.hid (on1 HB0.out hB1); clear hB1; refine Hid.out ?_)
  refine Lib.hid ?_
  have cQ := parse_wrong s W1 HK.out.2.2.2.1 (HK.out.2.2.2.2.2.on HBx.out) H2.out
  generalize paE s.data.toList = z2 at cQ
  generalize paAt s.data.toList = z3 at cQ
  go_wp2_with (go_at_call 5; refine cQ.mono ?_; rintro e W4 ⟨v4, rfl, hO4, hB4⟩)
  go_ret
  exact ⟨rfl, on1 HBx.out hB4⟩
theorem aback_any {v : Value} {M : List Sp} {s : ByteArray} {w : World} (h : IsSp w v M) (hz : ∀ p ∈ M, SpSz p.st) (hM : M.length ≤ maxLen) (hs : s.size ≤ 140737488355328) (hT : Tab w) (hS : Sg w) :
    Calls Tryz.prog 3 #[v, .string s] w fun e w' => e = .returned (.bool true) ∧ Below w.heap.size w w' := by
  by_cases h1 : askE (M.map Sp.st) = 0
  · by_cases h2 : paE s.data.toList = 0
    · exact aback_yy h hz hM hs hT hS h1 h2
    · exact aback_yn h hz hM hs hT hS h1 h2
  · by_cases h2 : paE s.data.toList = 0
    · exact aback_ny h hz hM hs hT hS h1 h2
    · exact aback_nn h hz hM hs hT hS h1 h2
end Go.Proofs.YtmgkdghkenpmbaaGreatDoor
