/-
  The walk of the law AskTells.
-/
import Derived.Test.YtmgkdghkenpmbaaGreatDoorKtB
import Derived.Test.YtmgkdghkenpmbaaGreatDoorKrB
import Derived.Test.YtmgkdghkenpmbaaGreatDoorTellsI
namespace Go.Proofs.YtmgkdghkenpmbaaGreatDoor
open Go.RowKit
set_option linter.unusedVariables false
set_option linter.unusedSimpArgs false

/-- Both readers, held side by side. -/
theorem both_read (s : ByteArray) (hs : s.size ≤ 10000000) : ∃ (a z : Int) (l : List St), l.length ≤ 1000 ∧ (∀ p ∈ l, p.ts.length ≤ 1000) ∧
    (∀ W, Calls Tryz.prog 12 #[.string s] W fun e w' => ∃ v M, e = .returned (.tuple #[v, .int .i64 a, .int .i64 z]) ∧ OwnSp w' W.heap.size v M ∧ M.map Sp.st = l ∧ Below W.heap.size W w') ∧
    (∀ W, Sg W → Calls Tryz.prog 5 #[.string s] W fun e w' => ∃ v M, e = .returned (.tuple #[v, .int .i64 a, errV z]) ∧ OwnSp w' W.heap.size v M ∧ M.map Sp.st = l ∧ Below W.heap.size W w') := by
  by_cases hz : paE s.data.toList = 0
  · rcases hq : (stepsR true s.data.toList).2 with _ | l
    · unfold paE at hz; rw [hq] at hz; exact absurd hz (by decide)
    have he : askE l = 0 := by rw [← (paE_of hq).1]; exact hz
    obtain ⟨h0, h6, hst⟩ := askE_right he
    have hok := stsP_right hst
    refine ⟨paAt s.data.toList, paE s.data.toList, l, by omega, fun p hp => by have := (hok p hp).2.2.1; omega, fun W => (readAsk_any s W hs).mono ?_, fun W hS => (parseP_any s W (by omega) hS).mono ?_⟩
    · rintro e w' ⟨⟨v, M, rfl, hO, hy, _⟩, hB⟩
      have := hy hz
      rw [hq] at this
      injection this with this
      exact ⟨v, M, rfl, hO, this.symm, hB⟩
    · rintro e w' ⟨⟨v, M, rfl, hO, hy, _⟩, hB⟩
      obtain ⟨l', h1, h2⟩ := hy hz
      rw [hq] at h1
      injection h1 with h1
      subst h1
      exact ⟨v, M, rfl, hO, by rw [h2, cap_same he], hB⟩
  · refine ⟨paAt s.data.toList, paE s.data.toList, [], by simp, fun p hp => (by cases hp), fun W => (readAsk_any s W hs).mono ?_, fun W hS => (parseP_any s W (by omega) hS).mono ?_⟩
    · rintro e w' ⟨⟨v, M, rfl, hO, _, hn⟩, hB⟩
      exact ⟨v, M, rfl, hO, by rw [hn hz]; rfl, hB⟩
    · rintro e w' ⟨⟨v, M, rfl, hO, _, hn⟩, hB⟩
      exact ⟨v, M, rfl, hO, by rw [hn hz]; rfl, hB⟩
set_option maxHeartbeats 4000000 in
set_option maxRecDepth 100000 in
theorem atells_y {v : Value} {M : List Sp} {s : ByteArray} {w : World} (h : IsSp w v M) (hz : ∀ p ∈ M, SpSz p.st) (hM : M.length ≤ maxLen) (hs : s.size ≤ 10000000) (hT : Tab w) (hS : Sg w) (hg : Hnd w) (h1 : askE (M.map Sp.st) = 0) :
    Calls Tryz.prog 4 #[v, .string s] w fun e w' => e = .returned (.bool true) ∧ Below w.heap.size w w' := by
  obtain ⟨a, z, l, hl1, hl2, cR, cQ⟩ := both_read s hs
  obtain ⟨av, cv, ev⟩ : ∃ av cv, v = .slice av M.length cv := by obtain ⟨a, c, e, _⟩ := h; exact ⟨a, c, e⟩
  subst ev
  have HC := Lib.hid (And.intro cR cQ)
  have HK : Hid (IsSp w (.slice av M.length cv) M ∧ (∀ p ∈ M, SpSz p.st) ∧ M.length ≤ maxLen ∧ Tab w ∧ Sg w ∧ Hnd w) := ⟨h, hz, hM, hT, hS, hg⟩
  have HL := Lib.hid (And.intro hl1 hl2)
  have H1 := Lib.hid h1
  have B0 := Lib.hid (Below.refl w.heap.size w)
  have c8 := kask_any h hz hM
  clear h hz hM hs hT hS hg hl1 hl2 cR cQ h1
  rw [H1.out] at c8
  go_enter Tryz.func4, Tryz.ntmps4
  go_wp2_with (go_at_call 8; refine (c8).mono ?_; rintro e W1 ⟨rfl, hB⟩; refine Hid.out ?_)
  refine Lib.hid ?_
  clear c8
  have B1 := Lib.hid (on1 B0.out hB)
  clear hB
  have c10 := plain_any (HK.out.1.on B1.out) HK.out.2.1 HK.out.2.2.1
  rw [H1.out] at c10
  go_wp2_with (go_at_call 10; refine (c10).mono ?_; rintro e W2 ⟨rfl, hB⟩; refine Hid.out ?_)
  refine Lib.hid ?_
  clear c10
  have B2 := Lib.hid (on1 B1.out hB)
  clear hB
  go_wp2_with (go_at_call 9; refine (error_any 0 _ (hndOn HK.out.2.2.2.2.2 B2.out)).mono ?_; rintro e W3 ⟨rfl, hB⟩; refine Hid.out ?_)
  refine Lib.hid ?_
  have B3 := Lib.hid (on1 B2.out hB)
  clear hB
  have c11 := askText_any (HK.out.1.on B3.out) H1.out
  have c6 := fun (W : World) (hB : Below w.heap.size w W) => print_ok (HK.out.1.on hB) HK.out.2.1 HK.out.2.2.1 H1.out (tabOn HK.out.2.2.2.1 hB) (HK.out.2.2.2.2.1.on hB)
  generalize bs (askT (M.map Sp.st)) = tx at c11 c6
  go_wp2_with (go_at_call 11; refine (c11).mono ?_; rintro e W4 ⟨rfl, hB⟩; refine Hid.out ?_)
  refine Lib.hid ?_
  clear c11
  have B4 := Lib.hid (on1 B3.out hB)
  clear hB
  go_wp2_with (go_at_call 6; refine (c6 _ B4.out).mono ?_; rintro e W5 ⟨rfl, hB⟩; refine Hid.out ?_)
  refine Lib.hid ?_
  clear c6
  have B5 := Lib.hid (on1 B4.out hB)
  clear hB
  go_wp2_with (go_at_call 9; refine (error_any 0 _ (hndOn HK.out.2.2.2.2.2 B5.out)).mono ?_; rintro e W6 ⟨rfl, hB⟩; refine Hid.out ?_)
  refine Lib.hid ?_
  have B6 := Lib.hid (on1 B5.out hB)
  clear hB
  go_wp2_with (go_at_call 12; refine (HC.out.1 _).mono ?_; rintro e W7 ⟨v2, M2, rfl, hO2, hm2, hB⟩; refine Hid.out ?_)
  refine Lib.hid ?_
  have HO2 := Lib.hid (And.intro hO2 hm2)
  obtain ⟨a2, d2, e2⟩ := own_slice hO2.1
  subst e2
  clear hO2 hm2
  have B7 := Lib.hid (on1 B6.out hB)
  clear hB
  go_wp2_with (go_at_call 5; refine (HC.out.2 _ (HK.out.2.2.2.2.1.on B7.out)).mono ?_; rintro e W8 ⟨v3, M3, rfl, hO3, hm3, hB⟩; refine Hid.out ?_)
  refine Lib.hid ?_
  have HO3 := Lib.hid (And.intro hO3 hm3)
  obtain ⟨a3, d3, e3⟩ := own_slice hO3.1
  subst e3
  have HO4 := Lib.hid (HO2.out.1.on hB)
  clear hO3 hm3
  have B8 := Lib.hid (on1 B7.out hB)
  clear hB
  go_wp2_with (go_at_call 9; refine (error_any z _ (hndOn HK.out.2.2.2.2.2 B8.out)).mono ?_; rintro e W9 ⟨rfl, hB⟩; refine Hid.out ?_)
  refine Lib.hid ?_
  have HX := Lib.hid (And.intro (HO3.out.1.on hB) (HO4.out.on hB))
  have B9 := Lib.hid (on1 B8.out hB)
  clear hB
  have hmm : M3.map Sp.st = M2.map Sp.st := by rw [HO3.out.2, HO2.out.2]
  have c7 := ssteps_same (own_isSp HX.out.1) (own_isSp HX.out.2) hmm (by have := congrArg List.length HO3.out.2; rw [List.length_map] at this; have := HL.out.1; omega) (fun p hp => HL.out.2 p.st (by rw [← HO3.out.2]; exact List.mem_map_of_mem hp))
  clear hmm
  go_wp2_with (go_at_call 7; refine c7.mono ?_; rintro e W10 ⟨rfl, hB⟩)
  go_ret
  exact ⟨rfl, on1 B9.out hB⟩
set_option maxHeartbeats 4000000 in
set_option maxRecDepth 100000 in
theorem atells_n {v : Value} {M : List Sp} {s : ByteArray} {w : World} (h : IsSp w v M) (hz : ∀ p ∈ M, SpSz p.st) (hM : M.length ≤ maxLen) (hs : s.size ≤ 10000000) (hT : Tab w) (hS : Sg w) (hg : Hnd w) (h1 : ¬ askE (M.map Sp.st) = 0) :
    Calls Tryz.prog 4 #[v, .string s] w fun e w' => e = .returned (.bool true) ∧ Below w.heap.size w w' := by
  obtain ⟨a, z, l, hl1, hl2, cR, cQ⟩ := both_read s hs
  obtain ⟨av, cv, ev⟩ : ∃ av cv, v = .slice av M.length cv := by obtain ⟨a, c, e, _⟩ := h; exact ⟨a, c, e⟩
  subst ev
  have HC := Lib.hid (And.intro cR cQ)
  have HK : Hid (IsSp w (.slice av M.length cv) M ∧ (∀ p ∈ M, SpSz p.st) ∧ M.length ≤ maxLen ∧ Tab w ∧ Sg w ∧ Hnd w) := ⟨h, hz, hM, hT, hS, hg⟩
  have HL := Lib.hid (And.intro hl1 hl2)
  have H1 := Lib.hid h1
  have B0 := Lib.hid (Below.refl w.heap.size w)
  have c8 := kask_any h hz hM
  clear h hz hM hs hT hS hg hl1 hl2 cR cQ h1
  go_enter Tryz.func4, Tryz.ntmps4
  have c10 := fun (W : World) (hB : Below w.heap.size w W) => plain_any (HK.out.1.on hB) HK.out.2.1 HK.out.2.2.1
  have c6 := fun (W : World) (hB : Below w.heap.size w W) => print_bad (HK.out.1.on hB) HK.out.2.1 HK.out.2.2.1 H1.out
  rw [← errV_ne H1.out] at c6
  have hzb : (askE (M.map Sp.st) == 0) = false := by have := H1.out; simpa using this
  generalize askE (M.map Sp.st) = y at c8 c10 c6 hzb
  go_wp2_with (go_at_call 8; refine (c8).mono ?_; rintro e W1 ⟨rfl, hB⟩; refine Hid.out ?_)
  refine Lib.hid ?_
  clear c8
  have B1 := Lib.hid (on1 B0.out hB)
  clear hB
  go_wp2_with (go_at_call 10; refine (c10 _ B1.out).mono ?_; rintro e W2 ⟨rfl, hB⟩; refine Hid.out ?_)
  refine Lib.hid ?_
  clear c10
  have B2 := Lib.hid (on1 B1.out hB)
  clear hB
  go_wp2_with (go_at_call 9; refine (error_any y _ (hndOn HK.out.2.2.2.2.2 B2.out)).mono ?_; rintro e W3 ⟨rfl, hB⟩; refine Hid.out ?_)
  refine Lib.hid ?_
  have B3 := Lib.hid (on1 B2.out hB)
  clear hB
  go_wp2_with (go_at_call 6; refine (c6 _ B3.out).mono ?_; rintro e W4 ⟨rfl, hB⟩; refine Hid.out ?_)
  refine Lib.hid ?_
  clear c6
  have B4 := Lib.hid (on1 B3.out hB)
  clear hB
  have B5 := B4
  go_wp2_with (go_at_call 9; refine (error_any y _ (hndOn HK.out.2.2.2.2.2 B5.out)).mono ?_; rintro e W6 ⟨rfl, hB⟩; refine Hid.out ?_)
  refine Lib.hid ?_
  have B6 := Lib.hid (on1 B5.out hB)
  clear hB
  go_wp2_with (go_at_call 12; refine (HC.out.1 _).mono ?_; rintro e W7 ⟨v2, M2, rfl, hO2, hm2, hB⟩; refine Hid.out ?_)
  refine Lib.hid ?_
  have HO2 := Lib.hid (And.intro hO2 hm2)
  obtain ⟨a2, d2, e2⟩ := own_slice hO2.1
  subst e2
  clear hO2 hm2
  have B7 := Lib.hid (on1 B6.out hB)
  clear hB
  go_wp2_with (go_at_call 5; refine (HC.out.2 _ (HK.out.2.2.2.2.1.on B7.out)).mono ?_; rintro e W8 ⟨v3, M3, rfl, hO3, hm3, hB⟩; refine Hid.out ?_)
  refine Lib.hid ?_
  have HO3 := Lib.hid (And.intro hO3 hm3)
  obtain ⟨a3, d3, e3⟩ := own_slice hO3.1
  subst e3
  have HO4 := Lib.hid (HO2.out.1.on hB)
  clear hO3 hm3
  have B8 := Lib.hid (on1 B7.out hB)
  clear hB
  go_wp2_with (go_at_call 9; refine (error_any z _ (hndOn HK.out.2.2.2.2.2 B8.out)).mono ?_; rintro e W9 ⟨rfl, hB⟩; refine Hid.out ?_)
  refine Lib.hid ?_
  have HX := Lib.hid (And.intro (HO3.out.1.on hB) (HO4.out.on hB))
  have B9 := Lib.hid (on1 B8.out hB)
  clear hB
  have hmm : M3.map Sp.st = M2.map Sp.st := by rw [HO3.out.2, HO2.out.2]
  have c7 := ssteps_same (own_isSp HX.out.1) (own_isSp HX.out.2) hmm (by have := congrArg List.length HO3.out.2; rw [List.length_map] at this; have := HL.out.1; omega) (fun p hp => HL.out.2 p.st (by rw [← HO3.out.2]; exact List.mem_map_of_mem hp))
  clear hmm
  go_wp2_with (go_at_call 7; refine c7.mono ?_; rintro e W10 ⟨rfl, hB⟩)
  go_ret
  exact ⟨rfl, on1 B9.out hB⟩
theorem atells_any {v : Value} {M : List Sp} {s : ByteArray} {w : World} (h : IsSp w v M) (hz : ∀ p ∈ M, SpSz p.st) (hM : M.length ≤ maxLen) (hs : s.size ≤ 10000000) (hT : Tab w) (hS : Sg w) (hg : Hnd w) :
    Calls Tryz.prog 4 #[v, .string s] w fun e w' => e = .returned (.bool true) ∧ Below w.heap.size w w' := by
  by_cases h1 : askE (M.map Sp.st) = 0
  · exact atells_y h hz hM hs hT hS hg h1
  · exact atells_n h hz hM hs hT hS hg h1
end Go.Proofs.YtmgkdghkenpmbaaGreatDoor
