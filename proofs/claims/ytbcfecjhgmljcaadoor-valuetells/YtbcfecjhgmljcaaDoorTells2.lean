/-
  The walk of the law ValueTells, the case of two types.
-/
import Derived.Test.YtbcfecjhgmljcaaDoorTellsI
namespace Go.Proofs.YtbcfecjhgmljcaaDoor
open Go.RowKit
set_option linter.unusedVariables false
set_option linter.unusedSimpArgs false

set_option maxHeartbeats 2000000 in
set_option maxRecDepth 100000 in
theorem tells_2 (ta na : Int) (sa : ByteArray) (tb nb : Int) (sb s : ByteArray) (w : World) (hT : Tab w) (hg : Hnd w) (ea eb f nn c vt vn : Int) (vs t1 : ByteArray)
    (hV : Gives 6 #[agg ta na sa] (.int .i64 ea)) (hC : Gives 8 #[agg ta na sa] (errV ea)) (hE1 : Same ea)
    (hR : Gives 11 #[.string s] (.tuple #[agg vt vn vs, .int .i64 f])) (hP : Gives 12 #[.string s] (.tuple #[agg vt vn vs, errV f])) (hE3 : Same f)
    (hN : ∀ w, Calls Tryd.prog 15 #[.string s] w fun e w' => e = .returned (errV nn) ∧ w' = w) (hM : ∀ w, Calls Tryd.prog 16 #[.string s] w fun e w' => e = .returned (.int .i64 nn) ∧ w' = w) (hE5 : Same nn)
    (hea : ea = 0) (hSh : Gives 9 #[agg ta na sa] (.string t1)) (hPr : GivesT 10 #[agg ta na sa] (.tuple #[.string t1, errV ea])) (hVb : Gives 6 #[agg tb nb sb] (.int .i64 eb))
    (heb : eb = 0) (hty : (ta != tb) = true) (hE4 : Same 8) (hCm : Gives 14 #[agg ta na sa, agg tb nb sb] (.tuple #[.int .i64 0, errV 8])) :
    Calls Tryd.prog 3 #[agg ta na sa, agg tb nb sb, .string s] w fun e w' => e = .returned (.bool true) ∧ Below w.heap.size w w' := by
  subst hea
  subst heb
  go_enter Tryd.func3, Tryd.ntmps3
  go_wp2_with (go_at_call 6; refine (hV _).mono ?_; rintro e W1 ⟨rfl, hb1⟩; refine Hid.out ?_)
  refine Lib.hid ?_
  have hK1 := hb1
  obtain ⟨hc, hf⟩ := bcell hK1
  go_wp2_with (go_at_call 8; refine (hC _).mono ?_; rintro e W2 ⟨rfl, hb2⟩; refine Hid.out ?_)
  refine Lib.hid ?_
  have hK2 := on1 hK1 hb2
  clear hc hf
  obtain ⟨hc, hf⟩ := bcell hK2
  clear hK1 hb2
  go_wp2_with (go_at_call 7; refine (hE1 _ (hndOn hg (base2 hK2))).mono ?_; rintro e W3 ⟨rfl, hb3⟩; refine Hid.out ?_)
  refine Lib.hid ?_
  have hK3 := on1 hK2 hb3
  clear hc hf
  obtain ⟨hc, hf⟩ := bcell hK3
  clear hK2 hb3
  go_wp2_with (go_at_call 9; refine (hSh _).mono ?_; rintro e W4 ⟨rfl, hb4⟩; refine Hid.out ?_)
  refine Lib.hid ?_
  have hK4 := on1 hK3 hb4
  clear hc hf
  obtain ⟨hc, hf⟩ := bcell hK4
  clear hK3 hb4
  go_wp2_with (go_at_call 10; refine (hPr _ (tabOn hT (base2 hK4))).mono ?_; rintro e W5 ⟨rfl, hb5⟩; refine Hid.out ?_)
  refine Lib.hid ?_
  have hK5 := on1 hK4 hb5
  clear hc hf
  obtain ⟨hc, hf⟩ := bcell hK5
  clear hK4 hb5
  go_wp2_with (go_at_call 7; refine (hE1 _ (hndOn hg (base2 hK5))).mono ?_; rintro e W6 ⟨rfl, hb6⟩; refine Hid.out ?_)
  refine Lib.hid ?_
  have hK6 := on1 hK5 hb6
  clear hc hf
  obtain ⟨hc, hf⟩ := bcell hK6
  clear hK5 hb6
  go_wp2_with (go_at_call 11; refine (hR _).mono ?_; rintro e W7 ⟨rfl, hb7⟩; refine Hid.out ?_)
  refine Lib.hid ?_
  have hK7 := on1 hK6 hb7
  clear hc hf
  obtain ⟨hc, hf⟩ := bcell hK7
  clear hK6 hb7
  go_wp2_with (go_at_call 12; refine (hP _).mono ?_; rintro e W8 ⟨rfl, hb8⟩; refine Hid.out ?_)
  refine Lib.hid ?_
  have hK8 := on2 hK7 hb8
  clear hc hf
  have hV8 := hb8
  obtain ⟨hc, hf⟩ := bcell hK8
  clear hK7 hb8
  go_wp2_with (go_at_call 7; refine (hE3 _ (hndOn hg (base2a hK8))).mono ?_; rintro e W9 ⟨rfl, hb9⟩; refine Hid.out ?_)
  refine Lib.hid ?_
  have hK9 := on2 hK8 hb9
  have hV9 := on2 hV8 hb9
  clear hc hf
  have hP9 := hb9
  obtain ⟨hc, hf⟩ := bcell hK9
  clear hK8 hV8 hb9
  go_wp2_with (go_at_call 6; refine (hVb _).mono ?_; rintro e W10 ⟨rfl, hb10⟩; refine Hid.out ?_)
  refine Lib.hid ?_
  have hK10 := on1 hK9 hb10
  have hV10 := on1 hV9 hb10
  have hP10 := on1 hP9 hb10
  clear hc hf
  obtain ⟨hc, hf⟩ := bcell hK10
  clear hK9 hV9 hP9 hb10
  go_wp2_with (go_at_call 14; refine (hCm _).mono ?_; rintro e W11 ⟨rfl, hb11⟩; refine Hid.out ?_)
  refine Lib.hid ?_
  have hK11 := on1 hK10 hb11
  have hV11 := on1 hV10 hb11
  have hP11 := on1 hP10 hb11
  clear hc hf
  obtain ⟨hc, hf⟩ := bcell hK11
  clear hK10 hV10 hP10 hb11
  go_wp2_with (go_at_call 7; refine (hE4 _ (hndOn hg (base2 hK11))).mono ?_; rintro e W12 ⟨rfl, hb12⟩; refine Hid.out ?_)
  refine Lib.hid ?_
  have hK12 := on1 hK11 hb12
  have hV12 := on1 hV11 hb12
  have hP12 := on1 hP11 hb12
  clear hc hf
  obtain ⟨hc, hf⟩ := bcell hK12
  clear hK11 hV11 hP11 hb12
  go_wp2_with (first | (go_at_call 15; refine (hN _).mono ?_; rintro e w' ⟨rfl, rfl⟩) | (go_at_call 16; refine (hM _).mono ?_; rintro e w' ⟨rfl, rfl⟩) | (go_at_call 7; refine Hid.out ?_))
  refine Lib.hid ?_
  refine (hE5 _ (hndOn hg (base2 hK12))).mono ?_
  rintro e W13 ⟨rfl, hb13⟩
  have hK13 := on1 hK12 hb13
  have hV13 := on1 hV12 hb13
  have hP13 := on1 hP12 hb13
  clear hc hf
  obtain ⟨hc, hf⟩ := bcell hK13
  obtain ⟨hcV, hfV⟩ := bcell hV13
  obtain ⟨hcP, hfP⟩ := bcell hP13
  go_wp2_with fail
  go_ret
  exact ⟨ret_bool (by simp), base2 hK13⟩

end Go.Proofs.YtbcfecjhgmljcaaDoor
