/-
  The walk of the law ValueBack, at a value that is not printed, a text that is not read.
-/
import Derived.Test.YtbcfecjhgmljcaaDoorBackD
namespace Go.Proofs.YtbcfecjhgmljcaaDoor
open Go.RowKit
set_option linter.unusedVariables false
set_option linter.unusedSimpArgs false

set_option maxHeartbeats 2000000 in
set_option maxRecDepth 100000 in
theorem back_001 (ta na : Int) (sa : ByteArray) (tb nb : Int) (sb : ByteArray) (tc nc : Int) (sc s : ByteArray) (w : World) (hT : Tab w)
    (x y z i j k h : Int) (e2 e3 e4 : Value) (t1 : ByteArray) (tv nv : Int) (sv : ByteArray)
    (hA : GivesT 10 #[agg ta na sa] (.tuple #[.string ⟨#[]⟩, .iface 44 (.int .i64 x)]))
    (hS : Gives 12 #[.string s] (.tuple #[agg 0 0 ⟨#[]⟩, .iface 44 (.int .i64 y)]))
    (h1 : Gives 14 #[agg ta na sa, agg tb nb sb] (.tuple #[.int .i64 i, .iface 44 (.int .i64 z)]))
    (h2 : Gives 14 #[agg tb nb sb, agg tc nc sc] (.tuple #[.int .i64 j, e2]))
    (h3 : Gives 14 #[agg ta na sa, agg tc nc sc] (.tuple #[.int .i64 k, e3]))
    (h4 : Gives 14 #[agg tb nb sb, agg ta na sa] (.tuple #[.int .i64 h, e4])) :
    Calls Tryd.prog 4 #[agg ta na sa, agg tb nb sb, agg tc nc sc, .string s] w fun e w' => e = .returned (.bool true) ∧ Below w.heap.size w w' := by
  go_enter Tryd.func4, Tryd.ntmps4
  go_wp2_with (go_at_call 12; refine (fact_any _).mono ?_; rintro e W1 ⟨rfl, hb1⟩; refine Hid.out ?_)
  refine Lib.hid ?_
  have hK1 := hb1
  obtain ⟨hc, hf⟩ := bcell hK1
  obtain ⟨hz0, hz1, hz2⟩ := lt_three hK1
  go_wp2_with (go_at_call 10; refine (hA _ (tabOn hT (base3a hK1))).mono ?_; rintro e W2 ⟨rfl, hb2⟩; refine Hid.out ?_)
  refine Lib.hid ?_
  have hK2 := on2 hK1 hb2
  clear hc hf hz0 hz1 hz2
  obtain ⟨hc, hf⟩ := bcell hK2
  obtain ⟨hz0, hz1, hz2⟩ := lt_three hK2
  clear hb2 hK1
  go_wp2_with (go_at_call 12; refine (hS _).mono ?_; rintro e W3 ⟨rfl, hb3⟩; refine Hid.out ?_)
  refine Lib.hid ?_
  have hK3 := on1 hK2 hb3
  clear hc hf hz0 hz1 hz2
  obtain ⟨hc, hf⟩ := bcell hK3
  obtain ⟨hz0, hz1, hz2⟩ := lt_three hK3
  clear hb3 hK2
  go_wp2_with (go_at_call 14; refine (h1 _).mono ?_; rintro e W4 ⟨rfl, hb4⟩; refine Hid.out ?_)
  refine Lib.hid ?_
  have hK4 := on2 hK3 hb4
  clear hc hf hz0 hz1 hz2
  obtain ⟨hc, hf⟩ := bcell hK4
  obtain ⟨hz0, hz1, hz2⟩ := lt_three hK4
  clear hb4 hK3
  go_wp2_with (go_at_call 14; refine (h2 _).mono ?_; rintro e W5 ⟨rfl, hb5⟩; refine Hid.out ?_)
  refine Lib.hid ?_
  have hK5 := on1 hK4 hb5
  clear hc hf hz0 hz1 hz2
  obtain ⟨hc, hf⟩ := bcell hK5
  obtain ⟨hz0, hz1, hz2⟩ := lt_three hK5
  clear hb5 hK4
  go_wp2_with (go_at_call 14; refine (h3 _).mono ?_; rintro e W6 ⟨rfl, hb6⟩; refine Hid.out ?_)
  refine Lib.hid ?_
  have hK6 := on1 hK5 hb6
  clear hc hf hz0 hz1 hz2
  obtain ⟨hc, hf⟩ := bcell hK6
  obtain ⟨hz0, hz1, hz2⟩ := lt_three hK6
  clear hb6 hK5
  go_wp2_with (go_at_call 14; refine (h4 _).mono ?_; rintro e W7 ⟨rfl, hb7⟩; refine Hid.out ?_)
  refine Lib.hid ?_
  have hK7 := on1 hK6 hb7
  clear hc hf hz0 hz1 hz2
  obtain ⟨hc, hf⟩ := bcell hK7
  obtain ⟨hz0, hz1, hz2⟩ := lt_three hK7
  clear hb7 hK6
  go_wp2
  go_ret
  exact ⟨rfl, base3 hK7⟩

end Go.Proofs.YtbcfecjhgmljcaaDoor
