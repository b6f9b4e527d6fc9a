/-
  rows.group, the record of a value that so many have.
-/
import Derived.Test.YtodddcacngjadaaKyE
import Derived.Test.YtodddcacngjadaaRecN
namespace Go.Proofs.Ytodddcacngjadaa
open Go.RowKit
set_option linter.unusedVariables false
set_option linter.unusedSimpArgs false

/-- The property by which a group tells how many there are. -/
def prN (c : Int) : Pr := ⟨⟨#[110]⟩, 1, c, ⟨#[]⟩⟩
/-- The record of a group. -/
def grp (nm : ByteArray) (x : V3) (c : Int) : List Pr := ins (prN c) [⟨nm, x.t, x.n, x.s⟩]
theorem prN_ok {c : Int} (h0 : 0 ≤ c) (h1 : c ≤ 1000) : (prN c).ok := by
  refine ⟨by show nErr [110] = 0; decide, ?_⟩
  show vErr 1 c [] = 0
  unfold vErr
  rw [if_pos (.inl rfl), if_pos (by unfold inR; simp; omega), if_neg (by decide), if_pos rfl]
theorem grp_err {nm : ByteArray} {x : V3} {c : Int} (h : rErr [⟨nm, x.t, x.n, x.s⟩] = 0) (h0 : 0 ≤ c) (h1 : c ≤ 1000) : rErr (grp nm x c) = 0 ∧ (grp nm x c).length ≤ 2 := by
  have hl : (grp nm x c).length ≤ 2 := (ins_len _ _).2
  exact ⟨(rErr_srt _).2 ⟨ins_srt ((rErr_srt _).1 h).1 (prN_ok h0 h1), by omega⟩, hl⟩
theorem grp_look (nm : ByteArray) (x : V3) (c : Int) : prOf [110] (grp nm x c) = some (prN c) := by
  have := look_ins [110] (prN c) [⟨nm, x.t, x.n, x.s⟩]
  unfold look at this
  unfold prOf grp
  have hb : ((prN c).nm.toList == [110]) = true := (show ((⟨#[110]⟩ : ByteArray).toList == [110]) = true by kernel_rfl)
  rw [this, if_pos hb]
theorem one_err {nm : ByteArray} {x : V3} (hn : nErr nm.data.toList = 0) (hx : VOk x) : rErr [⟨nm, x.t, x.n, x.s⟩] = 0 :=
  (rErr_srt _).2 ⟨⟨fun p hp => by simp at hp; subst hp; exact ⟨hn, hx.1⟩, by simp⟩, by simp⟩

set_option maxHeartbeats 4000000 in
set_option maxRecDepth 100000 in
theorem group_any (s : ByteArray) (x : V3) (c : Int) (w : World) (hn : nErr s.data.toList = 0) (hx : VOk x) (h0 : 0 ≤ c) (h1 : c ≤ 1000) :
    Calls Try.prog 21 #[.string s, .agg #[.int .i64 x.t, .int .i64 x.n, .string x.s], .int .i64 c] w fun e w' => ∃ u, e = .returned u ∧ w'.ownsRow w.heap.size 26 4 u (grp s x c).length (cellsOf (grp s x c)) ∧ Below w.heap.size w w' := by
  obtain ⟨p, hp⟩ : ∃ p : Pr, p = ⟨s, x.t, x.n, x.s⟩ := ⟨_, rfl⟩
  have hr := one_err hn hx
  obtain ⟨hg1, hg2⟩ := grp_err hr h0 h1
  have hpn := prN_ok h0 h1
  have hnr : rErr [prN c] = 0 := (rErr_srt _).2 ⟨⟨fun q hq => by simp at hq; subst hq; exact hpn, by simp⟩, by simp⟩
  have hse : rsErr (prN c) [p] = 0 := by
    unfold rsErr
    rw [hp, if_pos hr, if_pos hnr, if_neg (by have : (ins (prN c) [⟨s, x.t, x.n, x.s⟩]).length ≤ 2 := hg2; omega)]
  obtain ⟨W1, hW1⟩ : ∃ W1, W1 = w.alloc (.cells #[.int .i64 x.t, .int .i64 x.n, .string x.s] 24) := ⟨_, rfl⟩
  obtain ⟨W2, hW2⟩ : ∃ W2, W2 = W1.alloc (.cells #[.string s, .int .i64 x.t, .int .i64 x.n, .string x.s] 26) := ⟨_, rfl⟩
  obtain ⟨W3, hW3⟩ : ∃ W3, W3 = W2.alloc (.cells #[.string ⟨#[110]⟩, .int .i64 1, .int .i64 c, .string ⟨#[]⟩] 26) := ⟨_, rfl⟩
  have hl2 : Lies W2 W1.heap.size 0 [p] := by rw [hW2, hp]; exact lies_new W1 ⟨s, x.t, x.n, x.s⟩
  have hl3 : Lies W3 W2.heap.size 0 [prN c] := by rw [hW3]; exact lies_new W2 (prN c)
  have hB3 : Below W2.heap.size W2 W3 := by rw [hW3]; exact b_allocR (Below.refl _ _) _
  have hs2 : W2.heap.size = W1.heap.size + 1 := by rw [hW2]; simp
  have hs3 : W3.heap.size = W2.heap.size + 1 := by rw [hW3]; simp
  have hBw : Below w.heap.size w W3 := by rw [hW3, hW2, hW1]; exact b_allocR (b_allocR (b_allocR (Below.refl _ _) _) _) _
  have hrec : IsRec W3 (.slice (some ⟨W1.heap.size, 0, none⟩) 1 1) [p] := .inr ⟨W1.heap.size, 0, 1, rfl, Nat.le_refl _, by omega, hl2.on (by omega) hB3⟩
  have cJ := join_any hrec (sz_of (by rw [hp]; exact hr)) (by show (1 : Nat) ≤ maxLen; decide) W2.heap.size 0 (prN c) (by omega) hl3 (sz_of hnr)
  have HG : Hid (grp s x c = ins (prN c) [p]) := by show _ = _; unfold grp; rw [hp]
  unfold SetPost at cJ
  rw [hse, errV_0] at cJ
  have HB := Lib.hid (And.intro hBw hBw.size)
  have hn1 : W1.heap.size = w.heap.size + 1 := by rw [hW1]; simp
  rw [hs2, hn1] at cJ
  clear hrec hl2 hl3 hse hnr hpn hg1 hg2 hr hx hn hB3 hBw h0 h1 hs2 hs3 hp
  rw [HG.out]
  generalize ins (prN c) [p] = M at cJ HG
  go_enter Try.func21, Try.ntmps21
  go_upto_region 3 with fail
  rw [← hW1, ← hW2, ← hW3]
  have HW := Lib.hid (And.intro hW1 (And.intro hW2 (And.intro hW3 hn1)))
  clear hW1 hW2 hW3 hn1
  go_wp2_with (go_at_call 34; refine cJ.mono ?_; rintro e W4 ⟨u, rfl, hu, _, hB4⟩; have HU := Lib.hid (And.intro (hu rfl) hB4); clear hu hB4)
  go_ret
  exact ⟨u, rfl, own_base HU.out.1 HB.out.2, on1R HB.out.1 HU.out.2⟩
end Go.Proofs.Ytodddcacngjadaa
