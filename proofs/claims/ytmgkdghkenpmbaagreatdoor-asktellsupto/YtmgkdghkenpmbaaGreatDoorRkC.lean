/-
  The walk of the document's reader: a test.
-/
import Derived.Test.YtmgkdghkenpmbaaGreatDoorRkB
import Derived.Test.YtmgkdghkenpmbaaGreatDoorTellsH
import Derived.Deep.RegionHeldLaw
namespace Go.Proofs.YtmgkdghkenpmbaaGreatDoor
open Go.RowKit
set_option linter.unusedVariables false
set_option linter.unusedSimpArgs false

theorem hdL_nil {r : Nm} (h : nameT r = []) : hdL r = false := by
  cases r with
  | nil => rfl
  | cons c q =>
    unfold nameT at h
    rw [List.takeWhile_cons] at h
    cases hc : isL c with
    | true => rw [hc] at h; simp at h
    | false => exact hc
theorem hdL_ne {r : Nm} (h : ¬ nameT r = []) : hdL r = true := by
  cases r with
  | nil => exact absurd rfl h
  | cons c q =>
    cases hc : isL c with
    | true => exact hc
    | false => exact absurd (by unfold nameT; rw [List.takeWhile_cons, hc]; rfl) h
theorem nmS_ok {r : Nm} (h : ¬ nameT r = []) : nmS (r, false) = (nameD r, false) ∧ nmV (r, false) = nameT r := by
  unfold nmS nmV
  rw [if_pos (by simp [hdL_ne h]), if_pos (by simp [hdL_ne h])]; exact ⟨rfl, rfl⟩
theorem nmS_no {r : Nm} (h : nameT r = []) : nmS (r, false) = (r, true) ∧ nmV (r, false) = [] := by
  unfold nmS nmV
  rw [if_neg (by simp [hdL_nil h]), if_neg (by simp [hdL_nil h])]; exact ⟨rfl, rfl⟩
theorem nmS_bad (r : Nm) : nmS (r, true) = (r, true) ∧ nmV (r, true) = [] := by
  unfold nmS nmV
  rw [if_neg (by simp), if_neg (by simp)]; exact ⟨rfl, rfl⟩
/-- The result of the document's test, as it lies. -/
theorem res5k {w : World} {g : Nat} {a b c d e : Value} {tmps : Array Value} (h2 : tmps.getD 2 undef = .pointer (some ⟨g, 0, none⟩)) (hb : w.heap[g]? = some (.cells #[a, b, c, d, e] 33 (0, 0))) :
    (results Tryz.f40 tmps).run Tryz.prog w = .ok (.agg #[a, b, c, d, e]) w := by
  obtain ⟨c0, c1, c2, c3, c4, _, _, _, _, _⟩ := own5 hb
  simp only [results, show Tryz.f40.results = #[.cell 2 33] from rfl]
  have h3 : tmps[2]?.getD undef = .pointer (some ⟨g, 0, none⟩) := by rw [← h2]; simp
  simp [Sem.run_bind, Result.andThen, h3, go_sem, c0, c1, c2, c3, c4]
/-- What the document's test gives. -/
def KtAns (e : Ending) (o : Option Tst) : Prop := ∃ x : Tst, e = .returned x.one ∧ ∀ y, o = some y → x = y
theorem five_set {b : Nat} {s : ByteArray} {σ : Nm × Bool} {a w : World} {g : Nat} (hR : Rk b s σ w) (hG : Gw b a w) (hne : b ≠ g) (hg : a.heap.size ≤ g) (x0 x1 x2 x3 x4 : Value) :
    Rk b s σ (((((w.setCell ⟨g, 0, none⟩ x0).setCell ⟨g, 1, none⟩ x1).setCell ⟨g, 2, none⟩ x2).setCell ⟨g, 3, none⟩ x3).setCell ⟨g, 4, none⟩ x4) ∧ Gw b a (((((w.setCell ⟨g, 0, none⟩ x0).setCell ⟨g, 1, none⟩ x1).setCell ⟨g, 2, none⟩ x2).setCell ⟨g, 3, none⟩ x3).setCell ⟨g, 4, none⟩ x4) :=
  ⟨((((hR.setO hne 0 _).setO hne 1 _).setO hne 2 _).setO hne 3 _).setO hne 4 _, ((((hG.setO hg 0 _).setO hg 1 _).setO hg 2 _).setO hg 3 _).setO hg 4 _⟩
theorem five_blk {w : World} {g : Nat} {a b c d e : Value} (h : w.heap[g]? = some (.cells #[a, b, c, d, e] 33 (0, 0))) (x0 x1 x2 x3 x4 : Value) :
    (((((w.setCell ⟨g, 0, none⟩ x0).setCell ⟨g, 1, none⟩ x1).setCell ⟨g, 2, none⟩ x2).setCell ⟨g, 3, none⟩ x3).setCell ⟨g, 4, none⟩ x4).heap[g]? = some (.cells #[x0, x1, x2, x3, x4] 33 (0, 0)) := set5_4 (set5_3 (set5_2 (set5_1 (set5_0 h _) _) _) _) _
abbrev Z33 : Obj := .cells #[.string ⟨#[]⟩, .int .i64 0, .int .i64 0, .int .i64 0, .string ⟨#[]⟩] 33

set_option maxHeartbeats 4000000 in
set_option maxRecDepth 100000 in
theorem ktest_a {b : Nat} {s : ByteArray} {r : Nm} {w : World} (h : Rk b s (r, false) w) (hs : s.size ≤ maxLen) (hn : nameT r = []) :
    Calls Tryz.prog 40 #[rp b] w fun e w' => KtAns e (pTest r).2 ∧ Rk b s ((pTest r).1, (pTest r).2.isNone) w' ∧ Gw b w w' := by
  have hbl := h.lt
  have hne : b ≠ w.heap.size := by omega
  have cN := kname_any (h.alloc Z33) hs
  rw [(nmS_no hn).1, (nmS_no hn).2] at cN
  rw [pTest_a hn]
  have HP0 := Lib.hid (new_block w #[.string ⟨#[]⟩, .int .i64 0, .int .i64 0, .int .i64 0, .string ⟨#[]⟩] 33)
  have HG0 : Hid (Gw b w (w.alloc Z33)) := (Gw.refl b w).alloc _
  clear h hn
  go_enter Tryz.func40, Tryz.ntmps40
  go_wp2_with (go_at_call 39; refine cN.mono ?_; rintro e W1 ⟨rfl, hR1, hG1⟩; refine Hid.out ?_)
  refine Lib.hid ?_
  have hp1 := hG1.blk (Ne.symm hne) HP0.out
  have HP1 := Lib.hid hp1
  obtain ⟨a0, a1, a2, a3, a4, f0, f1, f2, f3, f4⟩ := own5 (old_block hp1 (.cells #[.string (bs []), .int .i64 4, .int .i64 0, .int .i64 0, .string ⟨#[]⟩] 33))
  have HR1 := Lib.hid hR1
  obtain ⟨k, hk, hr, hb⟩ := hR1.alloc (.cells #[.string (bs []), .int .i64 4, .int .i64 0, .int .i64 0, .string ⟨#[]⟩] 33)
  have c2 : (W1.alloc (.cells #[.string (bs []), .int .i64 4, .int .i64 0, .int .i64 0, .string ⟨#[]⟩] 33)).cell? ⟨b, 2, none⟩ = some (.bool true) := cell_at hb rfl
  have hne4 : ¬ W1.heap.size = w.heap.size := by have := hG1.size; simp at this; omega
  have HG1 := Lib.hid (HG0.out.trans hG1)
  clear hG1 hR1 hb hr hk hp1
  go_wp2
  go_quiet (fail)
  go_wp2
  obtain ⟨q1, q2⟩ := five_set ((HR1.out.alloc (.cells #[.string (bs []), .int .i64 4, .int .i64 0, .int .i64 0, .string ⟨#[]⟩] 33)).drewN nq) ((HG1.out.alloc (.cells #[.string (bs []), .int .i64 4, .int .i64 0, .int .i64 0, .string ⟨#[]⟩] 33)).drew nq) hne (Nat.le_refl _) (.string (bs [])) (.int .i64 4) (.int .i64 0) (.int .i64 0) (.string ⟨#[]⟩)
  refine bodyPost_ret (v := (⟨[], 4, 0, 0, []⟩ : Tst).one) (res5k rfl (five_blk (w := (W1.alloc (.cells #[.string (bs []), .int .i64 4, .int .i64 0, .int .i64 0, .string ⟨#[]⟩] 33)).drewN nq) (old_block HP1.out _) _ _ _ _ _)) rfl ⟨⟨⟨[], 4, 0, 0, []⟩, rfl, fun y hy => by cases hy⟩, q1, q2⟩
set_option maxHeartbeats 4000000 in
set_option maxRecDepth 100000 in
theorem ktest_b {b : Nat} {s : ByteArray} {r : Nm} {w : World} (h : Rk b s (r, false) w) (hs : s.size ≤ 140737488355328) (hn : ¬ nameT r = []) (h4 : (howR (nameD r)).2 = 4) :
    Calls Tryz.prog 40 #[rp b] w fun e w' => KtAns e (pTest r).2 ∧ Rk b s ((pTest r).1, (pTest r).2.isNone) w' ∧ Gw b w w' := by
  have hbl := h.lt
  have hs' : s.size ≤ maxLen := by unfold maxLen; omega
  have hne : b ≠ w.heap.size := by omega
  have cN := kname_any (h.alloc Z33) hs'
  rw [(nmS_ok hn).1, (nmS_ok hn).2] at cN
  have HP0 := Lib.hid (new_block w #[.string ⟨#[]⟩, .int .i64 0, .int .i64 0, .int .i64 0, .string ⟨#[]⟩] 33)
  have HG0 : Hid (Gw b w (w.alloc Z33)) := (Gw.refl b w).alloc _
  rw [pTest_b hn h4]
  generalize nameT r = nm at cN ⊢
  generalize nameD r = q at cN h4 ⊢
  have hs2 := hs
  clear h hn
  go_enter Tryz.func40, Tryz.ntmps40
  go_wp2_with (go_at_call 39; refine cN.mono ?_; rintro e W1 ⟨rfl, hR1, hG1⟩; refine Hid.out ?_)
  refine Lib.hid ?_
  have hp1 := hG1.blk (Ne.symm hne) HP0.out
  have HP1 := Lib.hid hp1
  obtain ⟨a0, a1, a2, a3, a4, f0, f1, f2, f3, f4⟩ := own5 (old_block hp1 (.cells #[.string (bs nm), .int .i64 4, .int .i64 0, .int .i64 0, .string ⟨#[]⟩] 33))
  have HR1 := Lib.hid hR1
  obtain ⟨k, hk, hr, hb⟩ := hR1.alloc (.cells #[.string (bs nm), .int .i64 4, .int .i64 0, .int .i64 0, .string ⟨#[]⟩] 33)
  have c0 : (W1.alloc (.cells #[.string (bs nm), .int .i64 4, .int .i64 0, .int .i64 0, .string ⟨#[]⟩] 33)).cell? ⟨b, 0, none⟩ = some (.string s) := cell_at hb rfl
  have c1 : (W1.alloc (.cells #[.string (bs nm), .int .i64 4, .int .i64 0, .int .i64 0, .string ⟨#[]⟩] 33)).cell? ⟨b, 1, none⟩ = some (.int .i64 (k : Int)) := cell_at hb rfl
  have c2 : (W1.alloc (.cells #[.string (bs nm), .int .i64 4, .int .i64 0, .int .i64 0, .string ⟨#[]⟩] 33)).cell? ⟨b, 2, none⟩ = some (.bool false) := cell_at hb rfl
  have hne4 : ¬ W1.heap.size = w.heap.size := by have := hG1.size; simp at this; omega
  have HG1 := Lib.hid (HG0.out.trans hG1)
  simp only at hr
  by_cases hlt : k < s.size
  · have g1 : decide ((s.size : Int) ≤ (k : Int)) = false := by simp; omega
    have hq : q = s[k] :: s.data.toList.drop (k + 1) := by rw [← hr, drop_c hlt]
    have n61 : ((s[k].toNat : Int) != 61) = true := by
      rw [bne_iff_ne]; intro e
      rw [hq, show s[k] = 61 from UInt8.toNat_inj.1 (by simpa using (show s[k].toNat = 61 by omega))] at h4
      simp [howR] at h4
    have n33 : ((s[k].toNat : Int) != 33) = true := by
      rw [bne_iff_ne]; intro e
      rw [hq, show s[k] = 33 from UInt8.toNat_inj.1 (by simpa using (show s[k].toNat = 33 by omega))] at h4
      simp [howR] at h4
    have n60 : ((s[k].toNat : Int) != 60) = true := by
      rw [bne_iff_ne]; intro e
      rw [hq, show s[k] = 60 from UInt8.toNat_inj.1 (by simpa using (show s[k].toNat = 60 by omega))] at h4
      simp [howR] at h4
    clear hG1 hR1 hb hr hk hp1 hq h4
    go_wp2
    go_quiet (fail)
    obtain ⟨n1, hn1⟩ : ∃ n, n = nq := ⟨nq, rfl⟩
    subst hn1
    go_wp2
    go_quiet (fail)
    go_wp2
    obtain ⟨q1, q2⟩ := five_set (((HR1.out.alloc (.cells #[.string (bs nm), .int .i64 4, .int .i64 0, .int .i64 0, .string ⟨#[]⟩] 33)).drewN (n1 + nq))) (((HG1.out.alloc (.cells #[.string (bs nm), .int .i64 4, .int .i64 0, .int .i64 0, .string ⟨#[]⟩] 33)).drew (n1 + nq))) hne (Nat.le_refl _) (.string (bs nm)) (.int .i64 4) (.int .i64 0) (.int .i64 0) (.string ⟨#[]⟩)
    refine bodyPost_ret (v := (⟨nm, 4, 0, 0, []⟩ : Tst).one) (res5k rfl (five_blk (w := ((W1.alloc (.cells #[.string (bs nm), .int .i64 4, .int .i64 0, .int .i64 0, .string ⟨#[]⟩] 33)).drewN (n1 + nq))) (old_block HP1.out _) _ _ _ _ _)) rfl ⟨⟨⟨nm, 4, 0, 0, []⟩, rfl, fun y hy => by injection hy⟩, q1, q2⟩
  · have g1 : decide ((s.size : Int) ≤ (k : Int)) = true := by simp; omega
    clear hG1 hR1 hb hr hk hp1 h4
    go_wp2
    go_quiet (fail)
    go_wp2
    obtain ⟨q1, q2⟩ := five_set (((HR1.out.alloc (.cells #[.string (bs nm), .int .i64 4, .int .i64 0, .int .i64 0, .string ⟨#[]⟩] 33)).drewN nq)) (((HG1.out.alloc (.cells #[.string (bs nm), .int .i64 4, .int .i64 0, .int .i64 0, .string ⟨#[]⟩] 33)).drew nq)) hne (Nat.le_refl _) (.string (bs nm)) (.int .i64 4) (.int .i64 0) (.int .i64 0) (.string ⟨#[]⟩)
    refine bodyPost_ret (v := (⟨nm, 4, 0, 0, []⟩ : Tst).one) (res5k rfl (five_blk (w := ((W1.alloc (.cells #[.string (bs nm), .int .i64 4, .int .i64 0, .int .i64 0, .string ⟨#[]⟩] 33)).drewN nq)) (old_block HP1.out _) _ _ _ _ _)) rfl ⟨⟨⟨nm, 4, 0, 0, []⟩, rfl, fun y hy => by injection hy⟩, q1, q2⟩
end Go.Proofs.YtmgkdghkenpmbaaGreatDoor
