/-
  The small walks of package graph: isId, compareTies, checkNode, checkTie.
-/
import Derived.Test.YteabdlandbmdaaaDoorM03
import Derived.Deep.RegionWith
import Derived.Deep.RegionHeld3
namespace Go.Proofs.YteabdlandbmdaaaDoor
open Go.RowKit
set_option linter.unusedVariables false
set_option linter.unusedSimpArgs false

theorem isId_any (i : Int) (w : World) : Calls Tryd.prog 20 #[.int .i64 i] w fun e w' => e = .returned (.bool (idOk i)) ∧ w' = w := by
  go_enter Tryd.func20, Tryd.ntmps20
  go_wp2
  all_goals
    go_ret
    exact ⟨ret_bool (by unfold idOk; simp; omega), rfl⟩

set_option maxHeartbeats 1000000 in
theorem cmp_any (x y : Int) (w : World) : Calls Tryd.prog 33 #[.int .i64 x, .int .i64 y] w fun e w' => e = .returned (.int .i64 (Lib.compareInt x y)) ∧ w' = w := by
  go_enter Tryd.func33, Tryd.ntmps33
  go_wp2
  all_goals (go_ret; refine ⟨?_, rfl⟩; unfold Lib.compareInt; (repeat' split) <;> first | rfl | (exfalso; omega))

set_option maxHeartbeats 1000000 in
set_option maxRecDepth 100000 in
theorem cmpStr_any (a b : ByteArray) (w : World) : Calls Tryd.prog 42 #[.string a, .string b] w fun e w' => e = .returned (.int .i64 (Lib.compareBytes a.data.toList b.data.toList)) ∧ w' = w := by
  go_enter Tryd.func42, Tryd.ntmps42
  go_wp2
  rw [run_callFunc_extern Tryd.func51 (by kernel_rfl) (by kernel_rfl) (by kernel_rfl) (e := Extern.BytealgCompare.compare) (by kernel_rfl), Lib.run_compareString]
  simp only [Result.andThen]
  rw [Oper.upon_value]
  go_wp2
  go_ret
  exact ⟨rfl, rfl⟩
theorem scmp_any (a b : ByteArray) (w : World) : Calls Tryd.prog 32 #[.string a, .string b] w fun e w' => e = .returned (.int .i64 (Lib.compareBytes a.data.toList b.data.toList)) ∧ w' = w := by
  go_enter Tryd.func32, Tryd.ntmps32
  go_wp2_with (go_at_call 42; refine (cmpStr_any _ _ _).mono ?_; rintro e w' ⟨rfl, rfl⟩)
  go_ret
  exact ⟨rfl, rfl⟩

theorem or3_a {x : Int} (y z : Int) (h : ¬ x = 0) : or3 x y z = x := by unfold or3; rw [if_neg h]
theorem or3_b {x y : Int} (z : Int) (h : x = 0) (h2 : ¬ y = 0) : or3 x y z = y := by unfold or3; rw [if_pos h, if_neg h2]
theorem or3_c {x y : Int} (z : Int) (h : x = 0) (h2 : y = 0) : or3 x y z = z := by unfold or3; rw [if_pos h, if_pos h2]
def OrAt (x y z : Int) (w wr : World) (i : Value) : Prop := wr = w ∧ ((i = .int .i64 0) ∨ (i = .int .i64 1 ∧ x = 0) ∨ (i = .int .i64 2 ∧ x = 0 ∧ y = 0) ∨ (i = .int .i64 3 ∧ x = 0 ∧ y = 0 ∧ z = 0))
set_option maxHeartbeats 1000000 in
theorem or_any (b : Nat) (x y z : Int) (w : World) (c0 : w.cell? ⟨b, 0, none⟩ = some (.int .i64 x)) (c1 : w.cell? ⟨b, 1, none⟩ = some (.int .i64 y)) (c2 : w.cell? ⟨b, 2, none⟩ = some (.int .i64 z)) :
    Calls Tryd.prog 31 #[.slice (some ⟨b, 0, none⟩) 3 3] w fun e w' => e = .returned (.int .i64 (or3 x y z)) ∧ w' = w := by
  go_enter Tryd.func31, Tryd.ntmps31
  go_wp2
  go_loopw [8] (fun i wr => OrAt x y z w wr i) (fun i _ => 3 - (intOf i).toNat)
  case atStart => exact ⟨rfl, .inl rfl⟩
  case round =>
    obtain ⟨rfl, rfl | ⟨rfl, h1⟩ | ⟨rfl, h1, h2⟩ | ⟨rfl, h1, h2, h3⟩⟩ := hrel
    · by_cases h : x = 0
      · subst h
        go_wp2
        go_roundw
        case rel => exact ⟨rfl, .inr (.inl ⟨rfl, rfl⟩)⟩
        case measure => simp [intOf]
      · have H : Hid (¬ x = 0) := h
        go_wp2
        go_ret
        exact ⟨ret_v (congrArg (Value.int .i64) (or3_a y z H.out).symm), rfl⟩
    · subst h1
      by_cases h : y = 0
      · subst h
        go_wp2
        go_roundw
        case rel => exact ⟨rfl, .inr (.inr (.inl ⟨rfl, rfl, rfl⟩))⟩
        case measure => simp [intOf]
      · have H : Hid (¬ y = 0) := h
        go_wp2
        go_ret
        exact ⟨ret_v (congrArg (Value.int .i64) (or3_b z rfl H.out).symm), rfl⟩
    · subst h1 h2
      by_cases h : z = 0
      · subst h
        go_wp2
        go_roundw
        case rel => exact ⟨rfl, .inr (.inr (.inr ⟨rfl, rfl, rfl, rfl⟩))⟩
        case measure => simp [intOf]
      · go_wp2
        go_ret
        exact ⟨ret_v (congrArg (Value.int .i64) (or3_c z rfl rfl).symm), rfl⟩
    · subst h1 h2 h3
      go_wp2
      go_ret
      exact ⟨ret_v (congrArg (Value.int .i64) (or3_c 0 rfl rfl).symm), rfl⟩
theorem b_drew {B : Nat} {a w : World} (h : Below B a w) : Below B a w.drew := ⟨h.os, h.tape, h.output, h.size, h.block⟩
theorem cell_lit3 (w : World) (x y z : Int) : (w.alloc (.cells #[.int .i64 x, .int .i64 y, .int .i64 z] 3)).drew.cell? ⟨w.heap.size, 0, none⟩ = some (.int .i64 x) ∧ (w.alloc (.cells #[.int .i64 x, .int .i64 y, .int .i64 z] 3)).drew.cell? ⟨w.heap.size, 1, none⟩ = some (.int .i64 y) ∧ (w.alloc (.cells #[.int .i64 x, .int .i64 y, .int .i64 z] 3)).drew.cell? ⟨w.heap.size, 2, none⟩ = some (.int .i64 z) := by
  refine ⟨?_, ?_, ?_⟩ <;> simp
theorem or_at (w : World) (A B : Obj) (x y z : Int) :
    Calls Tryd.prog 31 #[.slice (some ⟨w.heap.size + 1 + 1, 0, none⟩) 3 3] (((w.alloc A).alloc B).alloc (.cells #[.int .i64 x, .int .i64 y, .int .i64 z] 3)).drew fun e w' => e = .returned (.int .i64 (or3 x y z)) ∧ w' = (((w.alloc A).alloc B).alloc (.cells #[.int .i64 x, .int .i64 y, .int .i64 z] 3)).drew := by
  have hs : ((w.alloc A).alloc B).heap.size = w.heap.size + 1 + 1 := by simp
  have h := cell_lit3 ((w.alloc A).alloc B) x y z
  rw [hs] at h
  exact or_any _ x y z _ h.1 h.2.1 h.2.2
set_option maxHeartbeats 4000000 in
set_option maxRecDepth 100000 in
theorem cmpT_any (s t : Te) (w : World) :
    Calls Tryd.prog 22 #[s.one, t.one] w fun e w' => e = .returned (.int .i64 (tCmp s t)) ∧ Below w.heap.size w w' := by
  obtain ⟨sb, sf, st⟩ := s
  obtain ⟨tb, tf, tt⟩ := t
  have hB : Below w.heap.size w ((w.alloc (.cells #[.string sb, .int .i64 sf, .int .i64 st] 47)).alloc (.cells #[.string tb, .int .i64 tf, .int .i64 tt] 47)) := b_alloc (b_alloc (Below.refl _ _) _) _
  go_enter Tryd.func22, Tryd.ntmps22
  go_wp2_with fail
  go_region_held3 (fun w' => w'.cell? ⟨w.heap.size, 0, none⟩ = some (.string sb) ∧ w'.cell? ⟨w.heap.size, 1, none⟩ = some (.int .i64 sf) ∧ w'.cell? ⟨w.heap.size, 2, none⟩ = some (.int .i64 st) ∧ w'.cell? ⟨w.heap.size + 1, 0, none⟩ = some (.string tb) ∧ w'.cell? ⟨w.heap.size + 1, 1, none⟩ = some (.int .i64 tf) ∧ w'.cell? ⟨w.heap.size + 1, 2, none⟩ = some (.int .i64 tt)) (go_keep) (first | (go_at_call 32; refine (scmp_any _ _ _).mono ?_; rintro e w' ⟨rfl, rfl⟩) | (go_at_call 33; refine (cmp_any _ _ _).mono ?_; rintro e w' ⟨rfl, rfl⟩) | (go_at_call 31; refine (or_at _ _ _ _ _ _).mono ?_; rintro e w' ⟨rfl, rfl⟩))
  all_goals
    go_wp2
    go_ret
    exact ⟨rfl, b_drew (b_alloc hB _)⟩
end Go.Proofs.YteabdlandbmdaaaDoor

/-
  The walk of checkNode.
-/
namespace Go.Proofs.YteabdlandbmdaaaDoor
open Go.RowKit
set_option linter.unusedVariables false
set_option linter.unusedSimpArgs false

theorem on1 {W0 W W' : World} (hK : Below W0.heap.size W0 W) (hb : Below W.heap.size W W') : Below W0.heap.size W0 W' := hK.trans (hb.mono hK.size)
theorem ndE_id {o : Option Nd} {n : Nd} (h : idOk n.id = false) : ndE o n = 1 := by unfold ndE; rw [h]; rfl
theorem ndE_low {o : Option Nd} {n : Nd} (h : idOk n.id = true) (h2 : n.low o = true) : ndE o n = 7 := by unfold ndE; rw [if_pos h, if_pos h2]
theorem ndE_name {o : Option Nd} {n : Nd} (h : idOk n.id = true) (h2 : n.low o = false) (h3 : ¬ nErr n.kd.data.toList = 0) : ndE o n = nErr n.kd.data.toList := by unfold ndE; rw [if_pos h, h2, if_neg Bool.false_ne_true, if_neg h3]
theorem ndE_rec {o : Option Nd} {n : Nd} (h : idOk n.id = true) (h2 : n.low o = false) (h3 : nErr n.kd.data.toList = 0) : ndE o n = rErr n.rc := by unfold ndE; rw [if_pos h, h2, if_neg Bool.false_ne_true, if_pos h3]

set_option maxHeartbeats 4000000 in
set_option maxRecDepth 100000 in
theorem checkNode_first (ao : Option Addr) (c : Nat) (n : Nd) (w : World) (hR : IsR w n.rv n.rc) (z1 : n.kd.size ≤ maxLen) (z2 : Sz n.rc) (z3 : n.rc.length ≤ maxLen) :
    Calls Tryd.prog 13 #[.slice ao 0 c, n.one] w fun e w' => e = .returned (errV (ndE none n)) ∧ Below w.heap.size w w' := by
  have hB : Below w.heap.size w (w.alloc (.cells #[.int .i64 n.id, .string n.kd, n.rv] 40)) := b_alloc (Below.refl _ _) _
  have ci := fun w => isId_any n.id w
  have nm := fun w => name_any n.kd w z1
  have rc := fun i => rcheck_r (hR.on (b_drewN hB i)) z2 z3
  obtain ⟨av, cv, hv, _⟩ := hR
  by_cases h1 : idOk n.id = true
  · rw [h1] at ci
    by_cases h3 : nErr n.kd.data.toList = 0
    · have H : Hid (ndE none n = rErr n.rc) := ndE_rec h1 rfl h3
      rw [h3, errV_0] at nm
      clear h1 h3
      obtain ⟨id, kd, rv, rc0⟩ := n
      simp only at hv H nm ci rc hB ⊢
      subst hv
      go_enter Tryd.func13, Tryd.ntmps13
      go_wp2_with (first | (go_at_call 20; refine (ci _).mono ?_; rintro e w' ⟨rfl, rfl⟩))
      go_quiet (fail)
      go_wp2_with (first | (go_at_call 21; refine (nm _).mono ?_; rintro e w' ⟨rfl, rfl⟩) | (go_at_call 15; refine (rc _).mono ?_; rintro e w' ⟨rfl, hB2⟩))
      go_ret
      exact ⟨ret_v (congrArg errV H.out.symm), on1 (b_drewN hB _) hB2⟩
    · have H : Hid (ndE none n = nErr n.kd.data.toList) := ndE_name h1 rfl h3
      rw [errV_ne h3] at nm
      have H3 : Hid (errV (ndE none n) = .iface 54 (.int .i64 (nErr n.kd.data.toList))) := by
        show _ = _
        rw [H.out, errV_ne h3]
      clear h1 h3 H rc
      obtain ⟨id, kd, rv, rc0⟩ := n
      simp only at hv H3 nm ci hB ⊢
      subst hv
      go_enter Tryd.func13, Tryd.ntmps13
      go_wp2_with (first | (go_at_call 20; refine (ci _).mono ?_; rintro e w' ⟨rfl, rfl⟩))
      go_quiet (fail)
      go_wp2_with (first | (go_at_call 21; refine (nm _).mono ?_; rintro e w' ⟨rfl, rfl⟩))
      go_ret
      exact ⟨ret_v H3.out.symm, b_drewN hB _⟩
  · have h1' : idOk n.id = false := by simpa using h1
    have H3 : Hid (errV (ndE none n) = .iface 54 (.int .i64 1)) := by
      show _ = _
      rw [ndE_id h1', errV_1]
    rw [h1'] at ci
    clear h1 h1' rc nm
    obtain ⟨id, kd, rv, rc0⟩ := n
    simp only at hv H3 ci hB ⊢
    subst hv
    go_enter Tryd.func13, Tryd.ntmps13
    go_wp2_with (first | (go_at_call 20; refine (ci _).mono ?_; rintro e w' ⟨rfl, rfl⟩))
    go_ret
    exact ⟨ret_v H3.out.symm, hB⟩
set_option maxHeartbeats 4000000 in
set_option maxRecDepth 100000 in
theorem checkNode_next (b off k c : Nat) (q n : Nd) (w : World) (hb : b < w.heap.size) (hk : k ≤ 60) (hq : w.cell? ⟨b, off + k * 3, none⟩ = some (.int .i64 q.id)) (hR : IsR w n.rv n.rc) (z1 : n.kd.size ≤ maxLen) (z2 : Sz n.rc) (z3 : n.rc.length ≤ maxLen) :
    Calls Tryd.prog 13 #[.slice (some ⟨b, off, none⟩) (k + 1) c, n.one] w fun e w' => e = .returned (errV (ndE (some q) n)) ∧ Below w.heap.size w w' := by
  have hB : Below w.heap.size w (w.alloc (.cells #[.int .i64 n.id, .string n.kd, n.rv] 40)) := b_alloc (Below.refl _ _) _
  have ci := fun w => isId_any n.id w
  have nm := fun w => name_any n.kd w z1
  have rc := fun i => rcheck_r (hR.on (b_drewN hB i)) z2 z3
  obtain ⟨av, cv, hv, _⟩ := hR
  have hq' := (hB.cell (p := ⟨b, off + k * 3, none⟩) hb).trans hq
  have hbn : ¬ b = w.heap.size := by omega
  have hw1 : IntKind.i64.wrap ((k : Int) + 1 - 1) = (k : Int) := by rw [IntKind.wrap_i64]; omega
  have hi1 : (k : Int) < ((k : Int) + 1) := by omega
  have hg : (0 : Int) < ((k : Int) + 1) := by omega
  clear hq
  obtain ⟨qi, qk, qv, qr⟩ := q
  simp only at hq'
  by_cases h1 : idOk n.id = true
  · rw [h1] at ci
    by_cases h2 : n.id ≤ qi
    · have H3 : Hid (errV (ndE (some ⟨qi, qk, qv, qr⟩) n) = .iface 54 (.int .i64 7)) := by
        show _ = _
        rw [ndE_low h1 (by unfold Nd.low; simpa using h2), errV_7]
      clear h1 rc nm
      obtain ⟨id, kd, rv, rc0⟩ := n
      simp only at hv H3 ci hB hq' h2 ⊢
      subst hv
      go_enter Tryd.func13, Tryd.ntmps13
      go_wp2_with (first | (go_at_call 20; refine (ci _).mono ?_; rintro e w' ⟨rfl, rfl⟩))
      go_quiet (fail)
      go_wp2
      go_ret
      exact ⟨ret_v H3.out.symm, b_drewN hB _⟩
    have h2' : ∀ r s t, n.low (some ⟨qi, r, s, t⟩) = false := fun _ _ _ => by unfold Nd.low; simpa using h2
    by_cases h3 : nErr n.kd.data.toList = 0
    · have H : Hid (ndE (some ⟨qi, qk, qv, qr⟩) n = rErr n.rc) := ndE_rec h1 (h2' _ _ _) h3
      rw [h3, errV_0] at nm
      clear h1 h3 h2'
      obtain ⟨id, kd, rv, rc0⟩ := n
      simp only at hv H nm ci rc hB hq' h2 ⊢
      subst hv
      go_enter Tryd.func13, Tryd.ntmps13
      go_wp2_with (first | (go_at_call 20; refine (ci _).mono ?_; rintro e w' ⟨rfl, rfl⟩))
      go_quiet (fail)
      go_wp2_with (first | (go_at_call 21; refine (nm _).mono ?_; rintro e w' ⟨rfl, rfl⟩) | (go_at_call 15; refine (rc _).mono ?_; rintro e w' ⟨rfl, hB2⟩))
      go_ret
      exact ⟨ret_v (congrArg errV H.out.symm), on1 (b_drewN hB _) hB2⟩
    · have H : Hid (ndE (some ⟨qi, qk, qv, qr⟩) n = nErr n.kd.data.toList) := ndE_name h1 (h2' _ _ _) h3
      rw [errV_ne h3] at nm
      have H3 : Hid (errV (ndE (some ⟨qi, qk, qv, qr⟩) n) = .iface 54 (.int .i64 (nErr n.kd.data.toList))) := by
        show _ = _
        rw [H.out, errV_ne h3]
      clear h1 h3 H rc h2'
      obtain ⟨id, kd, rv, rc0⟩ := n
      simp only at hv H3 nm ci hB hq' h2 ⊢
      subst hv
      go_enter Tryd.func13, Tryd.ntmps13
      go_wp2_with (first | (go_at_call 20; refine (ci _).mono ?_; rintro e w' ⟨rfl, rfl⟩))
      go_quiet (fail)
      go_wp2_with (first | (go_at_call 21; refine (nm _).mono ?_; rintro e w' ⟨rfl, rfl⟩))
      go_ret
      exact ⟨ret_v H3.out.symm, b_drewN hB _⟩
  · have h1' : idOk n.id = false := by simpa using h1
    have H3 : Hid (errV (ndE (some ⟨qi, qk, qv, qr⟩) n) = .iface 54 (.int .i64 1)) := by
      show _ = _
      rw [ndE_id h1', errV_1]
    rw [h1'] at ci
    clear h1 h1' rc nm
    obtain ⟨id, kd, rv, rc0⟩ := n
    simp only at hv H3 ci hB hq' ⊢
    subst hv
    go_enter Tryd.func13, Tryd.ntmps13
    go_wp2_with (first | (go_at_call 20; refine (ci _).mono ?_; rintro e w' ⟨rfl, rfl⟩))
    go_ret
    exact ⟨ret_v H3.out.symm, hB⟩
end Go.Proofs.YteabdlandbmdaaaDoor

/-
  The walk of checkTie.
-/
namespace Go.Proofs.YteabdlandbmdaaaDoor
open Go.RowKit
set_option linter.unusedVariables false
set_option linter.unusedSimpArgs false

theorem teE_name {o : Option Te} {t : Te} (h : ¬ nErr t.bd.data.toList = 0) : teE o t = nErr t.bd.data.toList := by unfold teE; rw [if_neg h]
theorem teE_id {o : Option Te} {t : Te} (h : nErr t.bd.data.toList = 0) (h2 : (idOk t.fr && idOk t.tt) = false) : teE o t = 1 := by unfold teE; rw [if_pos h, h2]; rfl
theorem teE_low {o : Option Te} {t : Te} (h : nErr t.bd.data.toList = 0) (h2 : (idOk t.fr && idOk t.tt) = true) (h3 : t.low o = true) : teE o t = 7 := by unfold teE; rw [if_pos h, if_pos h2, if_pos h3]
theorem teE_ok {o : Option Te} {t : Te} (h : nErr t.bd.data.toList = 0) (h2 : (idOk t.fr && idOk t.tt) = true) (h3 : t.low o = false) : teE o t = 0 := by unfold teE; rw [if_pos h, if_pos h2, h3]; rfl

set_option maxHeartbeats 4000000 in
set_option maxRecDepth 100000 in
theorem checkTie_bad (ao : Option Addr) (k c : Nat) (o : Option Te) (t : Te) (w : World) (z1 : t.bd.size ≤ maxLen) (h : ¬ nErr t.bd.data.toList = 0 ∨ (idOk t.fr && idOk t.tt) = false) :
    Calls Tryd.prog 14 #[.slice ao k c, t.one] w fun e w' => e = .returned (errV (teE o t)) ∧ Below w.heap.size w w' := by
  have hB : Below w.heap.size w (w.alloc (.cells #[.string t.bd, .int .i64 t.fr, .int .i64 t.tt] 47)) := b_alloc (Below.refl _ _) _
  have nm := fun w => name_any t.bd w z1
  by_cases h1 : nErr t.bd.data.toList = 0
  · have h2 : (idOk t.fr && idOk t.tt) = false := by
      rcases h with h | h
      · exact absurd h1 h
      · exact h
    have H3 : Hid (errV (teE o t) = .iface 54 (.int .i64 1)) := by
      show _ = _
      rw [teE_id h1 h2, errV_1]
    rw [h1, errV_0] at nm
    clear h h1
    obtain ⟨bd, fr, tt⟩ := t
    simp only at H3 nm hB h2 ⊢
    by_cases hf : idOk fr = true
    · have ht : idOk tt = false := by rw [hf, Bool.true_and] at h2; exact h2
      clear h2
      go_enter Tryd.func14, Tryd.ntmps14
      go_wp2_with (first | (go_at_call 21; refine (nm _).mono ?_; rintro e w' ⟨rfl, rfl⟩) | (go_at_call 20; refine (isId_any _ _).mono ?_; rintro e w' ⟨rfl, rfl⟩))
      go_ret
      exact ⟨ret_v H3.out.symm, hB⟩
    · have hf' : idOk fr = false := by simpa using hf
      clear h2 hf
      go_enter Tryd.func14, Tryd.ntmps14
      go_wp2_with (first | (go_at_call 21; refine (nm _).mono ?_; rintro e w' ⟨rfl, rfl⟩) | (go_at_call 20; refine (isId_any _ _).mono ?_; rintro e w' ⟨rfl, rfl⟩))
      go_ret
      exact ⟨ret_v H3.out.symm, hB⟩
  · have H3 : Hid (errV (teE o t) = .iface 54 (.int .i64 (nErr t.bd.data.toList))) := by
      show _ = _
      rw [teE_name h1, errV_ne h1]
    rw [errV_ne h1] at nm
    clear h h1
    obtain ⟨bd, fr, tt⟩ := t
    simp only at H3 nm hB ⊢
    go_enter Tryd.func14, Tryd.ntmps14
    go_wp2_with (first | (go_at_call 21; refine (nm _).mono ?_; rintro e w' ⟨rfl, rfl⟩))
    go_ret
    exact ⟨ret_v H3.out.symm, hB⟩

set_option maxHeartbeats 4000000 in
set_option maxRecDepth 100000 in
theorem checkTie_first (ao : Option Addr) (c : Nat) (t : Te) (w : World) (z1 : t.bd.size ≤ maxLen) :
    Calls Tryd.prog 14 #[.slice ao 0 c, t.one] w fun e w' => e = .returned (errV (teE none t)) ∧ Below w.heap.size w w' := by
  by_cases hh : ¬ nErr t.bd.data.toList = 0 ∨ (idOk t.fr && idOk t.tt) = false
  · exact checkTie_bad ao 0 c none t w z1 hh
  have hB : Below w.heap.size w (w.alloc (.cells #[.string t.bd, .int .i64 t.fr, .int .i64 t.tt] 47)) := b_alloc (Below.refl _ _) _
  have nm := fun w => name_any t.bd w z1
  have h1 : nErr t.bd.data.toList = 0 := Decidable.byContradiction fun h => hh (.inl h)
  have h2 : (idOk t.fr && idOk t.tt) = true := by
    cases h : (idOk t.fr && idOk t.tt)
    · exact absurd (.inr h) hh
    · rfl
  have H3 : Hid (errV (teE none t) = .nilIface) := by
    show _ = _
    rw [teE_ok h1 h2 rfl, errV_0]
  rw [h1, errV_0] at nm
  rw [Bool.and_eq_true] at h2
  obtain ⟨hf, ht⟩ := h2
  clear hh h1
  obtain ⟨bd, fr, tt⟩ := t
  simp only at H3 nm hB hf ht ⊢
  go_enter Tryd.func14, Tryd.ntmps14
  go_wp2_with (first | (go_at_call 21; refine (nm _).mono ?_; rintro e w' ⟨rfl, rfl⟩) | (go_at_call 20; refine (isId_any _ _).mono ?_; rintro e w' ⟨rfl, rfl⟩))
  go_quiet (fail)
  go_wp2
  go_ret
  exact ⟨ret_v H3.out.symm, b_drewN hB _⟩

end Go.Proofs.YteabdlandbmdaaaDoor

/-
  The walk of checkTie, behind another one.
-/
namespace Go.Proofs.YteabdlandbmdaaaDoor
open Go.RowKit
set_option linter.unusedVariables false
set_option linter.unusedSimpArgs false

def SixC (b o l : Nat) (q t : Te) (w : World) : Prop := (b < w.heap.size ∧ l < w.heap.size) ∧ (w.cell? ⟨b, o, none⟩ = some (.string q.bd) ∧ w.cell? ⟨b, o + 1, none⟩ = some (.int .i64 q.fr) ∧ w.cell? ⟨b, o + 2, none⟩ = some (.int .i64 q.tt)) ∧ (w.cell? ⟨l, 0, none⟩ = some (.string t.bd) ∧ w.cell? ⟨l, 1, none⟩ = some (.int .i64 t.fr) ∧ w.cell? ⟨l, 2, none⟩ = some (.int .i64 t.tt))
theorem SixC.on {b o l : Nat} {q t : Te} {w w' : World} (h : SixC b o l q t w) (hB : Below w.heap.size w w') : SixC b o l q t w' := by
  obtain ⟨⟨h1, h2⟩, ⟨a0, a1, a2⟩, ⟨b0, b1, b2⟩⟩ := h
  exact ⟨⟨Nat.lt_of_lt_of_le h1 hB.size, Nat.lt_of_lt_of_le h2 hB.size⟩, ⟨(hB.cell h1).trans a0, (hB.cell h1).trans a1, (hB.cell h1).trans a2⟩, ⟨(hB.cell h2).trans b0, (hB.cell h2).trans b1, (hB.cell h2).trans b2⟩⟩
set_option maxHeartbeats 1000000 in
set_option maxRecDepth 100000 in
theorem checkTie_at (b off m k c : Nat) (q t : Te) (w : World) (hb : b < w.heap.size) (hmk : k < m) (hc : (m : Int) - 1 = (k : Int)) (hk : m ≤ 121) (q0 : w.cell? ⟨b, off + k * 3, none⟩ = some (.string q.bd)) (q1 : w.cell? ⟨b, off + k * 3 + 1, none⟩ = some (.int .i64 q.fr)) (q2 : w.cell? ⟨b, off + k * 3 + 2, none⟩ = some (.int .i64 q.tt)) (z1 : t.bd.size ≤ maxLen) :
    Calls Tryd.prog 14 #[.slice (some ⟨b, off, none⟩) m c, t.one] w fun e w' => e = .returned (errV (teE (some q) t)) ∧ Below w.heap.size w w' := by
  by_cases hh : ¬ nErr t.bd.data.toList = 0 ∨ (idOk t.fr && idOk t.tt) = false
  · exact checkTie_bad _ m c (some q) t w z1 hh
  have hB : Below w.heap.size w (w.alloc (.cells #[.string t.bd, .int .i64 t.fr, .int .i64 t.tt] 47)) := b_alloc (Below.refl _ _) _
  have nm := fun w => name_any t.bd w z1
  have h1 : nErr t.bd.data.toList = 0 := Decidable.byContradiction fun h => hh (.inl h)
  have h2 : (idOk t.fr && idOk t.tt) = true := by
    cases h : (idOk t.fr && idOk t.tt)
    · exact absurd (.inr h) hh
    · rfl
  have e0 := (hB.cell (p := ⟨b, off + k * 3, none⟩) hb).trans q0
  have e1 := (hB.cell (p := ⟨b, off + k * 3 + 1, none⟩) hb).trans q1
  have e2 := (hB.cell (p := ⟨b, off + k * 3 + 2, none⟩) hb).trans q2
  have cc := fun w => cmpT_any t q w
  have HS : Hid (SixC b (off + k * 3) w.heap.size q t ((w.alloc (.cells #[.string t.bd, .int .i64 t.fr, .int .i64 t.tt] 47)).drew)) := by
    refine ⟨⟨?_, ?_⟩, ⟨e0, e1, e2⟩, ?_, ?_, ?_⟩
    · simp; omega
    · simp
    · simp
    · simp
    · simp
  have hbn : ¬ b = w.heap.size := by omega
  have hw1 : IntKind.i64.wrap (k : Int) = (k : Int) := by rw [IntKind.wrap_i64]; omega
  have hi1 : (k : Int) < (m : Int) := by omega
  have hg : (0 : Int) < (m : Int) := by omega
  have hg2 : 0 < m := by omega
  have HL : Hid (t.low (some q) = decide (tCmp t q ≤ 0)) := rfl
  obtain ⟨r, hr⟩ : ∃ r, tCmp t q = r := ⟨_, rfl⟩
  rw [hr] at cc HL
  by_cases h3 : r ≤ 0
  · have H3 : Hid (errV (teE (some q) t) = .iface 54 (.int .i64 7)) := by
      show _ = _
      rw [teE_low h1 h2 (by rw [HL.out]; simpa using h3), errV_7]
    rw [h1, errV_0] at nm
    rw [Bool.and_eq_true] at h2
    obtain ⟨hf, ht⟩ := h2
    clear hh h1 q0 q1 q2 HL hr
    obtain ⟨bd, fr, tt⟩ := t
    obtain ⟨qb, qf, qt⟩ := q
    simp only at H3 nm hB hf ht e0 e1 e2 cc HS ⊢
    go_enter Tryd.func14, Tryd.ntmps14
    go_wp2_with (first | (go_at_call 21; refine (nm _).mono ?_; rintro e w' ⟨rfl, rfl⟩) | (go_at_call 20; refine (isId_any _ _).mono ?_; rintro e w' ⟨rfl, rfl⟩))
    first | (go_region_held (fun w' => w'.cell? ⟨b, off + k * 3, none⟩ = some (.string qb) ∧ w'.cell? ⟨b, off + k * 3 + 1, none⟩ = some (.int .i64 qf) ∧ w'.cell? ⟨b, off + k * 3 + 2, none⟩ = some (.int .i64 qt) ∧ w'.cell? ⟨w.heap.size, 0, none⟩ = some (.string bd) ∧ w'.cell? ⟨w.heap.size, 1, none⟩ = some (.int .i64 fr) ∧ w'.cell? ⟨w.heap.size, 2, none⟩ = some (.int .i64 tt)) (go_keep) (first | (go_at_call 22; refine (cc _).mono ?_; rintro e W2 ⟨rfl, hB2⟩; obtain ⟨_, ⟨p0, p1, p2⟩, ⟨r0, r1, r2⟩⟩ := HS.out.on hB2))) | fail
    all_goals
      go_wp2
      go_ret
      exact ⟨ret_v H3.out.symm, on1 (b_drew hB) hB2⟩
  · have H3 : Hid (errV (teE (some q) t) = .nilIface) := by
      show _ = _
      rw [teE_ok h1 h2 (by rw [HL.out]; simpa using h3), errV_0]
    rw [h1, errV_0] at nm
    rw [Bool.and_eq_true] at h2
    obtain ⟨hf, ht⟩ := h2
    clear hh h1 q0 q1 q2 HL hr
    obtain ⟨bd, fr, tt⟩ := t
    obtain ⟨qb, qf, qt⟩ := q
    simp only at H3 nm hB hf ht e0 e1 e2 cc HS ⊢
    go_enter Tryd.func14, Tryd.ntmps14
    go_wp2_with (first | (go_at_call 21; refine (nm _).mono ?_; rintro e w' ⟨rfl, rfl⟩) | (go_at_call 20; refine (isId_any _ _).mono ?_; rintro e w' ⟨rfl, rfl⟩))
    first | (go_region_held (fun w' => w'.cell? ⟨b, off + k * 3, none⟩ = some (.string qb) ∧ w'.cell? ⟨b, off + k * 3 + 1, none⟩ = some (.int .i64 qf) ∧ w'.cell? ⟨b, off + k * 3 + 2, none⟩ = some (.int .i64 qt) ∧ w'.cell? ⟨w.heap.size, 0, none⟩ = some (.string bd) ∧ w'.cell? ⟨w.heap.size, 1, none⟩ = some (.int .i64 fr) ∧ w'.cell? ⟨w.heap.size, 2, none⟩ = some (.int .i64 tt)) (go_keep) (first | (go_at_call 22; refine (cc _).mono ?_; rintro e W2 ⟨rfl, hB2⟩; obtain ⟨_, ⟨p0, p1, p2⟩, ⟨r0, r1, r2⟩⟩ := HS.out.on hB2))) | fail
    all_goals
      go_wp2
      go_ret
      exact ⟨ret_v H3.out.symm, on1 (b_drew hB) hB2⟩
end Go.Proofs.YteabdlandbmdaaaDoor
