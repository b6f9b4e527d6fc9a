/-
  The walk of checkNode.
-/
import Derived.Test.YtkgblicmkijpdaaGraA
namespace Go.Proofs.Ytkgblicmkijpdaa
open Go.RowKit
set_option linter.unusedVariables false
set_option linter.unusedSimpArgs false

theorem on1 {W0 W W' : World} (hK : Below W0.heap.size W0 W) (hb : Below W.heap.size W W') : Below W0.heap.size W0 W' := hK.trans (hb.mono hK.size)
theorem ndE_id {o : Option Nd} {n : Nd} (h : idOk n.id = false) : ndE o n = 1 := by unfold ndE; rw [h]; rfl
theorem ndE_low {o : Option Nd} {n : Nd} (h : idOk n.id = true) (h2 : n.low o = true) : ndE o n = 7 := by unfold ndE; rw [if_pos h, if_pos h2]
theorem ndE_name {o : Option Nd} {n : Nd} (h : idOk n.id = true) (h2 : n.low o = false) (h3 : ¬ nErr n.kd.data.toList = 0) : ndE o n = nErr n.kd.data.toList := by unfold ndE; rw [if_pos h, h2, if_neg Bool.false_ne_true, if_neg h3]
theorem ndE_rec {o : Option Nd} {n : Nd} (h : idOk n.id = true) (h2 : n.low o = false) (h3 : nErr n.kd.data.toList = 0) : ndE o n = rErr n.rc := by unfold ndE; rw [if_pos h, h2, if_neg Bool.false_ne_true, if_pos h3]

set_option maxHeartbeats 4000000 in
set_option maxRecDepth 100000 in
theorem checkNode_first (ao : Option Addr) (c : Nat) (n : Nd) (w : World) (hR : IsR w n.rv n.rc) (z1 : n.kd.size ≤ maxLen) (z2 : Sz n.rc) (z3 : n.rc.length ≤ maxLen) :
    Calls Try.prog 20 #[.slice ao 0 c, n.one] w fun e w' => e = .returned (errV (ndE none n)) ∧ Below w.heap.size w w' := by
  have hB : Below w.heap.size w (w.alloc (.cells #[.int .i64 n.id, .string n.kd, n.rv] 30)) := b_alloc (Below.refl _ _) _
  have ci := fun w => isId_any n.id w
  have nm := fun w => name_any n.kd w z1
  have rc := fun i => rcheck_r (hR.on (b_drewN hB i)) z2 z3
  obtain ⟨av, cv, hv, _⟩ := hR
  by_cases h1 : idOk n.id = true
  · rw [h1] at ci
    by_cases h3 : nErr n.kd.data.toList = 0
    · have H : Hid (ndE none n = rErr n.rc) := ndE_rec h1 rfl h3
      rw [h3, errV_0] at nm
      clear h1 h3
      obtain ⟨id, kd, rv, rc0⟩ := n
      simp only at hv H nm ci rc hB ⊢
      subst hv
      go_enter Try.func20, Try.ntmps20
      go_wp2_with (first | (go_at_call 47; refine (ci _).mono ?_; rintro e w' ⟨rfl, rfl⟩))
      go_quiet (fail)
      go_wp2_with (first | (go_at_call 48; refine (nm _).mono ?_; rintro e w' ⟨rfl, rfl⟩) | (go_at_call 49; refine (rc _).mono ?_; rintro e w' ⟨rfl, hB2⟩))
      go_ret
      exact ⟨ret_v (congrArg errV H.out.symm), on1 (b_drewN hB _) hB2⟩
    · have H : Hid (ndE none n = nErr n.kd.data.toList) := ndE_name h1 rfl h3
      rw [errV_ne h3] at nm
      have H3 : Hid (errV (ndE none n) = .iface 60 (.int .i64 (nErr n.kd.data.toList))) := by
        show _ = _
        rw [H.out, errV_ne h3]
      clear h1 h3 H rc
      obtain ⟨id, kd, rv, rc0⟩ := n
      simp only at hv H3 nm ci hB ⊢
      subst hv
      go_enter Try.func20, Try.ntmps20
      go_wp2_with (first | (go_at_call 47; refine (ci _).mono ?_; rintro e w' ⟨rfl, rfl⟩))
      go_quiet (fail)
      go_wp2_with (first | (go_at_call 48; refine (nm _).mono ?_; rintro e w' ⟨rfl, rfl⟩))
      go_ret
      exact ⟨ret_v H3.out.symm, b_drewN hB _⟩
  · have h1' : idOk n.id = false := by simpa using h1
    have H3 : Hid (errV (ndE none n) = .iface 60 (.int .i64 1)) := by
      show _ = _
      rw [ndE_id h1', errV_1]
    rw [h1'] at ci
    clear h1 h1' rc nm
    obtain ⟨id, kd, rv, rc0⟩ := n
    simp only at hv H3 ci hB ⊢
    subst hv
    go_enter Try.func20, Try.ntmps20
    go_wp2_with (first | (go_at_call 47; refine (ci _).mono ?_; rintro e w' ⟨rfl, rfl⟩))
    go_ret
    exact ⟨ret_v H3.out.symm, hB⟩
set_option maxHeartbeats 4000000 in
set_option maxRecDepth 100000 in
theorem checkNode_next (b off k c : Nat) (q n : Nd) (w : World) (hb : b < w.heap.size) (hk : k ≤ 60) (hq : w.cell? ⟨b, off + k * 3, none⟩ = some (.int .i64 q.id)) (hR : IsR w n.rv n.rc) (z1 : n.kd.size ≤ maxLen) (z2 : Sz n.rc) (z3 : n.rc.length ≤ maxLen) :
    Calls Try.prog 20 #[.slice (some ⟨b, off, none⟩) (k + 1) c, n.one] w fun e w' => e = .returned (errV (ndE (some q) n)) ∧ Below w.heap.size w w' := by
  have hB : Below w.heap.size w (w.alloc (.cells #[.int .i64 n.id, .string n.kd, n.rv] 30)) := b_alloc (Below.refl _ _) _
  have ci := fun w => isId_any n.id w
  have nm := fun w => name_any n.kd w z1
  have rc := fun i => rcheck_r (hR.on (b_drewN hB i)) z2 z3
  obtain ⟨av, cv, hv, _⟩ := hR
  have hq' := (hB.cell (p := ⟨b, off + k * 3, none⟩) hb).trans hq
  have hbn : ¬ b = w.heap.size := by omega
  have hw1 : IntKind.i64.wrap ((k : Int) + 1 - 1) = (k : Int) := by rw [IntKind.wrap_i64]; omega
  have hi1 : (k : Int) < ((k : Int) + 1) := by omega
  have hg : (0 : Int) < ((k : Int) + 1) := by omega
  clear hq
  obtain ⟨qi, qk, qv, qr⟩ := q
  simp only at hq'
  by_cases h1 : idOk n.id = true
  · rw [h1] at ci
    by_cases h2 : n.id ≤ qi
    · have H3 : Hid (errV (ndE (some ⟨qi, qk, qv, qr⟩) n) = .iface 60 (.int .i64 7)) := by
        show _ = _
        rw [ndE_low h1 (by unfold Nd.low; simpa using h2), errV_7]
      clear h1 rc nm
      obtain ⟨id, kd, rv, rc0⟩ := n
      simp only at hv H3 ci hB hq' h2 ⊢
      subst hv
      go_enter Try.func20, Try.ntmps20
      go_wp2_with (first | (go_at_call 47; refine (ci _).mono ?_; rintro e w' ⟨rfl, rfl⟩))
      go_quiet (fail)
      go_wp2
      go_ret
      exact ⟨ret_v H3.out.symm, b_drewN hB _⟩
    have h2' : ∀ r s t, n.low (some ⟨qi, r, s, t⟩) = false := fun _ _ _ => by unfold Nd.low; simpa using h2
    by_cases h3 : nErr n.kd.data.toList = 0
    · have H : Hid (ndE (some ⟨qi, qk, qv, qr⟩) n = rErr n.rc) := ndE_rec h1 (h2' _ _ _) h3
      rw [h3, errV_0] at nm
      clear h1 h3 h2'
      obtain ⟨id, kd, rv, rc0⟩ := n
      simp only at hv H nm ci rc hB hq' h2 ⊢
      subst hv
      go_enter Try.func20, Try.ntmps20
      go_wp2_with (first | (go_at_call 47; refine (ci _).mono ?_; rintro e w' ⟨rfl, rfl⟩))
      go_quiet (fail)
      go_wp2_with (first | (go_at_call 48; refine (nm _).mono ?_; rintro e w' ⟨rfl, rfl⟩) | (go_at_call 49; refine (rc _).mono ?_; rintro e w' ⟨rfl, hB2⟩))
      go_ret
      exact ⟨ret_v (congrArg errV H.out.symm), on1 (b_drewN hB _) hB2⟩
    · have H : Hid (ndE (some ⟨qi, qk, qv, qr⟩) n = nErr n.kd.data.toList) := ndE_name h1 (h2' _ _ _) h3
      rw [errV_ne h3] at nm
      have H3 : Hid (errV (ndE (some ⟨qi, qk, qv, qr⟩) n) = .iface 60 (.int .i64 (nErr n.kd.data.toList))) := by
        show _ = _
        rw [H.out, errV_ne h3]
      clear h1 h3 H rc h2'
      obtain ⟨id, kd, rv, rc0⟩ := n
      simp only at hv H3 nm ci hB hq' h2 ⊢
      subst hv
      go_enter Try.func20, Try.ntmps20
      go_wp2_with (first | (go_at_call 47; refine (ci _).mono ?_; rintro e w' ⟨rfl, rfl⟩))
      go_quiet (fail)
      go_wp2_with (first | (go_at_call 48; refine (nm _).mono ?_; rintro e w' ⟨rfl, rfl⟩))
      go_ret
      exact ⟨ret_v H3.out.symm, b_drewN hB _⟩
  · have h1' : idOk n.id = false := by simpa using h1
    have H3 : Hid (errV (ndE (some ⟨qi, qk, qv, qr⟩) n) = .iface 60 (.int .i64 1)) := by
      show _ = _
      rw [ndE_id h1', errV_1]
    rw [h1'] at ci
    clear h1 h1' rc nm
    obtain ⟨id, kd, rv, rc0⟩ := n
    simp only at hv H3 ci hB hq' ⊢
    subst hv
    go_enter Try.func20, Try.ntmps20
    go_wp2_with (first | (go_at_call 47; refine (ci _).mono ?_; rintro e w' ⟨rfl, rfl⟩))
    go_ret
    exact ⟨ret_v H3.out.symm, hB⟩
end Go.Proofs.Ytkgblicmkijpdaa
