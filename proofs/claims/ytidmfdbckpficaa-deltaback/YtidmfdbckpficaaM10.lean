/-
  The walks of graph.Same of two graphs that are the same, and of what it calls.
-/
import Derived.Test.YtidmfdbckpficaaM06
import Derived.Test.YtidmfdbckpficaaM09
import Derived.Laws.StructEq
import Derived.Lib.Bytealg
import Derived.Lib.Small
import Derived.WalkKit
namespace Go.Proofs.Ytidmfdbckpficaa
open Go.RowKit
set_option linter.unusedVariables false
set_option linter.unusedSimpArgs false

theorem str31 : Try.prog.underlying 40 = some (.struct (Try.prog.fieldsOf 40)) := by kernel_rfl
theorem str59 : Try.prog.underlying 38 = some (.struct (Try.prog.fieldsOf 38)) := by kernel_rfl
theorem str56 : Try.prog.underlying 36 = some (.struct (Try.prog.fieldsOf 36)) := by kernel_rfl
theorem hp31 : Try.prog.stoodInHeld 40 = false := by kernel_rfl
theorem hp59 : Try.prog.stoodInHeld 38 = false := by kernel_rfl
theorem hp56 : Try.prog.stoodInHeld 36 = false := by kernel_rfl
theorem eg31 : Try.prog.eqGuardType Try.prog.depth 40 = false := by kernel_rfl
theorem eg59 : Try.prog.eqGuardType Try.prog.depth 38 = false := by kernel_rfl
theorem neqT_same (t : Te) (w : World) : (binOp .neq 40 t.one t.one).run Try.prog w = .ok (.bool false) w := by
  have u3 := Try.underlying3
  have a3 := Try.isAgg3
  have z3 := Try.sizeOf3
  have u9 := Try.underlying9
  have a9 := Try.isAgg9
  have z9 := Try.sizeOf9
  rw [run_neq_struct, show (10000 : Nat) = 9999 + 1 from rfl, run_equalIn_agg w 9999 40 _ _ str31 hp31]
  simp only [Program.fieldsOf, Try.underlying40]
  go_simp
theorem eqV_any (t n t' n' : Int) (s s' : ByteArray) (d : Nat) (w : World) : (Op.equalIn (d + 1 + 1) 36 (.agg #[.int .i64 t, .int .i64 n, .string s]) (.agg #[.int .i64 t', .int .i64 n', .string s'])).run Try.prog w = .ok ((t == t') && (n == n') && (s.toList == s'.toList)) w := by
  have u3 := Try.underlying3
  have a3 := Try.isAgg3
  have z3 := Try.sizeOf3
  have u9 := Try.underlying9
  have a9 := Try.isAgg9
  have z9 := Try.sizeOf9
  rw [run_equalIn_agg w (d + 1) 36 _ _ str56 hp56]
  simp only [Program.fieldsOf, Try.underlying36]
  go_simp
  by_cases h1 : t = t' <;> by_cases h2 : n = n' <;> by_cases h3 : s.toList = s'.toList <;> simp [h1, h2, h3]
/-- Are two properties the same? -/
def Pr.eq (p q : Pr) : Bool := (p.nm.toList == q.nm.toList) && ((p.t == q.t) && (p.n == q.n) && (p.s.toList == q.s.toList))
theorem eqP_any (p q : Pr) (w : World) : (Op.equalIn 10000 38 p.one q.one).run Try.prog w = .ok (p.eq q) w := by
  have u9 := Try.underlying9
  have a9 := Try.isAgg9
  have z9 := Try.sizeOf9
  have a56 := Try.isAgg36
  have z56 := Try.sizeOf36
  have hV : ∀ w, (Op.equalIn 9999 36 (.agg #[.int .i64 p.t, .int .i64 p.n, .string p.s]) (.agg #[.int .i64 q.t, .int .i64 q.n, .string q.s])).run Try.prog w = .ok ((p.t == q.t) && (p.n == q.n) && (p.s.toList == q.s.toList)) w := fun w => eqV_any p.t p.n q.t q.n p.s q.s 9997 w
  rw [show (10000 : Nat) = 9999 + 1 from rfl, run_equalIn_agg w 9999 38 _ _ str59 hp59]
  unfold Pr.eq
  generalize ((p.t == q.t) && (p.n == q.n) && (p.s.toList == q.s.toList)) = b at *
  simp only [Program.fieldsOf, Try.underlying38]
  go_simp
  by_cases h1 : p.nm.toList = q.nm.toList <;> cases b <;> simp [h1]
theorem pr_eq_self (p : Pr) : p.eq p = true := by simp [Pr.eq]
theorem neqP_any (p q : Pr) (w : World) : (binOp .neq 38 p.one q.one).run Try.prog w = .ok (.bool (!p.eq q)) w := by
  rw [run_neq_struct, eqP_any]; rfl
theorem eqlP_any (p q : Pr) (w : World) : (binOp .eql 38 p.one q.one).run Try.prog w = .ok (.bool (p.eq q)) w := by
  rw [run_eql_struct, eqP_any]; rfl
theorem egP (op : BinOp) (x y : Operand) (p q : Pr) (w : World) : (eqGuard op 38 x y p.one q.one).run Try.prog w = .ok () w := run_eqGuard_agg w op 38 x y _ _ eg59
theorem egT (op : BinOp) (x y : Operand) (p q : Te) (w : World) : (eqGuard op 40 x y p.one q.one).run Try.prog w = .ok () w := run_eqGuard_agg w op 40 x y _ _ eg31

set_option maxHeartbeats 1000000 in
set_option maxRecDepth 100000 in
theorem equalR_same {va vb : Value} {L : List Pr} {w : World} (ha : IsR w va L) (hb : IsR w vb L) (hl : L.length ≤ 1000) :
    Calls Try.prog 37 #[va, vb] w fun e w' => e = .returned (.bool true) ∧ Below w.heap.size w w' := by
  obtain ⟨ao, ca, rfl, h1⟩ := ha
  obtain ⟨bo, cb, rfl, h2⟩ := hb
  go_enter Try.func37, Try.ntmps37
  go_wp2
  go_loopw [13] (fun i wr => ∃ k q : Nat, k ≤ L.length ∧ i = .int .i64 k ∧ wr = w.drewN q) (fun i _ => L.length - (intOf i).toNat)
  case atStart => exact ⟨0, 0, Nat.zero_le _, rfl, rfl⟩
  case round =>
    obtain ⟨k, q, hk, rfl, rfl⟩ := hrel
    by_cases hlt : k < L.length
    · obtain ⟨x, hx⟩ : ∃ x, L[k]? = some x := ⟨L[k], by simp [hlt]⟩
      rcases h1 with rfl | ⟨b1, o1, rfl, hb1, l1⟩
      · exact absurd hlt (by simp)
      rcases h2 with rfl | ⟨b2, o2, rfl, hb2, l2⟩
      · exact absurd hlt (by simp)
      obtain ⟨c0, c1, c2, c3⟩ := l1 k x hx
      obtain ⟨d0, d1, d2, d3⟩ := l2 k x hx
      have hne := neqP_any x x
      rw [pr_eq_self] at hne
      have hgd := fun op a b => egP op a b x x
      obtain ⟨nm, t, n, s⟩ := x
      simp only at c0 c1 c2 c3 d0 d1 d2 d3 hne hgd
      clear l1 l2 hx
      generalize hW : w.drewN q = W at *
      have e0 : W.cell? ⟨b1, o1 + k * 4, none⟩ = some (.string nm) := by rw [← hW]; exact c0
      have e1 : W.cell? ⟨b1, o1 + k * 4 + 1, none⟩ = some (.int .i64 t) := by rw [← hW]; exact c1
      have e2 : W.cell? ⟨b1, o1 + k * 4 + 2, none⟩ = some (.int .i64 n) := by rw [← hW]; exact c2
      have e3 : W.cell? ⟨b1, o1 + k * 4 + 3, none⟩ = some (.string s) := by rw [← hW]; exact c3
      have f0 : W.cell? ⟨b2, o2 + k * 4, none⟩ = some (.string nm) := by rw [← hW]; exact d0
      have f1 : W.cell? ⟨b2, o2 + k * 4 + 1, none⟩ = some (.int .i64 t) := by rw [← hW]; exact d1
      have f2 : W.cell? ⟨b2, o2 + k * 4 + 2, none⟩ = some (.int .i64 n) := by rw [← hW]; exact d2
      have f3 : W.cell? ⟨b2, o2 + k * 4 + 3, none⟩ = some (.string s) := by rw [← hW]; exact d3
      clear c0 c1 c2 c3 d0 d1 d2 d3
      go_wp2_with fail
      go_quiet (fail)
      go_wp2
      refine ⟨⟨k + 1, q + nq, hlt, ?_, by rw [← hW, World.drewN_drewN]⟩, ?_⟩
      · go_num
      · simp [intOf]
        omega
    · go_wp2
      go_ret
      exact ⟨rfl, b_drewK (Below.refl _ _) _⟩

set_option maxHeartbeats 1000000 in
set_option maxRecDepth 100000 in
theorem equalT_same {va vb : Value} {L : List Te} {w : World} (ha : IsT w va L) (hb : IsT w vb L) (hl : L.length ≤ 1000) :
    Calls Try.prog 16 #[va, vb] w fun e w' => e = .returned (.bool true) ∧ Below w.heap.size w w' := by
  obtain ⟨ao, ca, rfl, _, h1⟩ := ha
  obtain ⟨bo, cb, rfl, _, h2⟩ := hb
  go_enter Try.func16, Try.ntmps16
  go_wp2
  go_loopw [13] (fun i wr => ∃ k q : Nat, k ≤ L.length ∧ i = .int .i64 k ∧ wr = w.drewN q) (fun i _ => L.length - (intOf i).toNat)
  case atStart => exact ⟨0, 0, Nat.zero_le _, rfl, rfl⟩
  case round =>
    obtain ⟨k, q, hk, rfl, rfl⟩ := hrel
    by_cases hlt : k < L.length
    · obtain ⟨x, hx⟩ : ∃ x, L[k]? = some x := ⟨L[k], by simp [hlt]⟩
      rcases h1 with rfl | ⟨b1, o1, rfl, hb1, l1⟩
      · exact absurd hlt (by simp)
      rcases h2 with rfl | ⟨b2, o2, rfl, hb2, l2⟩
      · exact absurd hlt (by simp)
      obtain ⟨c0, c1, c2⟩ := l1 k x hx
      obtain ⟨d0, d1, d2⟩ := l2 k x hx
      have hne := neqT_same x
      have hgd := fun op a b => egT op a b x x
      obtain ⟨nm, t, n⟩ := x
      simp only at c0 c1 c2 d0 d1 d2 hne hgd
      clear l1 l2 hx
      generalize hW : w.drewN q = W at *
      have e0 : W.cell? ⟨b1, o1 + k * 3, none⟩ = some (.string nm) := by rw [← hW]; exact c0
      have e1 : W.cell? ⟨b1, o1 + k * 3 + 1, none⟩ = some (.int .i64 t) := by rw [← hW]; exact c1
      have e2 : W.cell? ⟨b1, o1 + k * 3 + 2, none⟩ = some (.int .i64 n) := by rw [← hW]; exact c2
      have f0 : W.cell? ⟨b2, o2 + k * 3, none⟩ = some (.string nm) := by rw [← hW]; exact d0
      have f1 : W.cell? ⟨b2, o2 + k * 3 + 1, none⟩ = some (.int .i64 t) := by rw [← hW]; exact d1
      have f2 : W.cell? ⟨b2, o2 + k * 3 + 2, none⟩ = some (.int .i64 n) := by rw [← hW]; exact d2
      clear c0 c1 c2 d0 d1 d2
      go_wp2_with fail
      go_quiet (fail)
      go_wp2
      refine ⟨⟨k + 1, q + nq, hlt, ?_, by rw [← hW, World.drewN_drewN]⟩, ?_⟩
      · go_num
      · simp [intOf]
        omega
    · go_wp2
      go_ret
      exact ⟨rfl, b_drewK (Below.refl _ _) _⟩

set_option maxHeartbeats 1000000 in
theorem sameNode_eq {n m : Nd} {w : World} (hi : n.id = m.id) (hk : n.kd = m.kd) (hr : n.rc = m.rc) (h1 : IsR w n.rv n.rc) (h2 : IsR w m.rv m.rc) (hl : n.rc.length ≤ 1000) :
    Calls Try.prog 15 #[n.one, m.one] w fun e w' => e = .returned (.bool true) ∧ Below w.heap.size w w' := by
  obtain ⟨i, k, v, r⟩ := n
  obtain ⟨i', k', v', r'⟩ := m
  simp only at hi hk hr h1 h2 hl
  subst hi hk hr
  obtain ⟨W0, hW0⟩ : ∃ W0, W0 = (w.alloc (.cells #[.int .i64 i, .string k, v] 30)).alloc (.cells #[.int .i64 i, .string k, v'] 30) := ⟨_, rfl⟩
  have hB0 : Below w.heap.size w W0 := by rw [hW0]; exact b_alloc (b_alloc (Below.refl _ _) _) _
  have n0 : W0.heap[w.heap.size]? = some (.cells #[.int .i64 i, .string k, v] 30 (0, 0)) := by rw [hW0]; exact (heap_alloc_old _ _ (by simp)).trans (heap_alloc_new w _)
  have n1 : W0.heap[w.heap.size + 1]? = some (.cells #[.int .i64 i, .string k, v'] 30 (0, 0)) := by
    have := heap_alloc_new (w.alloc (.cells #[.int .i64 i, .string k, v] 30)) (.cells #[.int .i64 i, .string k, v'] 30)
    rw [World.size_alloc] at this; rw [hW0]; exact this
  have c := equalR_same (h1.on hB0) (h2.on hB0) hl
  obtain ⟨a1, l1, c1, rfl⟩ := h1.sl
  obtain ⟨a2, l2, c2, rfl⟩ := h2.sl
  have x0 : W0.cell? ⟨w.heap.size, 0, none⟩ = some (.int .i64 i) := cell_at n0 rfl
  have x1 : W0.cell? ⟨w.heap.size, 1, none⟩ = some (.string k) := cell_at n0 rfl
  have x2 : W0.cell? ⟨w.heap.size, 2, none⟩ = some (.slice a1 l1 c1) := cell_at n0 rfl
  have y0 : W0.cell? ⟨w.heap.size + 1, 0, none⟩ = some (.int .i64 i) := cell_at n1 rfl
  have y1 : W0.cell? ⟨w.heap.size + 1, 1, none⟩ = some (.string k) := cell_at n1 rfl
  have y2 : W0.cell? ⟨w.heap.size + 1, 2, none⟩ = some (.slice a2 l2 c2) := cell_at n1 rfl
  have HB := Lib.hid hB0
  clear n0 n1 hB0 h1 h2
  go_enter Try.func15, Try.ntmps15
  go_upto_region 1 with fail
  rw [← hW0]
  clear hW0
  go_wp2_with (first | (go_at_call 37; refine c.mono ?_; rintro e W1 ⟨rfl, hB1⟩))
  go_ret
  exact ⟨rfl, on1K HB.out hB1 (Nat.le_refl _)⟩

theorem cN_at {N M : List Nd} (h : cN N = cN M) {k : Nat} {n m : Nd} (hn : N[k]? = some n) (hm : M[k]? = some m) : n.id = m.id ∧ n.kd = m.kd ∧ n.rc = m.rc := by
  have h1 : (cN N)[k]? = some n.c := by unfold cN; rw [List.getElem?_map, hn]; rfl
  have h2 : (cN M)[k]? = some m.c := by unfold cN; rw [List.getElem?_map, hm]; rfl
  rw [h, h2] at h1
  injection h1 with h1
  obtain ⟨i, k, v, r⟩ := n
  obtain ⟨i', k', v', r'⟩ := m
  simp [Nd.c] at h1
  exact ⟨h1.1.symm, h1.2.1.symm, h1.2.2.symm⟩
set_option maxHeartbeats 2000000 in
set_option maxRecDepth 100000 in
theorem equalN_same {va vb : Value} {N M : List Nd} {w : World} (ha : IsN w va N) (hb : IsN w vb M) (he : cN N = cN M) (hl : N.length ≤ 1000) (h8 : ∀ n ∈ N, n.rc.length ≤ 1000) :
    Calls Try.prog 14 #[va, vb, .func (.func 15) #[] #[]] w fun e w' => e = .returned (.bool true) ∧ Below w.heap.size w w' := by
  have hlen : M.length = N.length := by have := congrArg List.length he; unfold cN at this; simpa using this.symm
  obtain ⟨ao, ca, rfl, _, h1⟩ := ha
  obtain ⟨bo, cb, rfl, _, h2⟩ := hb
  have HE := Lib.hid he
  rw [hlen]
  clear he
  go_enter Try.func14, Try.ntmps14
  go_wp2
  go_loopw [17] (fun i wr => ∃ k : Nat, k ≤ N.length ∧ i = .int .i64 k ∧ Below w.heap.size w wr) (fun i _ => N.length - (intOf i).toNat)
  case atStart => exact ⟨0, Nat.zero_le _, rfl, Below.refl _ _⟩
  case round =>
    obtain ⟨k, hk, rfl, hB⟩ := hrel
    have HB := Lib.hid hB
    by_cases hlt : k < N.length
    · obtain ⟨x, hx⟩ : ∃ x, N[k]? = some x := ⟨N[k], by simp [hlt]⟩
      obtain ⟨y, hy⟩ : ∃ y, M[k]? = some y := ⟨M[k]'(by omega), by simp [hlt, hlen]⟩
      rcases h1 with rfl | ⟨b1, o1, rfl, hb1, l1⟩
      · exact absurd hlt (by simp)
      rcases h2 with rfl | ⟨b2, o2, rfl, hb2, l2⟩
      · simp at hy
      obtain ⟨c0, c1, c2, c3⟩ := l1 k x hx
      obtain ⟨d0, d1, d2, d3⟩ := l2 k y hy
      obtain ⟨q1, q2, q3⟩ := cN_at HE.out hx hy
      have hx8 := h8 x (List.mem_of_getElem? hx)
      have e0 := (hB.cell (p := ⟨b1, o1 + k * 3, none⟩) hb1).trans c0
      have e1 := (hB.cell (p := ⟨b1, o1 + k * 3 + 1, none⟩) hb1).trans c1
      have e2 := (hB.cell (p := ⟨b1, o1 + k * 3 + 2, none⟩) hb1).trans c2
      have f0 := (hB.cell (p := ⟨b2, o2 + k * 3, none⟩) hb2).trans d0
      have f1 := (hB.cell (p := ⟨b2, o2 + k * 3 + 1, none⟩) hb2).trans d1
      have f2 := (hB.cell (p := ⟨b2, o2 + k * 3 + 2, none⟩) hb2).trans d2
      have hbr : b2 < wr.heap.size := Nat.lt_of_lt_of_le hb2 hB.size
      have w0 := cell_old f0
      have w1 := cell_old f1
      have w2 := cell_old f2
      have hX : Below wr.heap.size wr ((wr.alloc (.cells #[.int .i64 x.id, .string x.kd, x.rv] 30)).alloc (.cells #[.int .i64 y.id, .string y.kd, y.rv] 30)) := b_alloc (b_alloc (Below.refl _ _) _) _
      have n0 : ((wr.alloc (.cells #[.int .i64 x.id, .string x.kd, x.rv] 30)).alloc (.cells #[.int .i64 y.id, .string y.kd, y.rv] 30)).heap[wr.heap.size]? = some (.cells #[.int .i64 x.id, .string x.kd, x.rv] 30 (0, 0)) := (heap_alloc_old _ _ (by simp)).trans (heap_alloc_new wr _)
      have n1 : ((wr.alloc (.cells #[.int .i64 x.id, .string x.kd, x.rv] 30)).alloc (.cells #[.int .i64 y.id, .string y.kd, y.rv] 30)).heap[wr.heap.size + 1]? = some (.cells #[.int .i64 y.id, .string y.kd, y.rv] 30 (0, 0)) := by
        have := heap_alloc_new (wr.alloc (.cells #[.int .i64 x.id, .string x.kd, x.rv] 30)) (.cells #[.int .i64 y.id, .string y.kd, y.rv] 30)
        rw [World.size_alloc] at this; exact this
      have g0 := cell_at (i := 0) n0 rfl
      have g1 := cell_at (i := 1) n0 rfl
      have g2 := cell_at (i := 2) n0 rfl
      have g3 := cell_at (i := 0) n1 rfl
      have g4 := cell_at (i := 1) n1 rfl
      have g5 := cell_at (i := 2) n1 rfl
      have cs := sameNode_eq q1 q2 q3 (c3.on (on1K hB hX (Nat.le_refl _))) (d3.on (on1K hB hX (Nat.le_refl _))) hx8
      have HX := Lib.hid hX
      obtain ⟨a1, s1, t1, hv1⟩ := c3.sl
      obtain ⟨a2, s2, t2, hv2⟩ := d3.sl
      clear l1 l2 c0 c1 c2 c3 d0 d1 d2 d3 q1 q2 q3 hx hy hX n0 n1 hB
      obtain ⟨xi, xk, xv, xr⟩ := x
      obtain ⟨yi, yk, yv, yr⟩ := y
      simp only at hv1 hv2 e0 e1 e2 f0 f1 f2 w0 w1 w2 g0 g1 g2 g3 g4 g5 cs HX
      subst hv1 hv2
      go_wp2_with (first | (go_at_call 15; refine cs.mono ?_; rintro e W2 ⟨rfl, hB2⟩))
      refine ⟨⟨k + 1, hlt, ?_, on1K HB.out (on1K HX.out hB2 (Nat.le_refl _)) (Nat.le_refl _)⟩, ?_⟩
      · go_num
      · simp [intOf]
        omega
    · go_wp2
      go_ret
      exact ⟨rfl, HB.out⟩
set_option maxHeartbeats 2000000 in
set_option maxRecDepth 100000 in
/-- graph.Same of two graphs that are the same. -/
theorem same_eq {vn vt un ut : Value} {N M : List Nd} {T : List Te} {w : World} (hN : IsN w vn N) (hT : IsT w vt T) (hM : IsN w un M) (hU : IsT w ut T) (he : cN N = cN M) (g1 : gErr N T = 0) (g2 : gErr M T = 0) (h8 : ∀ n ∈ N, n.rc.length ≤ 1000) (zN : SzN N) (zT : SzT T) (zM : SzN M) (l60 : N.length ≤ 60) (l60' : M.length ≤ 60) (l120 : T.length ≤ 120) :
    Calls Try.prog 7 #[.agg #[vn, vt], .agg #[un, ut]] w fun e w' => e = .returned (.tuple #[.bool true, .nilIface]) ∧ Below w.heap.size w w' := by
  obtain ⟨W0, hW0⟩ : ∃ W0, W0 = (w.alloc (.cells #[vn, vt] 25)).alloc (.cells #[un, ut] 25) := ⟨_, rfl⟩
  have hB0 : Below w.heap.size w W0 := by rw [hW0]; exact b_alloc (b_alloc (Below.refl _ _) _) _
  have hs0 : W0.heap.size = w.heap.size + 2 := by rw [hW0]; simp
  have n0 : W0.heap[w.heap.size]? = some (.cells #[vn, vt] 25 (0, 0)) := by rw [hW0]; exact (heap_alloc_old _ _ (by simp)).trans (heap_alloc_new w _)
  have n1 : W0.heap[w.heap.size + 1]? = some (.cells #[un, ut] 25 (0, 0)) := by
    have := heap_alloc_new (w.alloc (.cells #[vn, vt] 25)) (.cells #[un, ut] 25)
    rw [World.size_alloc] at this; rw [hW0]; exact this
  have b := fun W (hB : Below W0.heap.size W0 W) => on1K hB0 hB (Nat.le_refl _)
  have cA := fun W (hB : Below W0.heap.size W0 W) => gcheck_any (hN.on (b W hB)) (hT.on (b W hB)) zN zT (by unfold maxLen; omega) (by unfold maxLen; omega)
  have cB := fun W (hB : Below W0.heap.size W0 W) => gcheck_any (hM.on (b W hB)) (hU.on (b W hB)) zM zT (by unfold maxLen; omega) (by unfold maxLen; omega)
  have cE := fun W (hB : Below W0.heap.size W0 W) => equalN_same (hN.on (b W hB)) (hM.on (b W hB)) he (by omega) h8
  have cF := fun W (hB : Below W0.heap.size W0 W) => equalT_same (hT.on (b W hB)) (hU.on (b W hB)) (by omega)
  rw [g1, errV_0] at cA
  rw [g2, errV_0] at cB
  have HX : Hid (∀ W, Below W0.heap.size W0 W → (W.cell? ⟨w.heap.size, 0, none⟩ = some vn ∧ W.cell? ⟨w.heap.size, 1, none⟩ = some vt) ∧ (W.cell? ⟨w.heap.size + 1, 0, none⟩ = some un ∧ W.cell? ⟨w.heap.size + 1, 1, none⟩ = some ut)) := fun W hB => by
    have p0 := (hB.block w.heap.size (by omega)).trans n0
    have p1 := (hB.block (w.heap.size + 1) (by omega)).trans n1
    exact ⟨⟨cell_at p0 rfl, cell_at p0 rfl⟩, ⟨cell_at p1 rfl, cell_at p1 rfl⟩⟩
  obtain ⟨⟨x0, x1⟩, x2, x3⟩ := HX.out W0 (Below.refl _ _)
  obtain ⟨an, cn, rfl, _⟩ := hN
  obtain ⟨am, cm, rfl, _⟩ := hT
  obtain ⟨bn, dn, rfl, _⟩ := hM
  obtain ⟨bm, dm, rfl, _⟩ := hU
  have c1 := cA W0 (Below.refl _ _)
  have HB := Lib.hid hB0
  clear n0 n1 hB0 b he g1 g2 cA
  go_enter Try.func7, Try.ntmps7
  go_upto_region 1 with fail
  rw [← hW0]
  clear hW0
  go_wp2_with (first | (go_at_call 11; first | (refine c1.mono ?_; rintro e W1 ⟨rfl, hB1⟩; obtain ⟨⟨y0, y1⟩, y2, y3⟩ := HX.out W1 hB1; have c2 := cB W1 hB1; clear c1) | (refine c2.mono ?_; rintro e W2 ⟨rfl, hB2⟩; have hC2 := on1K hB1 hB2 (Nat.le_refl _); obtain ⟨⟨z0, z1⟩, z2, z3⟩ := HX.out W2 hC2; have c3 := cE W2 hC2; clear c2)) | (go_at_call 14; refine c3.mono ?_; rintro e W3 ⟨rfl, hB3⟩; have hC3 := on1K hC2 hB3 (Nat.le_refl _); obtain ⟨⟨t0, t1⟩, t2, t3⟩ := HX.out W3 hC3; have c4 := cF W3 hC3) | (go_at_call 16; refine c4.mono ?_; rintro e W4 ⟨rfl, hB4⟩))
  go_ret2
  exact ⟨rfl, on1K HB.out (on1K hC3 hB4 (Nat.le_refl _)) (Nat.le_refl _)⟩
end Go.Proofs.Ytidmfdbckpficaa

/-
  The order of bytes.
-/
namespace Go.Proofs.Ytidmfdbckpficaa
open Go.RowKit
set_option linter.unusedVariables false
set_option linter.unusedSimpArgs false

theorem cmpB_range (a b : List UInt8) : Lib.compareBytes a b = -1 ∨ Lib.compareBytes a b = 0 ∨ Lib.compareBytes a b = 1 := by
  induction a generalizing b with
  | nil => cases b <;> simp [Lib.compareBytes]
  | cons c r ih =>
    cases b with
    | nil => simp [Lib.compareBytes]
    | cons d q =>
      simp only [Lib.compareBytes]
      split
      · simp
      · split
        · simp
        · exact ih q
theorem cmpB_anti (a b : List UInt8) : Lib.compareBytes b a = -Lib.compareBytes a b := by
  induction a generalizing b with
  | nil => cases b <;> simp [Lib.compareBytes]
  | cons c r ih =>
    cases b with
    | nil => simp [Lib.compareBytes]
    | cons d q =>
      simp only [Lib.compareBytes]
      by_cases h1 : c < d
      · have h2 : ¬ d < c := by rw [UInt8.lt_iff_toNat_lt] at *; omega
        simp [h1, h2]
      · by_cases h2 : d < c
        · simp [h1, h2]
        · simp [h1, h2, ih q]
theorem cmpB_zero (a b : List UInt8) : Lib.compareBytes a b = 0 ↔ a = b := by
  induction a generalizing b with
  | nil => cases b <;> simp [Lib.compareBytes]
  | cons c r ih =>
    cases b with
    | nil => simp [Lib.compareBytes]
    | cons d q =>
      simp only [Lib.compareBytes]
      by_cases h1 : c < d
      · have hne : ¬ c = d := by intro e; rw [e, UInt8.lt_iff_toNat_lt] at h1; omega
        simp [h1, hne]
      · by_cases h2 : d < c
        · have hne : ¬ c = d := by intro e; rw [e, UInt8.lt_iff_toNat_lt] at h2; omega
          simp [h1, h2, hne]
        · have he : c = d := by rw [UInt8.lt_iff_toNat_lt] at h1 h2; exact UInt8.toNat_inj.1 (by omega)
          simp [h1, h2, ih q, he]
theorem cmpB_trans (a b c : List UInt8) (h1 : Lib.compareBytes a b ≤ 0) (h2 : Lib.compareBytes b c ≤ 0) : Lib.compareBytes a c ≤ 0 := by
  induction a generalizing b c with
  | nil => cases c <;> simp [Lib.compareBytes]
  | cons x r ih =>
    cases b with
    | nil => simp [Lib.compareBytes] at h1
    | cons y q =>
      cases c with
      | nil => simp [Lib.compareBytes] at h2
      | cons z p =>
        simp only [Lib.compareBytes] at h1 h2 ⊢
        simp only [UInt8.lt_iff_toNat_lt] at *
        by_cases a1 : x.toNat < y.toNat
        · by_cases b1 : y.toNat < z.toNat
          · rw [if_pos (by omega)]; decide
          · by_cases b2 : z.toNat < y.toNat
            · rw [if_neg b1, if_pos b2] at h2; simp at h2
            · rw [if_pos (by omega)]; decide
        · by_cases a2 : y.toNat < x.toNat
          · rw [if_neg a1, if_pos a2] at h1; simp at h1
          · rw [if_neg a1, if_neg a2] at h1
            by_cases b1 : y.toNat < z.toNat
            · rw [if_pos (by omega)]; decide
            · by_cases b2 : z.toNat < y.toNat
              · rw [if_neg b1, if_pos b2] at h2; simp at h2
              · rw [if_neg b1, if_neg b2] at h2
                rw [if_neg (by omega), if_neg (by omega)]
                exact ih q p h1 h2
theorem less_cmp (a : List UInt8) : ∀ b, Op.bytesLess a b = decide (Lib.compareBytes a b < 0) := by
  induction a with
  | nil => intro b; cases b <;> simp [Op.bytesLess, Lib.compareBytes]
  | cons c r ih =>
    intro b
    cases b with
    | nil => simp [Op.bytesLess, Lib.compareBytes]
    | cons d q =>
      simp only [Op.bytesLess, Lib.compareBytes]
      by_cases h1 : c < d
      · simp [h1]
      · by_cases h2 : d < c
        · have hne : ¬ c = d := by intro e; rw [e, UInt8.lt_iff_toNat_lt] at h2; omega
          simp [h1, h2, hne]
        · have he : c = d := by rw [UInt8.lt_iff_toNat_lt] at h1 h2; exact UInt8.toNat_inj.1 (by omega)
          simp [h1, h2, he, ih q]
end Go.Proofs.Ytidmfdbckpficaa
