/-
  The walks of kinsame.Record, Node and Graph where both are the same.
-/
import Derived.Test.YtpmblbhemcippaaGreatDoorM20
import Derived.Laws.StructEq
import Derived.Deep.RegionHeld
import Derived.BigQuiet
import Derived.Test.YtpmblbhemcippaaGreatDoorM31
import Derived.Deep.RegionHeld3
import Derived.Laws.CopyOwn
namespace Go.Proofs.YtpmblbhemcippaaGreatDoor
open Go.RowKit
set_option linter.unusedVariables false
set_option linter.unusedSimpArgs false

theorem strP : Tryz.prog.underlying 62 = some (.struct (Tryz.prog.fieldsOf 62)) := by kernel_rfl
theorem strV : Tryz.prog.underlying 36 = some (.struct (Tryz.prog.fieldsOf 36)) := by kernel_rfl
theorem hpP : Tryz.prog.stoodInHeld 62 = false := by kernel_rfl
theorem hpV : Tryz.prog.stoodInHeld 36 = false := by kernel_rfl
theorem egP45 : Tryz.prog.eqGuardType Tryz.prog.depth 62 = false := by kernel_rfl
theorem eqV_any (t n t' n' : Int) (s s' : ByteArray) (d : Nat) (w : World) : (Op.equalIn (d + 1 + 1) 36 (.agg #[.int .i64 t, .int .i64 n, .string s]) (.agg #[.int .i64 t', .int .i64 n', .string s'])).run Tryz.prog w = .ok ((t == t') && (n == n') && (s.toList == s'.toList)) w := by
  have u3 := Tryz.underlying3
  have a3 := Tryz.isAgg3
  have z3 := Tryz.sizeOf3
  have u9 := Tryz.underlying9
  have a9 := Tryz.isAgg9
  have z9 := Tryz.sizeOf9
  rw [run_equalIn_agg w (d + 1) 36 _ _ strV hpV]
  simp only [Program.fieldsOf, Tryz.underlying36]
  go_simp
  by_cases h1 : t = t' <;> by_cases h2 : n = n' <;> by_cases h3 : s.toList = s'.toList <;> simp [h1, h2, h3]
def Pr.eq (p q : Pr) : Bool := (p.nm.toList == q.nm.toList) && ((p.t == q.t) && (p.n == q.n) && (p.s.toList == q.s.toList))
theorem eqP_any (p q : Pr) (w : World) : (Op.equalIn 10000 62 p.one q.one).run Tryz.prog w = .ok (p.eq q) w := by
  have u9 := Tryz.underlying9
  have a9 := Tryz.isAgg9
  have z9 := Tryz.sizeOf9
  have a56 := Tryz.isAgg36
  have z56 := Tryz.sizeOf36
  have hV : ∀ w, (Op.equalIn 9999 36 (.agg #[.int .i64 p.t, .int .i64 p.n, .string p.s]) (.agg #[.int .i64 q.t, .int .i64 q.n, .string q.s])).run Tryz.prog w = .ok ((p.t == q.t) && (p.n == q.n) && (p.s.toList == q.s.toList)) w := fun w => eqV_any p.t p.n q.t q.n p.s q.s 9997 w
  rw [show (10000 : Nat) = 9999 + 1 from rfl, run_equalIn_agg w 9999 62 _ _ strP hpP]
  unfold Pr.eq
  generalize ((p.t == q.t) && (p.n == q.n) && (p.s.toList == q.s.toList)) = b at *
  simp only [Program.fieldsOf, Tryz.underlying62]
  go_simp
  by_cases h1 : p.nm.toList = q.nm.toList <;> cases b <;> simp [h1]
theorem pr_eq_self (p : Pr) : p.eq p = true := by simp [Pr.eq]
theorem neqP_any (p q : Pr) (w : World) : (binOp .neq 62 p.one q.one).run Tryz.prog w = .ok (.bool (!p.eq q)) w := by
  rw [run_neq_struct, eqP_any]; rfl
theorem egPP (op : BinOp) (x y : Operand) (p q : Pr) (w : World) : (eqGuard op 62 x y p.one q.one).run Tryz.prog w = .ok () w := run_eqGuard_agg w op 62 x y _ _ egP45

set_option maxHeartbeats 1000000 in
set_option maxRecDepth 100000 in
theorem srec_same {va vb : Value} {L : List Pr} {w : World} (ha : IsR w va L) (hb : IsR w vb L) (hl : L.length ≤ 1000) :
    Calls Tryz.prog 35 #[va, vb] w fun e w' => e = .returned (.bool true) ∧ Below w.heap.size w w' := by
  obtain ⟨ao, ca, rfl, h1⟩ := ha
  obtain ⟨bo, cb, rfl, h2⟩ := hb
  go_enter Tryz.func35, Tryz.ntmps35
  go_wp2
  go_loopw [5] (fun i wr => ∃ k q : Nat, k ≤ L.length ∧ i = .int .i64 k ∧ wr = w.drewN q) (fun i _ => L.length - (intOf i).toNat)
  case atStart => exact ⟨0, 0, Nat.zero_le _, rfl, rfl⟩
  case round =>
    obtain ⟨k, q, hk, rfl, rfl⟩ := hrel
    by_cases hlt : k < L.length
    · obtain ⟨x, hx⟩ : ∃ x, L[k]? = some x := ⟨L[k], by simp [hlt]⟩
      rcases h1 with rfl | ⟨b1, o1, rfl, hb1, l1⟩
      · exact absurd hlt (by simp)
      rcases h2 with rfl | ⟨b2, o2, rfl, hb2, l2⟩
      · exact absurd hlt (by simp)
      obtain ⟨c0, c1, c2, c3⟩ := l1 k x hx
      obtain ⟨d0, d1, d2, d3⟩ := l2 k x hx
      have hne := neqP_any x x
      rw [pr_eq_self] at hne
      have hgd := fun op a b => egPP op a b x x
      obtain ⟨nm, t, n, s⟩ := x
      simp only at c0 c1 c2 c3 d0 d1 d2 d3 hne hgd
      clear l1 l2 hx
      generalize hW : w.drewN q = W at *
      have e0 : W.cell? ⟨b1, o1 + k * 4, none⟩ = some (.string nm) := by rw [← hW]; exact c0
      have e1 : W.cell? ⟨b1, o1 + k * 4 + 1, none⟩ = some (.int .i64 t) := by rw [← hW]; exact c1
      have e2 : W.cell? ⟨b1, o1 + k * 4 + 2, none⟩ = some (.int .i64 n) := by rw [← hW]; exact c2
      have e3 : W.cell? ⟨b1, o1 + k * 4 + 3, none⟩ = some (.string s) := by rw [← hW]; exact c3
      have f0 : W.cell? ⟨b2, o2 + k * 4, none⟩ = some (.string nm) := by rw [← hW]; exact d0
      have f1 : W.cell? ⟨b2, o2 + k * 4 + 1, none⟩ = some (.int .i64 t) := by rw [← hW]; exact d1
      have f2 : W.cell? ⟨b2, o2 + k * 4 + 2, none⟩ = some (.int .i64 n) := by rw [← hW]; exact d2
      have f3 : W.cell? ⟨b2, o2 + k * 4 + 3, none⟩ = some (.string s) := by rw [← hW]; exact d3
      clear c0 c1 c2 c3 d0 d1 d2 d3
      go_wp2_with fail
      go_quiet (fail)
      go_wp2
      refine ⟨⟨k + 1, q + nq, hlt, ?_, by rw [← hW, World.drewN_drewN]⟩, ?_⟩
      · go_num
      · simp [intOf]
        omega
    · go_wp2
      go_ret
      exact ⟨rfl, b_drewK (Below.refl _ _) _⟩

set_option maxHeartbeats 1000000 in
set_option maxRecDepth 100000 in
theorem snode_same {id : Int} {kd : ByteArray} {va vb : Value} {L : List Pr} {w : World} (ha : IsR w va L) (hb : IsR w vb L) (hl : L.length ≤ 1000) :
    Calls Tryz.prog 20 #[.agg #[.int .i64 id, .string kd, va], .agg #[.int .i64 id, .string kd, vb]] w fun e w' => e = .returned (.bool true) ∧ Below w.heap.size w w' := by
  have ha' := ha
  have hb' := hb
  obtain ⟨ao, ca, rfl, h1⟩ := ha'
  obtain ⟨bo, cb, rfl, h2⟩ := hb'
  clear h1 h2
  have hB : Below w.heap.size w ((w.alloc (.cells #[.int .i64 id, .string kd, .slice ao L.length ca] 57)).alloc (.cells #[.int .i64 id, .string kd, .slice bo L.length cb] 57)) := b_alloc (b_alloc (Below.refl _ _) _) _
  have cR := srec_same (ha.on hB) (hb.on hB) hl
  have HK : Hid (∀ W, Below ((w.alloc (.cells #[.int .i64 id, .string kd, .slice ao L.length ca] 57)).alloc (.cells #[.int .i64 id, .string kd, .slice bo L.length cb] 57)).heap.size ((w.alloc (.cells #[.int .i64 id, .string kd, .slice ao L.length ca] 57)).alloc (.cells #[.int .i64 id, .string kd, .slice bo L.length cb] 57)) W → Below w.heap.size w W ∧ W.cell? ⟨w.heap.size, 0, none⟩ = some (.int .i64 id) ∧ W.cell? ⟨w.heap.size, 1, none⟩ = some (.string kd) ∧ W.cell? ⟨w.heap.size + 1, 0, none⟩ = some (.int .i64 id) ∧ W.cell? ⟨w.heap.size + 1, 1, none⟩ = some (.string kd)) := fun W h => by
    refine ⟨on1 hB h, ?_, ?_, ?_, ?_⟩
    · exact (h.cell (by simp; omega)).trans (by simp)
    · exact (h.cell (by simp; omega)).trans (by simp)
    · exact (h.cell (by simp)).trans (by simp)
    · exact (h.cell (by simp)).trans (by simp)
  clear hB ha hb
  go_enter Tryz.func20, Tryz.ntmps20
  go_wp2_with (first | (go_at_call 35; refine cR.mono ?_; rintro e W1 ⟨rfl, hB1⟩; obtain ⟨k0, k1, k2, k3, k4⟩ := HK.out W1 hB1; have HB1 := Lib.hid k0; clear hB1 k0))
  go_ret
  exact ⟨rfl, HB1.out⟩
theorem strT : Tryz.prog.underlying 64 = some (.struct (Tryz.prog.fieldsOf 64)) := by kernel_rfl
theorem hpT : Tryz.prog.stoodInHeld 64 = false := by kernel_rfl
theorem egT90 : Tryz.prog.eqGuardType Tryz.prog.depth 64 = false := by kernel_rfl
theorem eqT_any (t : Te) (w : World) : (Op.equalIn 10000 64 t.one t.one).run Tryz.prog w = .ok true w := by
  have u3 := Tryz.underlying3
  have a3 := Tryz.isAgg3
  have z3 := Tryz.sizeOf3
  have u9 := Tryz.underlying9
  have a9 := Tryz.isAgg9
  have z9 := Tryz.sizeOf9
  obtain ⟨bd, fr, tt⟩ := t
  rw [show (10000 : Nat) = 9999 + 1 from rfl, run_equalIn_agg w 9999 64 _ _ strT hpT]
  simp only [Program.fieldsOf, Tryz.underlying64]
  go_simp
theorem neqT_any (t : Te) (w : World) : (binOp .neq 64 t.one t.one).run Tryz.prog w = .ok (.bool false) w := by
  rw [run_neq_struct, eqT_any]; rfl
theorem egTT (op : BinOp) (x y : Operand) (p q : Te) (w : World) : (eqGuard op 64 x y p.one q.one).run Tryz.prog w = .ok () w := run_eqGuard_agg w op 64 x y _ _ egT90
set_option maxHeartbeats 4000000 in
set_option maxRecDepth 100000 in
theorem graph_same {vn vt un ut : Value} {N M : List Nd} {T : List Te} {w : World} (hN : IsN w vn N) (hT : IsT w vt T) (hM : IsN w un M) (hT' : IsT w ut T) (hc : cN N = cN M) (hl : N.length ≤ 1000) (hlt : T.length ≤ 1000) (hr : ∀ n ∈ N, n.rc.length ≤ 1000) :
    Calls Tryz.prog 11 #[.agg #[vn, vt], .agg #[un, ut]] w fun e w' => e = .returned (.bool true) ∧ Below w.heap.size w w' := by
  have hll : N.length = M.length := by have := congrArg List.length hc; simpa [cN] using this
  obtain ⟨W0, hW0⟩ : ∃ W0, W0 = (w.alloc (.cells #[vn, vt] 25)).alloc (.cells #[un, ut] 25) := ⟨_, rfl⟩
  have hB0 : Below w.heap.size w W0 := by rw [hW0]; exact b_alloc (b_alloc (Below.refl _ _) _) _
  have n0 : W0.heap[w.heap.size]? = some (.cells #[vn, vt] 25 (0, 0)) := by rw [hW0]; exact (heap_alloc_old _ _ (by simp)).trans (heap_alloc_new w _)
  have n1 : W0.heap[w.heap.size + 1]? = some (.cells #[un, ut] 25 (0, 0)) := by
    have := heap_alloc_new (w.alloc (.cells #[vn, vt] 25)) (.cells #[un, ut] 25)
    rw [World.size_alloc] at this; rw [hW0]; exact this
  have HH := Lib.hid (And.intro hB0 (And.intro hN (And.intro hT (And.intro hM (And.intro hT' hc)))))
  obtain ⟨an, cn, rfl, _⟩ := hN
  obtain ⟨am, cm, rfl, _⟩ := hT
  obtain ⟨bn, en, rfl, _⟩ := hM
  obtain ⟨bm, em, rfl, _⟩ := hT'
  rw [← hll] at n1 hW0 ⊢
  have Hll := Lib.hid hll
  clear hll
  have HX : Hid (∀ W, Below W0.heap.size W0 W → (W.cell? ⟨w.heap.size, 0, none⟩ = some (.slice an N.length cn) ∧ W.cell? ⟨w.heap.size, 1, none⟩ = some (.slice am T.length cm)) ∧ W.cell? ⟨w.heap.size + 1, 0, none⟩ = some (.slice bn N.length en) ∧ W.cell? ⟨w.heap.size + 1, 1, none⟩ = some (.slice bm T.length em)) := fun W hB => by
    have y0 := (hB.block _ (Array.getElem?_eq_some_iff.1 n0).1).trans n0
    have y1 := (hB.block _ (Array.getElem?_eq_some_iff.1 n1).1).trans n1
    exact ⟨⟨cell_at y0 rfl, cell_at y0 rfl⟩, cell_at y1 rfl, cell_at y1 rfl⟩
  obtain ⟨⟨c0, c1⟩, c2, c3⟩ := HX.out W0 (Below.refl _ _)
  clear hc n0 n1 hB0
  go_enter Tryz.func11, Tryz.ntmps11
  go_upto_region 1 with fail
  rw [← hW0]
  clear hW0
  go_wp2
  go_loopw [5] (fun i wr => ∃ k : Nat, k ≤ N.length ∧ i = .int .i64 k ∧ Below W0.heap.size W0 wr) (fun i _ => N.length - (intOf i).toNat)
  case atStart => exact ⟨0, Nat.zero_le _, rfl, Below.refl _ _⟩
  case round =>
    obtain ⟨k, hk, rfl, hB⟩ := hrel
    obtain ⟨⟨e0, e1⟩, e2, e3⟩ := HX.out wr hB
    have HBr := Lib.hid hB
    by_cases hlt : k < N.length
    · obtain ⟨n, hn⟩ : ∃ n, N[k]? = some n := ⟨N[k], by simp [hlt]⟩
      obtain ⟨m, hm⟩ : ∃ m, M[k]? = some m := ⟨M[k]'(by have := Hll.out; omega), by simp⟩
      have hcm : n.c = m.c := by
        have h1 : (cN N)[k]? = some n.c := by unfold cN; rw [List.getElem?_map, hn]; rfl
        have h2 : (cN M)[k]? = some m.c := by unfold cN; rw [List.getElem?_map, hm]; rfl
        rw [HH.out.2.2.2.2.2, h2] at h1
        exact (Option.some.inj h1).symm
      have hBw := on1K HH.out.1 hB (Nat.le_refl _)
      have gt : ∀ {v : Value} {X : List Nd} {ao : Option Addr} {cp : Nat} {x : Nd}, IsN w v X → v = .slice ao N.length cp → X[k]? = some x → ∃ b off, ao = some ⟨b, off, none⟩ ∧ (wr.cell? ⟨b, off + k * 3, none⟩ = some (.int .i64 x.id) ∧ wr.cell? ⟨b, off + k * 3 + 1, none⟩ = some (.string x.kd) ∧ wr.cell? ⟨b, off + k * 3 + 2, none⟩ = some x.rv) ∧ IsR wr x.rv x.rc := fun {v X ao cp x} h hv hx => by
        obtain ⟨a', c', e, hle, h0 | ⟨b, off, e2, hb, hL⟩⟩ := h
        · rw [h0] at hx; simp at hx
        · rw [hv] at e
          injection e with e _ _
          obtain ⟨q0, q1, q2, q3⟩ := hL k x hx
          exact ⟨b, off, e.trans e2, ⟨(hBw.cell hb).trans q0, (hBw.cell hb).trans q1, (hBw.cell hb).trans q2⟩, q3.on hBw⟩
      obtain ⟨b, off, rfl, ⟨d0, d1, d2⟩, hR1⟩ := gt HH.out.2.1 rfl hn
      obtain ⟨b', off', rfl, ⟨g0, g1, g2⟩, hR2⟩ := gt HH.out.2.2.2.1 (by rw [Hll.out]) hm
      have hrl := hr n (List.mem_of_getElem? hn)
      obtain ⟨id, kd, rv, rc⟩ := n
      obtain ⟨id', kd', rv', rc'⟩ := m
      simp only [Nd.c, Nd.mk.injEq, true_and] at hcm
      obtain ⟨rfl, rfl, rfl⟩ := hcm
      simp only at d0 d1 d2 g0 g1 g2 hR1 hR2 hrl
      have cs := snode_same (id := id) (kd := kd) (hR1.on (b_drew (Below.refl _ wr))) (hR2.on (b_drew (Below.refl _ wr))) hrl
      obtain ⟨x1, x2, x3, rfl⟩ := hR1.sl
      obtain ⟨y1, y2, y3, rfl⟩ := hR2.sl
      have HCc : Hid (∀ W1, Below wr.heap.size wr W1 → (W1.cell? ⟨w.heap.size, 0, none⟩ = some (.slice (some ⟨b, off, none⟩) N.length cn) ∧ W1.cell? ⟨w.heap.size + 1, 0, none⟩ = some (.slice (some ⟨b', off', none⟩) N.length en)) ∧ (W1.cell? ⟨b, off + k * 3, none⟩ = some (.int .i64 id) ∧ W1.cell? ⟨b, off + k * 3 + 1, none⟩ = some (.string kd) ∧ W1.cell? ⟨b, off + k * 3 + 2, none⟩ = some (.slice x1 x2 x3)) ∧ W1.cell? ⟨b', off' + k * 3, none⟩ = some (.int .i64 id) ∧ W1.cell? ⟨b', off' + k * 3 + 1, none⟩ = some (.string kd) ∧ W1.cell? ⟨b', off' + k * 3 + 2, none⟩ = some (.slice y1 y2 y3)) := fun W1 h => ⟨⟨(h.cell (cell_lt e0)).trans e0, (h.cell (cell_lt e2)).trans e2⟩, ⟨(h.cell (cell_lt d0)).trans d0, (h.cell (cell_lt d1)).trans d1, (h.cell (cell_lt d2)).trans d2⟩, (h.cell (cell_lt g0)).trans g0, (h.cell (cell_lt g1)).trans g1, (h.cell (cell_lt g2)).trans g2⟩
      have hki : (k : Int) < (N.length : Int) := by omega
      have hk0 : (0 : Int) ≤ (k : Int) := by omega
      clear hB gt hn hm hBw hR1 hR2 c0 c1 c2 c3
      go_upto_region 6 with fail
      first | (go_region_held (fun w' => (w'.cell? ⟨w.heap.size, 0, none⟩ = some (.slice (some ⟨b, off, none⟩) N.length cn) ∧ w'.cell? ⟨w.heap.size + 1, 0, none⟩ = some (.slice (some ⟨b', off', none⟩) N.length en)) ∧ (w'.cell? ⟨b, off + k * 3, none⟩ = some (.int .i64 id) ∧ w'.cell? ⟨b, off + k * 3 + 1, none⟩ = some (.string kd) ∧ w'.cell? ⟨b, off + k * 3 + 2, none⟩ = some (.slice x1 x2 x3)) ∧ w'.cell? ⟨b', off' + k * 3, none⟩ = some (.int .i64 id) ∧ w'.cell? ⟨b', off' + k * 3 + 1, none⟩ = some (.string kd) ∧ w'.cell? ⟨b', off' + k * 3 + 2, none⟩ = some (.slice y1 y2 y3)) (go_keep) (first | (go_at_call 20; refine cs.mono ?_; rintro e W1 ⟨rfl, hB1'⟩; have hB1 := b_undrew hB1'; obtain ⟨⟨v0, v1⟩, ⟨v2, v3, v4⟩, v5, v6, v7⟩ := HCc.out W1 hB1; clear hB1'))) | fail
      all_goals
        go_wp2
        refine ⟨⟨k + 1, hlt, ?_, on1K HBr.out hB1 (Nat.le_refl _)⟩, ?_⟩
        · go_num
        · simp [intOf]
          omega
    · clear hB c0 c1 c2 c3
      go_wp2
      go_loopw [7] (fun i wx => ∃ k q : Nat, k ≤ T.length ∧ i = .int .i64 k ∧ wx = wr.drewN q) (fun i _ => T.length - (intOf i).toNat)
      case atStart => exact ⟨0, 0, Nat.zero_le _, rfl, rfl⟩
      case round =>
        rename World => wx
        obtain ⟨j, q, hj, rfl, rfl⟩ := hrel
        have hBq : Below W0.heap.size W0 (wr.drewN q) := b_drewK HBr.out _
        obtain ⟨⟨k0, k1⟩, k2, k3⟩ := HX.out (wr.drewN q) hBq
        by_cases hjt : j < T.length
        · obtain ⟨x, hx⟩ : ∃ x, T[j]? = some x := ⟨T[j], by simp [hjt]⟩
          have hBw := on1K HH.out.1 hBq (Nat.le_refl _)
          have gt : ∀ {v : Value} {ao : Option Addr} {cp : Nat}, IsT w v T → v = .slice ao T.length cp → ∃ b off, ao = some ⟨b, off, none⟩ ∧ ((wr.drewN q).cell? ⟨b, off + j * 3, none⟩ = some (.string x.bd) ∧ (wr.drewN q).cell? ⟨b, off + j * 3 + 1, none⟩ = some (.int .i64 x.fr) ∧ (wr.drewN q).cell? ⟨b, off + j * 3 + 2, none⟩ = some (.int .i64 x.tt)) := fun {v ao cp} h hv => by
            obtain ⟨a', c', e, hle, h0 | ⟨b, off, e2, hb, hL⟩⟩ := h
            · rw [h0] at hx; simp at hx
            · rw [hv] at e
              injection e with e _ _
              obtain ⟨q0, q1, q2⟩ := hL j x hx
              exact ⟨b, off, e.trans e2, ⟨(hBw.cell hb).trans q0, (hBw.cell hb).trans q1, (hBw.cell hb).trans q2⟩⟩
          obtain ⟨b, off, rfl, ⟨d0, d1, d2⟩⟩ := gt HH.out.2.2.1 rfl
          obtain ⟨b', off', rfl, ⟨g0, g1, g2⟩⟩ := gt HH.out.2.2.2.2.1 rfl
          have hne := neqT_any x
          have hgd := fun op a b => egTT op a b x x
          obtain ⟨bd, fr, tt⟩ := x
          simp only at d0 d1 d2 g0 g1 g2 hne hgd
          clear gt hx hBw hBq e0 e1 e2 e3
          generalize hW : wr.drewN q = W at *
          go_wp2_with fail
          go_quiet (fail)
          go_wp2
          refine ⟨⟨j + 1, q + nq, hjt, ?_, by rw [← hW, World.drewN_drewN]⟩, ?_⟩
          · go_num
          · simp [intOf]
            omega
        · go_wp2
          go_ret
          exact ⟨rfl, on1K HH.out.1 (b_drewK HBr.out _) (Nat.le_refl _)⟩
end Go.Proofs.YtpmblbhemcippaaGreatDoor

/-
  (*Move).Graph and (*Move).Step.
-/
namespace Go.Proofs.YtpmblbhemcippaaGreatDoor
open Go.RowKit
set_option linter.unusedVariables false
set_option linter.unusedSimpArgs false

section
variable {w1 w : World} {p : Nat} {c : Ch} {K : List Nm} {L : List Kd} {B : List Bd} {N : List Nd} {T : List Te} {M : List Nd} {k : Nat} {uk ub ks fn vn vt vm : Value}
set_option maxHeartbeats 4000000 in
set_option maxRecDepth 100000 in
theorem mgraph_any (h : Mv w1 w p c K L B N T M k uk ub ks fn vn vt vm) (hl : N.length ≤ 60) (ht : T.length ≤ 120) (hr : ∀ n ∈ M, n.rc.length ≤ 1000) :
    Calls Tryz.prog 41 #[.pointer (some ⟨p, 0, none⟩)] w fun e w' => ∃ un ut X, e = .returned (.agg #[un, ut]) ∧ cN X = cN M ∧ OwnNs w' w.heap.size un X ∧ OwnTs w' w.heap.size ut T ∧ Below w.heap.size w w' := by
  obtain ⟨W0, hW0⟩ : ∃ W0, W0 = w.alloc (.cells #[.slice none 0 0, .slice none 0 0] 25) := ⟨_, rfl⟩
  have hB0 : Below w.heap.size w W0 := by rw [hW0]; exact b_alloc (Below.refl _ _) _
  have n0 : W0.heap[w.heap.size]? = some (.cells #[.slice none 0 0, .slice none 0 0] 25 (0, 0)) := by rw [hW0]; exact heap_alloc_new w _
  have h0 := h.on hB0
  have cc := copied_any (h0.isN.on (b_drew (Below.refl _ W0))) ((h0.hTt.on h0.hB).on (b_drew (Below.refl _ W0))) (by rw [h.hlen]; exact hl) ht hr
  obtain ⟨_, _, _, _, ⟨t1, t2, t3, rfl⟩, ⟨a, c', rfl⟩, _⟩ := h.sl
  have c6 : W0.cell? ⟨p, 6, none⟩ = some (.slice t1 t2 t3) := cell_at h0.hp rfl
  have c7 : W0.cell? ⟨p, 7, none⟩ = some (.slice a N.length c') := cell_at h0.hp rfl
  have hnp : ¬ w.heap.size = p := by have := (Array.getElem?_eq_some_iff.1 h.hp).1; omega
  have hpw : p < W0.heap.size := (Array.getElem?_eq_some_iff.1 h0.hp).1
  have HC : Hid (∀ W1, Below W0.heap.size W0 W1 → (W1.cell? ⟨p, 6, none⟩ = some (.slice t1 t2 t3) ∧ W1.cell? ⟨p, 7, none⟩ = some (.slice a N.length c')) ∧ W1.heap[w.heap.size]? = some (.cells #[.slice none 0 0, .slice none 0 0] 25 (0, 0))) := fun W1 hB => ⟨⟨(hB.cell hpw).trans c6, (hB.cell hpw).trans c7⟩, (hB.block _ (Array.getElem?_eq_some_iff.1 n0).1).trans n0⟩
  have HB := Lib.hid hB0
  clear h h0 hB0 n0
  go_enter Tryz.func41, Tryz.ntmps41
  go_upto_region 1 with fail
  rw [← hW0]
  clear hW0
  go_region_held (fun w' => w'.cell? ⟨p, 6, none⟩ = some (.slice t1 t2 t3) ∧ w'.cell? ⟨p, 7, none⟩ = some (.slice a N.length c')) (go_keep) (first | (go_at_call 23; refine cc.mono ?_; rintro e W1 ⟨un, ut, X, rfl, hX, hO, hOt, hB1'⟩; have hB1 := b_undrew hB1'; obtain ⟨⟨x6, x7⟩, x0⟩ := HC.out W1 hB1; obtain ⟨a1, l1, rfl⟩ := own_slice hO.1; obtain ⟨a2, l2, rfl⟩ := own_slice hOt; have y0 : W1.cell? ⟨w.heap.size, 0, none⟩ = some (.slice none 0 0) := cell_at x0 rfl; have y1 : W1.cell? ⟨w.heap.size, 1, none⟩ = some (.slice none 0 0) := cell_at x0 rfl; have f0 : W1.frozen? ⟨w.heap.size, 0, none⟩ = false := frz_at x0; have f1 : W1.frozen? ⟨w.heap.size, 1, none⟩ = false := frz_at x0; have HX := Lib.hid (And.intro hX (And.intro hO (And.intro hOt (And.intro hB1 x0)))); clear hX hO hOt hB1 hB1' x0))
  all_goals
    go_wp2
    obtain ⟨hX, hO, hOt, hB1, x0⟩ := HX.out
    have t1 : ((W1.setCell ⟨w.heap.size, 0, none⟩ (.slice a1 X.length l1)).setCell ⟨w.heap.size, 1, none⟩ (.slice a2 T.length l2)).heap[w.heap.size]? = some (.cells #[.slice a1 X.length l1, .slice a2 T.length l2] 25 (0, 0)) := heap_setCell_same _ _ 1 _ 25 _ (heap_setCell_same W1 _ 0 _ 25 _ x0)
    have t2 := cell_at (i := 0) t1 rfl
    have t3 := cell_at (i := 1) t1 rfl
    have kk : ∀ t : TypeId, (25 : TypeId) ≠ t → Kt t W1 ((W1.setCell ⟨w.heap.size, 0, none⟩ (.slice a1 X.length l1)).setCell ⟨w.heap.size, 1, none⟩ (.slice a2 T.length l2)) := fun t hne => ((Kt.refl _ _).ty ⟨_, x0⟩ hne _ _).ty (Ty.set ⟨_, x0⟩ _ _ _) hne _ _
    refine bodyPost_ret (v := .agg #[.slice a1 X.length l1, .slice a2 T.length l2]) ?_ rfl ⟨_, _, X, rfl, hX, ?_, ?_, ?_⟩
    · simp [results, Tryz.results41, go_sem, t2, t3]
    · exact ⟨own_base (own_kt hO.1 (kk _ (by decide))) HB.out.size, fun n hn => own_base ((hO.2 n hn).kt (kk _ (by decide))) HB.out.size⟩
    · exact own_base (hOt.kt (kk _ (by decide))) HB.out.size
    · exact ((on1K HB.out hB1 (Nat.le_refl _)).setCell (Nat.le_refl _) _).setCell (Nat.le_refl _) _
end
end Go.Proofs.YtpmblbhemcippaaGreatDoor

/-
  (*Move).Step: the mathematics.
-/
namespace Go.Proofs.YtpmblbhemcippaaGreatDoor
open Go.RowKit
set_option linter.unusedVariables false
set_option linter.unusedSimpArgs false

def stE (c : Ch) (K : List Nm) (N : List Nd) (k : Nat) (n : Int) : Int := if n < 1 ∨ 60 < n then 1 else if k = N.length then 6 else allX c K ((N.drop k).take n.toNat)
def stK (N : List Nd) (k : Nat) (n : Int) : Nat := k + min n.toNat (N.length - k)
theorem setRow_kt {w : World} {g : Nat} {cur r : Array Value} {t t' : TypeId} (h : w.heap[g]? = some (.cells cur t' (0, 0))) (hne : t' ≠ t) : Kt t w (w.setRow g r) := Kt.of_grown h hne (setRow_grown w g r)
section
variable {w1 w : World} {p : Nat} {c : Ch} {K : List Nm} {L : List Kd} {B : List Bd} {N : List Nd} {T : List Te} {M : List Nd} {k : Nat} {uk ub ks fn vn vt vm : Value}
theorem mv_copy (h : Mv w1 w p c K L B N T M k uk ub ks fn vn vt vm) {W2 : World} (hB : Below w.heap.size w W2) {g cap m : Nat} (hvm : vm = .slice (some ⟨g, 0, none⟩) N.length cap) {X : List Nd} (hX : cN X = ((N.drop k).take m).map (ndT c K)) (hkm : k + m ≤ N.length) (hO : ∀ n ∈ X, OwnRc W2 w.heap.size n.rv n.rc) (hz : allX c K ((N.drop k).take m) = 0) :
    ∃ cur : Array Value, W2.heap[g]? = some (.cells cur 57 (0, 0)) ∧ k * 3 + (cellsN X).length ≤ cur.size ∧ X.length = m ∧ ∀ W3, W3 = W2.setRow g (lay cur.toList (k * 3) (cellsN X)).toArray → (W3.cell? ⟨p, 8, none⟩ = some (.int .i64 k) ∧ W3.frozen? ⟨p, 8, none⟩ = false) ∧ ∀ W4, W4 = W3.setCell ⟨p, 8, none⟩ (.int .i64 ((k : Int) + m)) → Mv w1 W4 p c K L B N T (M.take k ++ X ++ M.drop (k + m)) (k + m) uk ub ks fn vn vt vm ∧ Below w1.heap.size w W4 ∧ (∀ t : TypeId, (57 : TypeId) ≠ t → (88 : TypeId) ≠ t → Kt t w W4) := by
  have hXl : X.length = m := by
    have := congrArg List.length hX
    simp [cN] at this
    omega
  have hM := h.hlen
  obtain ⟨cur, hb, hg, hcap, hcm, hcs, htk⟩ : ∃ cur : Array Value, w1.heap.size ≤ g ∧ w.heap[g]? = some (.cells cur 57 (0, 0)) ∧ N.length ≤ cap ∧ cap ≤ maxLen ∧ cur.size = cap * 3 ∧ cur.toList.take (N.length * 3) = cellsN M := by
    rcases h.hnow.2 with ⟨e, _⟩ | ⟨g', cap', cur, e, h1, h2, h3, h4, h5, h6⟩
    · rw [hvm] at e; cases e
    · rw [hvm] at e
      injection e with e1 _ e3
      injection e1 with e1; injection e1 with e1
      subst e1; subst e3
      exact ⟨cur, h1, h2, h3, h4, h5, h6⟩
  have hg2 := (hB.block g (Array.getElem?_eq_some_iff.1 hg).1).trans hg
  have hp2 := (hB.block p (Array.getElem?_eq_some_iff.1 h.hp).1).trans h.hp
  have hgp : p ≠ g := fun e => by rw [e, hg2] at hp2; injection hp2 with h9; injection h9 with _ h9; exact absurd h9 (by decide)
  have hXc : (cellsN X).length = m * 3 := by rw [← hXl]; exact flatK_len nd_len X
  refine ⟨cur, hg2, by rw [hXc, hcs]; omega, hXl, fun W3 hW3 => ?_⟩
  have hp3 : W3.heap[p]? = some (.cells #[uk, ub, ks, fn, .string (drp c), vn, vt, vm, .int .i64 k] 88 (0, 0)) := by rw [hW3]; exact (setRow_other W2 g p _ hgp).trans hp2
  refine ⟨⟨cell_at hp3 rfl, frz_at hp3⟩, fun W4 hW4 => ?_⟩
  have hp4 : W4.heap[p]? = some (.cells #[uk, ub, ks, fn, .string (drp c), vn, vt, vm, .int .i64 ((k : Int) + m)] 88 (0, 0)) := by rw [hW4]; exact heap_setCell_same W3 p 8 _ 88 _ hp3
  have k24 : ∀ t : TypeId, (57 : TypeId) ≠ t → (88 : TypeId) ≠ t → Kt t W2 W4 := fun t n1 n2 => by
    rw [hW4, hW3]
    exact (setRow_kt hg2 n1).ty (by rw [← hW3]; exact ⟨_, hp3⟩) n2 _ _
  have hB4 : Below w1.heap.size w W4 := by
    rw [hW4, hW3]
    exact (below_grown (hB.mono (by have := h.hB.size; omega)) (setRow_grown W2 g _) (Nat.le_trans h.hB.size hB.size) (fun b hb' => by injection hb' with hb'; omega)).setCell h.hge _
  refine ⟨⟨?_, h.hge, h.hB.trans hB4, h.hK, h.hP, h.hb, h.hks, h.hT, h.hN, h.hTt, ?_, ?_, hkm, ?_, ?_, ?_, ?_⟩, hB4, fun t n1 n2 => (Kt.of_below hB).trans (k24 t n1 n2)⟩
  · rw [hp4]; simp
  · have hg3 : W3.heap[g]? = some (.cells (lay cur.toList (k * 3) (cellsN X)).toArray 57 (0, 0)) := by rw [hW3]; exact setRow_heap W2 g cur _ 57 _ hg2
    have hg4 : W4.heap[g]? = some (.cells (lay cur.toList (k * 3) (cellsN X)).toArray 57 (0, 0)) := by rw [hW4]; exact (heap_setCell_other W3 ⟨p, 8, none⟩ g _ (Ne.symm hgp)).trans hg3
    have hcl : cur.toList.length = cap * 3 := by simpa using hcs
    have hll : (lay cur.toList (k * 3) (cellsN X)).length = cap * 3 := by rw [lay_len (by rw [hXc, hcl]; omega), hcl]
    have hml : (cellsN M).length = N.length * 3 := by rw [← hM]; exact flatK_len nd_len M
    have hcM : cellsN (M.take k ++ X ++ M.drop (k + m)) = (cellsN M).take (k * 3) ++ cellsN X ++ (cellsN M).drop ((k + m) * 3) := by
      unfold cellsN
      rw [List.flatMap_append, List.flatMap_append, flatK_take nd_len, flatK_drop nd_len]
    rw [hvm]
    refine ⟨?_, .inr ⟨g, cap, _, rfl, hb, hg4, hcap, hcm, by simpa using hll, ?_⟩⟩
    · rw [hcM]; simp only [List.length_append, List.length_take, List.length_drop, hml, hXc]; omega
    · rw [hcM, ← htk, List.take_take, Nat.min_eq_left (by omega)]
      show ((lay cur.toList (k * 3) (cellsN X)).toArray.toList).take (N.length * 3) = _
      rw [List.toList_toArray]
      unfold lay
      rw [List.take_append, List.take_of_length_le (l := cur.toList.take (k * 3) ++ cellsN X) (by simp [hXc, hcl]; omega)]
      congr 1
      rw [List.drop_take]
      simp only [List.length_append, List.length_take, hXc, hcl]
      rw [show min (k * 3) (cap * 3) = k * 3 by omega, show k * 3 + m * 3 = (k + m) * 3 by omega]
  · simp only [List.length_append, List.length_take, List.length_drop, hXl]; omega
  · intro i n hi hn
    rw [List.getElem?_append_right (by simp [hXl]; omega)] at hn
    simp only [List.length_append, List.length_take, hXl] at hn
    rw [List.getElem?_drop, show k + m + (i - (min k M.length + m)) = i by omega] at hn
    exact h.hold i n (by omega) hn
  · intro i n hi hn
    rw [List.getElem?_append_left (by simp [hXl]; omega)] at hn
    by_cases hik : i < k
    · rw [List.getElem?_append_left (by simp; omega), List.getElem?_take, if_pos hik] at hn
      exact OwnRc.kt ((h.hnew i n hik hn).kt (.of_below hB)) (k24 _ (by decide) (by decide))
    · rw [List.getElem?_append_right (by simp; omega)] at hn
      exact OwnRc.kt (own_base (hO n (List.mem_of_getElem? hn)) h.hB.size) (k24 _ (by decide) (by decide))
  · rw [List.append_assoc, List.take_append, List.take_of_length_le (l := M.take k) (by simp; omega), List.length_take, Nat.min_eq_left (by omega), show k + m - k = m by omega, List.take_append, List.take_of_length_le (l := X) (by omega), hXl, Nat.sub_self, List.take_zero, List.append_nil]
    have hc' : (M.take k).map Nd.c = (N.take k).map (ndT c K) := h.hc
    have hX' : X.map Nd.c = ((N.drop k).take m).map (ndT c K) := hX
    unfold cN
    rw [List.map_append, hc', hX', List.take_add, List.map_append]
  · rw [List.take_add, allX_app c K _ _ h.hx]
    exact hz
end
end Go.Proofs.YtpmblbhemcippaaGreatDoor

/-
  (*Move).Step.
-/
namespace Go.Proofs.YtpmblbhemcippaaGreatDoor
open Go.RowKit
set_option linter.unusedVariables false
set_option linter.unusedSimpArgs false

theorem info46s : (Tryz.prog.info? 57).map (fun i => i.size) = some 3 := by kernel_rfl
section
variable {w1 w : World} {p : Nat} {c : Ch} {K : List Nm} {L : List Kd} {B : List Bd} {N : List Nd} {T : List Te} {M : List Nd} {k : Nat} {uk ub ks fn vn vt vm : Value}
def StP (w1 w : World) (p : Nat) (c : Ch) (K : List Nm) (L : List Kd) (B : List Bd) (N : List Nd) (T : List Te) (M : List Nd) (k : Nat) (uk ub ks fn vn vt vm : Value) (n : Int) (e : Ending) (w' : World) : Prop :=
  ∃ j M', e = .returned (.tuple #[.int .i64 j, errV (stE c K N k n)]) ∧ Mv w1 w' p c K L B N T M' (if stE c K N k n = 0 then stK N k n else k) uk ub ks fn vn vt vm ∧ Below w1.heap.size w w' ∧ (∀ x ∈ M', x.rc.length ≤ 1000) ∧ ∀ t : TypeId, (57 : TypeId) ≠ t → (88 : TypeId) ≠ t → Kt t w w'
set_option maxHeartbeats 1000000 in
theorem step_range (h : Mv w1 w p c K L B N T M k uk ub ks fn vn vt vm) (hrl : ∀ x ∈ M, x.rc.length ≤ 1000) {n : Int} (hn : n < 1 ∨ 60 < n) :
    Calls Tryz.prog 26 #[.pointer (some ⟨p, 0, none⟩), .int .i64 n] w (StP w1 w p c K L B N T M k uk ub ks fn vn vt vm n) := by
  have e1 : stE c K N k n = 1 := by unfold stE; rw [if_pos hn]
  have HP : Hid (StP w1 w p c K L B N T M k uk ub ks fn vn vt vm n (.returned (.tuple #[.int .i64 0, .iface 71 (.int .i64 1)])) w) := ⟨0, M, by rw [e1]; rfl, by rw [e1]; exact h, (Below.refl _ _).mono h.hB.size, hrl, fun t _ _ => Kt.refl _ _⟩
  clear h e1
  by_cases h1 : n < 1
  · clear hn
    go_enter Tryz.func26, Tryz.ntmps26
    go_wp2
    go_ret2
    exact HP.out
  · have h2 : 60 < n := by omega
    clear hn
    go_enter Tryz.func26, Tryz.ntmps26
    go_wp2
    go_ret2
    exact HP.out
set_option maxHeartbeats 1000000 in
theorem step_none (h : Mv w1 w p c K L B N T M k uk ub ks fn vn vt vm) (hl : N.length ≤ 60) (hrl : ∀ x ∈ M, x.rc.length ≤ 1000) {n : Int} (h1 : ¬ n < 1) (h2 : ¬ 60 < n) (hk : k = N.length) :
    Calls Tryz.prog 26 #[.pointer (some ⟨p, 0, none⟩), .int .i64 n] w (StP w1 w p c K L B N T M k uk ub ks fn vn vt vm n) := by
  have e1 : stE c K N k n = 6 := by unfold stE; rw [if_neg (by omega), if_pos hk]
  have cl := left_any h (by omega)
  rw [show (N.length : Int) - k = 0 by omega] at cl
  have HP : Hid (∀ W, Below w.heap.size w W → StP w1 w p c K L B N T M k uk ub ks fn vn vt vm n (.returned (.tuple #[.int .i64 0, .iface 71 (.int .i64 6)])) W) := fun W hB => ⟨0, M, by rw [e1]; rfl, by rw [e1]; exact h.on hB, hB.mono h.hB.size, hrl, fun t _ _ => Kt.of_below hB⟩
  clear h e1 hk
  go_enter Tryz.func26, Tryz.ntmps26
  go_wp2_with (go_at_call 25; refine cl.mono ?_; rintro e W1 ⟨rfl, hB1⟩)
  go_ret2
  exact HP.out _ hB1
theorem IsN.part {v : Value} {g cap m k : Nat} {M : List Nd} {w : World} (h : w.ownsRow 0 57 3 (.slice (some ⟨g, 0, none⟩) M.length cap) M.length (cellsN M)) (hR : ∀ n ∈ M, IsR w n.rv n.rc) (hkm : k + m ≤ M.length) : IsN w (.slice (some ⟨g, k * 3, none⟩) m (cap - k)) ((M.drop k).take m) := by
  have hcap : M.length ≤ cap := by
    rcases h.2 with ⟨e, _⟩ | ⟨g', cap', cur, e, _, _, h1, _⟩
    · cases e
    · injection e with _ _ e3; subst e3; exact h1
  have hl : ((M.drop k).take m).length = m := by simp; omega
  refine ⟨_, _, by rw [hl], by rw [hl]; omega, .inr ⟨g, k * 3, rfl, (h.lt g rfl).2, fun i n hi => ?_⟩⟩
  have hi' : M[k + i]? = some n := by
    rw [List.getElem?_take] at hi
    split at hi
    · rwa [List.getElem?_drop] at hi
    · cases hi
  have ce : ∀ j u, j < 3 → n.cells[j]? = some u → w.cell? ⟨g, k * 3 + (i * 3 + j), none⟩ = some u := fun j u hj hu => by
    have := World.ownsRow.cells h rfl ((k + i) * 3 + j) u ((flatK nd_len M (k + i) n j hi' hj).trans hu)
    rw [Addr.add_lit, Nat.zero_add] at this
    rwa [show k * 3 + (i * 3 + j) = (k + i) * 3 + j by omega]
  refine ⟨ce 0 _ (by omega) rfl, ?_, ?_, hR n (List.mem_of_getElem? hi')⟩
  · exact (show k * 3 + i * 3 + 1 = k * 3 + (i * 3 + 1) by omega) ▸ ce 1 _ (by omega) rfl
  · exact (show k * 3 + i * 3 + 2 = k * 3 + (i * 3 + 2) by omega) ▸ ce 2 _ (by omega) rfl
theorem part_same {M N : List Nd} {k m : Nat} (hl : M.length = N.length) (h : ∀ i n, k ≤ i → M[i]? = some n → N[i]? = some n) : (M.drop k).take m = (N.drop k).take m := by
  have e : M.drop k = N.drop k := by
    apply List.ext_getElem?
    intro i
    rw [List.getElem?_drop, List.getElem?_drop]
    rcases hM : M[k + i]? with _ | x
    · rw [List.getElem?_eq_none_iff] at hM
      rw [List.getElem?_eq_none (by omega)]
    · exact (h (k + i) x (by omega) hM).symm
  rw [e]
end
end Go.Proofs.YtpmblbhemcippaaGreatDoor
