/-
  The walks of kinsame.Record, Node and Graph where both are the same.
-/
import Derived.Test.YteabdlandbmdaaaGreatDoorM20
import Derived.Laws.StructEq
import Derived.Deep.RegionHeld
import Derived.BigQuiet
import Derived.Test.YteabdlandbmdaaaGreatDoorM19
namespace Go.Proofs.YteabdlandbmdaaaGreatDoor
open Go.RowKit
set_option linter.unusedVariables false
set_option linter.unusedSimpArgs false

theorem strP : Tryz.prog.underlying 33 = some (.struct (Tryz.prog.fieldsOf 33)) := by kernel_rfl
theorem strV : Tryz.prog.underlying 31 = some (.struct (Tryz.prog.fieldsOf 31)) := by kernel_rfl
theorem hpP : Tryz.prog.stoodInHeld 33 = false := by kernel_rfl
theorem hpV : Tryz.prog.stoodInHeld 31 = false := by kernel_rfl
theorem egP45 : Tryz.prog.eqGuardType Tryz.prog.depth 33 = false := by kernel_rfl
theorem eqV_any (t n t' n' : Int) (s s' : ByteArray) (d : Nat) (w : World) : (Op.equalIn (d + 1 + 1) 31 (.agg #[.int .i64 t, .int .i64 n, .string s]) (.agg #[.int .i64 t', .int .i64 n', .string s'])).run Tryz.prog w = .ok ((t == t') && (n == n') && (s.toList == s'.toList)) w := by
  have u3 := Tryz.underlying3
  have a3 := Tryz.isAgg3
  have z3 := Tryz.sizeOf3
  have u9 := Tryz.underlying9
  have a9 := Tryz.isAgg9
  have z9 := Tryz.sizeOf9
  rw [run_equalIn_agg w (d + 1) 31 _ _ strV hpV]
  simp only [Program.fieldsOf, Tryz.underlying31]
  go_simp
  by_cases h1 : t = t' <;> by_cases h2 : n = n' <;> by_cases h3 : s.toList = s'.toList <;> simp [h1, h2, h3]
def Pr.eq (p q : Pr) : Bool := (p.nm.toList == q.nm.toList) && ((p.t == q.t) && (p.n == q.n) && (p.s.toList == q.s.toList))
theorem eqP_any (p q : Pr) (w : World) : (Op.equalIn 10000 33 p.one q.one).run Tryz.prog w = .ok (p.eq q) w := by
  have u9 := Tryz.underlying9
  have a9 := Tryz.isAgg9
  have z9 := Tryz.sizeOf9
  have a56 := Tryz.isAgg31
  have z56 := Tryz.sizeOf31
  have hV : ∀ w, (Op.equalIn 9999 31 (.agg #[.int .i64 p.t, .int .i64 p.n, .string p.s]) (.agg #[.int .i64 q.t, .int .i64 q.n, .string q.s])).run Tryz.prog w = .ok ((p.t == q.t) && (p.n == q.n) && (p.s.toList == q.s.toList)) w := fun w => eqV_any p.t p.n q.t q.n p.s q.s 9997 w
  rw [show (10000 : Nat) = 9999 + 1 from rfl, run_equalIn_agg w 9999 33 _ _ strP hpP]
  unfold Pr.eq
  generalize ((p.t == q.t) && (p.n == q.n) && (p.s.toList == q.s.toList)) = b at *
  simp only [Program.fieldsOf, Tryz.underlying33]
  go_simp
  by_cases h1 : p.nm.toList = q.nm.toList <;> cases b <;> simp [h1]
theorem pr_eq_self (p : Pr) : p.eq p = true := by simp [Pr.eq]
theorem neqP_any (p q : Pr) (w : World) : (binOp .neq 33 p.one q.one).run Tryz.prog w = .ok (.bool (!p.eq q)) w := by
  rw [run_neq_struct, eqP_any]; rfl
theorem egPP (op : BinOp) (x y : Operand) (p q : Pr) (w : World) : (eqGuard op 33 x y p.one q.one).run Tryz.prog w = .ok () w := run_eqGuard_agg w op 33 x y _ _ egP45

set_option maxHeartbeats 1000000 in
set_option maxRecDepth 100000 in
theorem srec_same {va vb : Value} {L : List Pr} {w : World} (ha : IsR w va L) (hb : IsR w vb L) (hl : L.length ≤ 1000) :
    Calls Tryz.prog 32 #[va, vb] w fun e w' => e = .returned (.bool true) ∧ Below w.heap.size w w' := by
  obtain ⟨ao, ca, rfl, h1⟩ := ha
  obtain ⟨bo, cb, rfl, h2⟩ := hb
  go_enter Tryz.func32, Tryz.ntmps32
  go_wp2
  go_loopw [5] (fun i wr => ∃ k q : Nat, k ≤ L.length ∧ i = .int .i64 k ∧ wr = w.drewN q) (fun i _ => L.length - (intOf i).toNat)
  case atStart => exact ⟨0, 0, Nat.zero_le _, rfl, rfl⟩
  case round =>
    obtain ⟨k, q, hk, rfl, rfl⟩ := hrel
    by_cases hlt : k < L.length
    · obtain ⟨x, hx⟩ : ∃ x, L[k]? = some x := ⟨L[k], by simp [hlt]⟩
      rcases h1 with rfl | ⟨b1, o1, rfl, hb1, l1⟩
      · exact absurd hlt (by simp)
      rcases h2 with rfl | ⟨b2, o2, rfl, hb2, l2⟩
      · exact absurd hlt (by simp)
      obtain ⟨c0, c1, c2, c3⟩ := l1 k x hx
      obtain ⟨d0, d1, d2, d3⟩ := l2 k x hx
      have hne := neqP_any x x
      rw [pr_eq_self] at hne
      have hgd := fun op a b => egPP op a b x x
      obtain ⟨nm, t, n, s⟩ := x
      simp only at c0 c1 c2 c3 d0 d1 d2 d3 hne hgd
      clear l1 l2 hx
      generalize hW : w.drewN q = W at *
      have e0 : W.cell? ⟨b1, o1 + k * 4, none⟩ = some (.string nm) := by rw [← hW]; exact c0
      have e1 : W.cell? ⟨b1, o1 + k * 4 + 1, none⟩ = some (.int .i64 t) := by rw [← hW]; exact c1
      have e2 : W.cell? ⟨b1, o1 + k * 4 + 2, none⟩ = some (.int .i64 n) := by rw [← hW]; exact c2
      have e3 : W.cell? ⟨b1, o1 + k * 4 + 3, none⟩ = some (.string s) := by rw [← hW]; exact c3
      have f0 : W.cell? ⟨b2, o2 + k * 4, none⟩ = some (.string nm) := by rw [← hW]; exact d0
      have f1 : W.cell? ⟨b2, o2 + k * 4 + 1, none⟩ = some (.int .i64 t) := by rw [← hW]; exact d1
      have f2 : W.cell? ⟨b2, o2 + k * 4 + 2, none⟩ = some (.int .i64 n) := by rw [← hW]; exact d2
      have f3 : W.cell? ⟨b2, o2 + k * 4 + 3, none⟩ = some (.string s) := by rw [← hW]; exact d3
      clear c0 c1 c2 c3 d0 d1 d2 d3
      go_wp2_with fail
      go_quiet (fail)
      go_wp2
      refine ⟨⟨k + 1, q + nq, hlt, ?_, by rw [← hW, World.drewN_drewN]⟩, ?_⟩
      · go_num
      · simp [intOf]
        omega
    · go_wp2
      go_ret
      exact ⟨rfl, b_drewK (Below.refl _ _) _⟩

set_option maxHeartbeats 1000000 in
set_option maxRecDepth 100000 in
theorem snode_same {id : Int} {kd : ByteArray} {va vb : Value} {L : List Pr} {w : World} (ha : IsR w va L) (hb : IsR w vb L) (hl : L.length ≤ 1000) :
    Calls Tryz.prog 16 #[.agg #[.int .i64 id, .string kd, va], .agg #[.int .i64 id, .string kd, vb]] w fun e w' => e = .returned (.bool true) ∧ Below w.heap.size w w' := by
  have ha' := ha
  have hb' := hb
  obtain ⟨ao, ca, rfl, h1⟩ := ha'
  obtain ⟨bo, cb, rfl, h2⟩ := hb'
  clear h1 h2
  have hB : Below w.heap.size w ((w.alloc (.cells #[.int .i64 id, .string kd, .slice ao L.length ca] 37)).alloc (.cells #[.int .i64 id, .string kd, .slice bo L.length cb] 37)) := b_alloc (b_alloc (Below.refl _ _) _) _
  have cR := srec_same (ha.on hB) (hb.on hB) hl
  have HK : Hid (∀ W, Below ((w.alloc (.cells #[.int .i64 id, .string kd, .slice ao L.length ca] 37)).alloc (.cells #[.int .i64 id, .string kd, .slice bo L.length cb] 37)).heap.size ((w.alloc (.cells #[.int .i64 id, .string kd, .slice ao L.length ca] 37)).alloc (.cells #[.int .i64 id, .string kd, .slice bo L.length cb] 37)) W → Below w.heap.size w W ∧ W.cell? ⟨w.heap.size, 0, none⟩ = some (.int .i64 id) ∧ W.cell? ⟨w.heap.size, 1, none⟩ = some (.string kd) ∧ W.cell? ⟨w.heap.size + 1, 0, none⟩ = some (.int .i64 id) ∧ W.cell? ⟨w.heap.size + 1, 1, none⟩ = some (.string kd)) := fun W h => by
    refine ⟨on1 hB h, ?_, ?_, ?_, ?_⟩
    · exact (h.cell (by simp; omega)).trans (by simp)
    · exact (h.cell (by simp; omega)).trans (by simp)
    · exact (h.cell (by simp)).trans (by simp)
    · exact (h.cell (by simp)).trans (by simp)
  clear hB ha hb
  go_enter Tryz.func16, Tryz.ntmps16
  go_wp2_with (first | (go_at_call 32; refine cR.mono ?_; rintro e W1 ⟨rfl, hB1⟩; obtain ⟨k0, k1, k2, k3, k4⟩ := HK.out W1 hB1; have HB1 := Lib.hid k0; clear hB1 k0))
  go_ret
  exact ⟨rfl, HB1.out⟩
theorem strT : Tryz.prog.underlying 61 = some (.struct (Tryz.prog.fieldsOf 61)) := by kernel_rfl
theorem hpT : Tryz.prog.stoodInHeld 61 = false := by kernel_rfl
theorem egT90 : Tryz.prog.eqGuardType Tryz.prog.depth 61 = false := by kernel_rfl
theorem eqT_any (t : Te) (w : World) : (Op.equalIn 10000 61 t.one t.one).run Tryz.prog w = .ok true w := by
  have u3 := Tryz.underlying3
  have a3 := Tryz.isAgg3
  have z3 := Tryz.sizeOf3
  have u9 := Tryz.underlying9
  have a9 := Tryz.isAgg9
  have z9 := Tryz.sizeOf9
  obtain ⟨bd, fr, tt⟩ := t
  rw [show (10000 : Nat) = 9999 + 1 from rfl, run_equalIn_agg w 9999 61 _ _ strT hpT]
  simp only [Program.fieldsOf, Tryz.underlying61]
  go_simp
theorem neqT_any (t : Te) (w : World) : (binOp .neq 61 t.one t.one).run Tryz.prog w = .ok (.bool false) w := by
  rw [run_neq_struct, eqT_any]; rfl
theorem egTT (op : BinOp) (x y : Operand) (p q : Te) (w : World) : (eqGuard op 61 x y p.one q.one).run Tryz.prog w = .ok () w := run_eqGuard_agg w op 61 x y _ _ egT90
set_option maxHeartbeats 4000000 in
set_option maxRecDepth 100000 in
theorem graph_same {vn vt un ut : Value} {N M : List Nd} {T : List Te} {w : World} (hN : IsN w vn N) (hT : IsT w vt T) (hM : IsN w un M) (hT' : IsT w ut T) (hc : cN N = cN M) (hl : N.length ≤ 1000) (hlt : T.length ≤ 1000) (hr : ∀ n ∈ N, n.rc.length ≤ 1000) :
    Calls Tryz.prog 6 #[.agg #[vn, vt], .agg #[un, ut]] w fun e w' => e = .returned (.bool true) ∧ Below w.heap.size w w' := by
  have hll : N.length = M.length := by have := congrArg List.length hc; simpa [cN] using this
  obtain ⟨W0, hW0⟩ : ∃ W0, W0 = (w.alloc (.cells #[vn, vt] 25)).alloc (.cells #[un, ut] 25) := ⟨_, rfl⟩
  have hB0 : Below w.heap.size w W0 := by rw [hW0]; exact b_alloc (b_alloc (Below.refl _ _) _) _
  have n0 : W0.heap[w.heap.size]? = some (.cells #[vn, vt] 25 (0, 0)) := by rw [hW0]; exact (heap_alloc_old _ _ (by simp)).trans (heap_alloc_new w _)
  have n1 : W0.heap[w.heap.size + 1]? = some (.cells #[un, ut] 25 (0, 0)) := by
    have := heap_alloc_new (w.alloc (.cells #[vn, vt] 25)) (.cells #[un, ut] 25)
    rw [World.size_alloc] at this; rw [hW0]; exact this
  have HH := Lib.hid (And.intro hB0 (And.intro hN (And.intro hT (And.intro hM (And.intro hT' hc)))))
  obtain ⟨an, cn, rfl, _⟩ := hN
  obtain ⟨am, cm, rfl, _⟩ := hT
  obtain ⟨bn, en, rfl, _⟩ := hM
  obtain ⟨bm, em, rfl, _⟩ := hT'
  rw [← hll] at n1 hW0 ⊢
  have Hll := Lib.hid hll
  clear hll
  have HX : Hid (∀ W, Below W0.heap.size W0 W → (W.cell? ⟨w.heap.size, 0, none⟩ = some (.slice an N.length cn) ∧ W.cell? ⟨w.heap.size, 1, none⟩ = some (.slice am T.length cm)) ∧ W.cell? ⟨w.heap.size + 1, 0, none⟩ = some (.slice bn N.length en) ∧ W.cell? ⟨w.heap.size + 1, 1, none⟩ = some (.slice bm T.length em)) := fun W hB => by
    have y0 := (hB.block _ (Array.getElem?_eq_some_iff.1 n0).1).trans n0
    have y1 := (hB.block _ (Array.getElem?_eq_some_iff.1 n1).1).trans n1
    exact ⟨⟨cell_at y0 rfl, cell_at y0 rfl⟩, cell_at y1 rfl, cell_at y1 rfl⟩
  obtain ⟨⟨c0, c1⟩, c2, c3⟩ := HX.out W0 (Below.refl _ _)
  clear hc n0 n1 hB0
  go_enter Tryz.func6, Tryz.ntmps6
  go_upto_region 1 with fail
  rw [← hW0]
  clear hW0
  go_wp2
  go_loopw [5] (fun i wr => ∃ k : Nat, k ≤ N.length ∧ i = .int .i64 k ∧ Below W0.heap.size W0 wr) (fun i _ => N.length - (intOf i).toNat)
  case atStart => exact ⟨0, Nat.zero_le _, rfl, Below.refl _ _⟩
  case round =>
    obtain ⟨k, hk, rfl, hB⟩ := hrel
    obtain ⟨⟨e0, e1⟩, e2, e3⟩ := HX.out wr hB
    have HBr := Lib.hid hB
    by_cases hlt : k < N.length
    · obtain ⟨n, hn⟩ : ∃ n, N[k]? = some n := ⟨N[k], by simp [hlt]⟩
      obtain ⟨m, hm⟩ : ∃ m, M[k]? = some m := ⟨M[k]'(by have := Hll.out; omega), by simp⟩
      have hcm : n.c = m.c := by
        have h1 : (cN N)[k]? = some n.c := by unfold cN; rw [List.getElem?_map, hn]; rfl
        have h2 : (cN M)[k]? = some m.c := by unfold cN; rw [List.getElem?_map, hm]; rfl
        rw [HH.out.2.2.2.2.2, h2] at h1
        exact (Option.some.inj h1).symm
      have hBw := on1K HH.out.1 hB (Nat.le_refl _)
      have gt : ∀ {v : Value} {X : List Nd} {ao : Option Addr} {cp : Nat} {x : Nd}, IsN w v X → v = .slice ao N.length cp → X[k]? = some x → ∃ b off, ao = some ⟨b, off, none⟩ ∧ (wr.cell? ⟨b, off + k * 3, none⟩ = some (.int .i64 x.id) ∧ wr.cell? ⟨b, off + k * 3 + 1, none⟩ = some (.string x.kd) ∧ wr.cell? ⟨b, off + k * 3 + 2, none⟩ = some x.rv) ∧ IsR wr x.rv x.rc := fun {v X ao cp x} h hv hx => by
        obtain ⟨a', c', e, hle, h0 | ⟨b, off, e2, hb, hL⟩⟩ := h
        · rw [h0] at hx; simp at hx
        · rw [hv] at e
          injection e with e _ _
          obtain ⟨q0, q1, q2, q3⟩ := hL k x hx
          exact ⟨b, off, e.trans e2, ⟨(hBw.cell hb).trans q0, (hBw.cell hb).trans q1, (hBw.cell hb).trans q2⟩, q3.on hBw⟩
      obtain ⟨b, off, rfl, ⟨d0, d1, d2⟩, hR1⟩ := gt HH.out.2.1 rfl hn
      obtain ⟨b', off', rfl, ⟨g0, g1, g2⟩, hR2⟩ := gt HH.out.2.2.2.1 (by rw [Hll.out]) hm
      have hrl := hr n (List.mem_of_getElem? hn)
      obtain ⟨id, kd, rv, rc⟩ := n
      obtain ⟨id', kd', rv', rc'⟩ := m
      simp only [Nd.c, Nd.mk.injEq, true_and] at hcm
      obtain ⟨rfl, rfl, rfl⟩ := hcm
      simp only at d0 d1 d2 g0 g1 g2 hR1 hR2 hrl
      have cs := snode_same (id := id) (kd := kd) (hR1.on (b_drew (Below.refl _ wr))) (hR2.on (b_drew (Below.refl _ wr))) hrl
      obtain ⟨x1, x2, x3, rfl⟩ := hR1.sl
      obtain ⟨y1, y2, y3, rfl⟩ := hR2.sl
      have HCc : Hid (∀ W1, Below wr.heap.size wr W1 → (W1.cell? ⟨w.heap.size, 0, none⟩ = some (.slice (some ⟨b, off, none⟩) N.length cn) ∧ W1.cell? ⟨w.heap.size + 1, 0, none⟩ = some (.slice (some ⟨b', off', none⟩) N.length en)) ∧ (W1.cell? ⟨b, off + k * 3, none⟩ = some (.int .i64 id) ∧ W1.cell? ⟨b, off + k * 3 + 1, none⟩ = some (.string kd) ∧ W1.cell? ⟨b, off + k * 3 + 2, none⟩ = some (.slice x1 x2 x3)) ∧ W1.cell? ⟨b', off' + k * 3, none⟩ = some (.int .i64 id) ∧ W1.cell? ⟨b', off' + k * 3 + 1, none⟩ = some (.string kd) ∧ W1.cell? ⟨b', off' + k * 3 + 2, none⟩ = some (.slice y1 y2 y3)) := fun W1 h => ⟨⟨(h.cell (cell_lt e0)).trans e0, (h.cell (cell_lt e2)).trans e2⟩, ⟨(h.cell (cell_lt d0)).trans d0, (h.cell (cell_lt d1)).trans d1, (h.cell (cell_lt d2)).trans d2⟩, (h.cell (cell_lt g0)).trans g0, (h.cell (cell_lt g1)).trans g1, (h.cell (cell_lt g2)).trans g2⟩
      have hki : (k : Int) < (N.length : Int) := by omega
      have hk0 : (0 : Int) ≤ (k : Int) := by omega
      clear hB gt hn hm hBw hR1 hR2 c0 c1 c2 c3
      go_upto_region 6 with fail
      first | (go_region_held (fun w' => (w'.cell? ⟨w.heap.size, 0, none⟩ = some (.slice (some ⟨b, off, none⟩) N.length cn) ∧ w'.cell? ⟨w.heap.size + 1, 0, none⟩ = some (.slice (some ⟨b', off', none⟩) N.length en)) ∧ (w'.cell? ⟨b, off + k * 3, none⟩ = some (.int .i64 id) ∧ w'.cell? ⟨b, off + k * 3 + 1, none⟩ = some (.string kd) ∧ w'.cell? ⟨b, off + k * 3 + 2, none⟩ = some (.slice x1 x2 x3)) ∧ w'.cell? ⟨b', off' + k * 3, none⟩ = some (.int .i64 id) ∧ w'.cell? ⟨b', off' + k * 3 + 1, none⟩ = some (.string kd) ∧ w'.cell? ⟨b', off' + k * 3 + 2, none⟩ = some (.slice y1 y2 y3)) (go_keep) (first | (go_at_call 16; refine cs.mono ?_; rintro e W1 ⟨rfl, hB1'⟩; have hB1 := b_undrew hB1'; obtain ⟨⟨v0, v1⟩, ⟨v2, v3, v4⟩, v5, v6, v7⟩ := HCc.out W1 hB1; clear hB1'))) | fail
      all_goals
        go_wp2
        refine ⟨⟨k + 1, hlt, ?_, on1K HBr.out hB1 (Nat.le_refl _)⟩, ?_⟩
        · go_num
        · simp [intOf]
          omega
    · clear hB c0 c1 c2 c3
      go_wp2
      go_loopw [7] (fun i wx => ∃ k q : Nat, k ≤ T.length ∧ i = .int .i64 k ∧ wx = wr.drewN q) (fun i _ => T.length - (intOf i).toNat)
      case atStart => exact ⟨0, 0, Nat.zero_le _, rfl, rfl⟩
      case round =>
        rename World => wx
        obtain ⟨j, q, hj, rfl, rfl⟩ := hrel
        have hBq : Below W0.heap.size W0 (wr.drewN q) := b_drewK HBr.out _
        obtain ⟨⟨k0, k1⟩, k2, k3⟩ := HX.out (wr.drewN q) hBq
        by_cases hjt : j < T.length
        · obtain ⟨x, hx⟩ : ∃ x, T[j]? = some x := ⟨T[j], by simp [hjt]⟩
          have hBw := on1K HH.out.1 hBq (Nat.le_refl _)
          have gt : ∀ {v : Value} {ao : Option Addr} {cp : Nat}, IsT w v T → v = .slice ao T.length cp → ∃ b off, ao = some ⟨b, off, none⟩ ∧ ((wr.drewN q).cell? ⟨b, off + j * 3, none⟩ = some (.string x.bd) ∧ (wr.drewN q).cell? ⟨b, off + j * 3 + 1, none⟩ = some (.int .i64 x.fr) ∧ (wr.drewN q).cell? ⟨b, off + j * 3 + 2, none⟩ = some (.int .i64 x.tt)) := fun {v ao cp} h hv => by
            obtain ⟨a', c', e, hle, h0 | ⟨b, off, e2, hb, hL⟩⟩ := h
            · rw [h0] at hx; simp at hx
            · rw [hv] at e
              injection e with e _ _
              obtain ⟨q0, q1, q2⟩ := hL j x hx
              exact ⟨b, off, e.trans e2, ⟨(hBw.cell hb).trans q0, (hBw.cell hb).trans q1, (hBw.cell hb).trans q2⟩⟩
          obtain ⟨b, off, rfl, ⟨d0, d1, d2⟩⟩ := gt HH.out.2.2.1 rfl
          obtain ⟨b', off', rfl, ⟨g0, g1, g2⟩⟩ := gt HH.out.2.2.2.2.1 rfl
          have hne := neqT_any x
          have hgd := fun op a b => egTT op a b x x
          obtain ⟨bd, fr, tt⟩ := x
          simp only at d0 d1 d2 g0 g1 g2 hne hgd
          clear gt hx hBw hBq e0 e1 e2 e3
          generalize hW : wr.drewN q = W at *
          go_wp2_with fail
          go_quiet (fail)
          go_wp2
          refine ⟨⟨j + 1, q + nq, hjt, ?_, by rw [← hW, World.drewN_drewN]⟩, ?_⟩
          · go_num
          · simp [intOf]
            omega
        · go_wp2
          go_ret
          exact ⟨rfl, on1K HH.out.1 (b_drewK HBr.out _) (Nat.le_refl _)⟩
end Go.Proofs.YteabdlandbmdaaaGreatDoor

/-
  What Parse gives of a text that is a graph's, and of one that is none; the law's fact.
-/
namespace Go.Proofs.YteabdlandbmdaaaGreatDoor
open Go.RowKit
set_option linter.unusedVariables false
set_option linter.unusedSimpArgs false

theorem ndE_c (o : Option Nd) (n : Nd) : ndE (o.map Nd.c) n.c = ndE o n := by
  cases o <;> rfl
theorem chkN_c : ∀ (N : List Nd) (o : Option Nd), chkN (o.map Nd.c) (cN N) = chkN o N
  | [], o => by cases o <;> rfl
  | n :: r, o => by
    show chkN (o.map Nd.c) (n.c :: cN r) = _
    have e := ndE_c o n
    have e2 := chkN_c r (some n)
    by_cases h : ndE o n = 0
    · rw [chkN_ok (e.trans h), chkN_ok h]; exact e2
    · rw [chkN_bad (by rw [e]; exact h), chkN_bad h, e]
theorem gErr_c (N : List Nd) (T : List Te) : gErr (cN N) T = gErr N T := by
  unfold gErr
  rw [show chkN none (cN N) = chkN none N from chkN_c N none, show (cN N).length = N.length from List.length_map ..]
theorem parse_calls (x : Nm) (hx : x.length ≤ 140737488355328) (w : World) (hE : EV w) : Calls Tryz.prog 4 #[.string (bs x)] w (PaPost x w) := callsIn_wide.1 (tparse_any 9 (by omega) x hx w hE)
def PaOk (x : Nm) : Prop := ∃ N T, lnF (linesL x) = some (N, T) ∧ gErr N T = 0
def YesPost (x : Nm) (w : World) (e : Ending) (w' : World) : Prop := ∃ ak nk ck ab nb cb L B, e = .returned (.tuple #[.agg #[.slice ak nk ck, .slice ab nb cb], .int .i64 0, .nilIface]) ∧ (lnF (linesL x) = some (cN L, B) ∧ gErr L B = 0 ∧ IsN w' (.slice ak nk ck) L ∧ IsT w' (.slice ab nb cb) B) ∧ Below w.heap.size w w'
theorem parse_yes {x : Nm} {w : World} (hx : x.length ≤ 140737488355328) (hE : EV w) (h : PaOk x) : Calls Tryz.prog 4 #[.string (bs x)] w (YesPost x w) := by
  refine (parse_calls x hx w hE).mono ?_
  rintro e w' ⟨ak, nk, ck, ab, nb, cb, at', z, rfl, hB, h1, h2⟩
  obtain ⟨N, T, hf, hg⟩ := h
  have hz : z = 0 := by
    refine Classical.byContradiction fun hz => ?_
    rcases h2 hz with h2 | ⟨L, B, h2, h3⟩
    · rw [h2] at hf; cases hf
    · rw [h2] at hf
      simp only [Option.some.injEq, Prod.mk.injEq] at hf
      obtain ⟨rfl, rfl⟩ := hf
      rw [gErr_c, h3] at hg
      exact hz hg
  subst hz
  obtain ⟨rfl, L, B, k1, k2, k3, k4⟩ := h1 rfl
  exact ⟨ak, nk, ck, ab, nb, cb, L, B, rfl, ⟨k1, k2, k3, k4⟩, hB⟩
theorem parse_no {x : Nm} {w : World} (hx : x.length ≤ 140737488355328) (hE : EV w) (h : ¬ PaOk x) : Calls Tryz.prog 4 #[.string (bs x)] w fun e w' => ∃ ak nk ck ab nb cb, ∃ at' z : Int, e = .returned (.tuple #[.agg #[.slice ak nk ck, .slice ab nb cb], .int .i64 at', .iface 49 (.int .i64 z)]) ∧ Below w.heap.size w w' := by
  refine (parse_calls x hx w hE).mono ?_
  rintro e w' ⟨ak, nk, ck, ab, nb, cb, at', z, rfl, hB, h1, h2⟩
  have hz : ¬ z = 0 := fun hz => by
    obtain ⟨_, L, B, k1, k2, _⟩ := h1 hz
    exact h ⟨cN L, B, k1, by rw [gErr_c]; exact k2⟩
  exact ⟨ak, nk, ck, ab, nb, cb, at', z, by rw [errV_ne hz], hB⟩
theorem parse_good {N : List Nd} {T : List Te} {w : World} (h : gErr N T = 0) (hE : EV w) : Calls Tryz.prog 4 #[.string (bs (gText N T))] w fun e w' => ∃ ak nk ck ab nb cb L, e = .returned (.tuple #[.agg #[.slice ak nk ck, .slice ab nb cb], .int .i64 0, .nilIface]) ∧ (cN L = cN N ∧ IsN w' (.slice ak nk ck) L ∧ IsT w' (.slice ab nb cb) T) ∧ Below w.heap.size w w' := by
  have hr := read_print h
  have hl := gText_le h
  refine (parse_yes (by omega) hE ⟨cN N, T, hr, by rw [gErr_c]; exact h⟩).mono ?_
  rintro e w' ⟨ak, nk, ck, ab, nb, cb, L, B, rfl, ⟨k1, k2, k3, k4⟩, hB⟩
  rw [hr] at k1
  simp only [Option.some.injEq, Prod.mk.injEq] at k1
  obtain ⟨e1, rfl⟩ := k1
  exact ⟨ak, nk, ck, ab, nb, cb, L, rfl, ⟨e1.symm, k3, k4⟩, hB⟩
def fact0 : Nm := [110, 111, 100, 101, 32, 51, 32, 97, 32, 120, 61, 49, 10, 116, 105, 101, 32, 112, 32, 51, 32, 51, 10]
def factN : List Nd := [⟨3, ⟨#[97]⟩, .nilIface, [⟨⟨#[120]⟩, 1, 1, ⟨#[]⟩⟩]⟩]
def factT : List Te := [⟨⟨#[112]⟩, 3, 3⟩]
theorem fact_err : gErr factN factT = 0 := by decide +kernel
theorem fact_text : gText factN factT = fact0 := by decide +kernel
theorem parse_fact {w : World} (hE : EV w) : Calls Tryz.prog 4 #[.string (bs fact0)] w fun e w' => ∃ bn on cn rb ro rc at' ct, e = .returned (.tuple #[.agg #[.slice (some ⟨bn, on, none⟩) 1 cn, .slice at' 1 ct], .int .i64 0, .nilIface]) ∧ (w'.cell? ⟨bn, on + 2, none⟩ = some (.slice (some ⟨rb, ro, none⟩) 1 rc) ∧ w'.cell? ⟨rb, ro + 2, none⟩ = some (.int .i64 1)) ∧ Below w.heap.size w w' := by
  have c := parse_good fact_err hE
  rw [fact_text] at c
  refine c.mono ?_
  rintro e w' ⟨ak, nk, ck, ab, nb, cb, L, rfl, ⟨hL, ⟨ao, c1, e1, _, h1⟩, ⟨ao2, c2, e2, _, h2⟩⟩, hB⟩
  have hlen : L.length = 1 := by have := congrArg List.length hL; simpa [cN, factN] using this
  obtain ⟨n, rfl⟩ : ∃ n, L = [n] := List.length_eq_one_iff.1 hlen
  injection e1 with e1 e1' e1''
  injection e2 with e2 e2' e2''
  subst e1 e1' e1'' e2 e2' e2''
  have hn : n.c = ⟨3, ⟨#[97]⟩, .nilIface, [⟨⟨#[120]⟩, 1, 1, ⟨#[]⟩⟩]⟩ := by simpa [cN, factN, Nd.c] using hL
  have hrc : n.rc = [⟨⟨#[120]⟩, 1, 1, ⟨#[]⟩⟩] := congrArg Nd.rc hn
  rcases h1 with h1 | ⟨b, off, rfl, hb, hl⟩
  · cases h1
  · obtain ⟨_, _, k3, ao3, c3, e3, k4⟩ := hl 0 n rfl
    rw [hrc] at e3 k4
    rcases k4 with k4 | ⟨b3, o3, rfl, hb3, hl3⟩
    · cases k4
    · obtain ⟨_, _, m3, _⟩ := hl3 0 _ rfl
      refine ⟨b, off, _, b3, o3, c3, _, _, rfl, ⟨?_, ?_⟩, hB⟩
      · rw [e3] at k3
        simpa using k3
      · simpa using m3
end Go.Proofs.YteabdlandbmdaaaGreatDoor
