/-
  The walk of kinsame.Steps, where both are the same.
-/
import Derived.Test.YtmgkdghkenpmbaaGreatDoorAskT
namespace Go.Proofs.YtmgkdghkenpmbaaGreatDoor
open Go.RowKit
set_option linter.unusedVariables false
set_option linter.unusedSimpArgs false

theorem strT : Tryz.prog.underlying 33 = some (.struct (Tryz.prog.fieldsOf 33)) := by kernel_rfl
theorem hpT : Tryz.prog.stoodInHeld 33 = false := by kernel_rfl
theorem egT33 : Tryz.prog.eqGuardType Tryz.prog.depth 33 = false := by kernel_rfl
theorem eqT_same (x : Tst) (w : World) : (Op.equalIn 10000 33 x.one x.one).run Tryz.prog w = .ok true w := by
  have u9 := Tryz.underlying9
  have a9 := Tryz.isAgg9
  have z9 := Tryz.sizeOf9
  have u3 := Tryz.underlying3
  have a3 := Tryz.isAgg3
  have z3 := Tryz.sizeOf3
  have a31 := Tryz.isAgg31
  have z31 := Tryz.sizeOf31
  have hV : ∀ w, (Op.equalIn 9999 31 (.agg #[.int .i64 x.t, .int .i64 x.n, .string (bs x.s)]) (.agg #[.int .i64 x.t, .int .i64 x.n, .string (bs x.s)])).run Tryz.prog w = .ok true w := fun w => by
    rw [show (9999 : Nat) = 9997 + 1 + 1 from rfl, eqV_any]; simp [eqB]
  rw [show (10000 : Nat) = 9999 + 1 from rfl, run_equalIn_agg w 9999 33 _ _ strT hpT]
  simp only [Program.fieldsOf, Tryz.underlying33]
  go_simp
theorem neqT_same (x : Tst) (w : World) : (binOp .neq 33 x.one x.one).run Tryz.prog w = .ok (.bool false) w := by
  rw [run_neq_struct, eqT_same]; rfl
theorem egTT (op : BinOp) (x y : Operand) (p q : Tst) (w : World) : (eqGuard op 33 x y p.one q.one).run Tryz.prog w = .ok () w := run_eqGuard_agg w op 33 x y _ _ egT33

set_option maxHeartbeats 4000000 in
set_option maxRecDepth 100000 in
theorem ssteps_same {va vb : Value} {A B : List Sp} {w : World} (ha : IsSp w va A) (hb : IsSp w vb B) (hAB : A.map Sp.st = B.map Sp.st) (hl : A.length ≤ 1000) (ht : ∀ p ∈ A, p.st.ts.length ≤ 1000) :
    Calls Tryz.prog 7 #[va, vb] w fun e w' => e = .returned (.bool true) ∧ Below w.heap.size w w' := by
  have hlen : B.length = A.length := by have := congrArg List.length hAB; simpa using this.symm
  obtain ⟨ao, ca, rfl, h1⟩ := ha
  obtain ⟨bo, cb, rfl, h2⟩ := hb
  rw [hlen]
  have HK : Hid ((A = [] ∨ ∃ b off, ao = some ⟨b, off, none⟩ ∧ b < w.heap.size ∧ LiesSp w b off A) ∧ (B = [] ∨ ∃ b off, bo = some ⟨b, off, none⟩ ∧ b < w.heap.size ∧ LiesSp w b off B) ∧ A.map Sp.st = B.map Sp.st ∧ B.length = A.length ∧ ∀ p ∈ A, p.st.ts.length ≤ 1000) := ⟨h1, h2, hAB, hlen, ht⟩
  clear h1 h2 hAB hlen ht
  go_enter Tryz.func7, Tryz.ntmps7
  go_wp2
  go_loopw [5] (fun i wr => ∃ k : Nat, k ≤ A.length ∧ i = .int .i64 (k : Int) ∧ Below w.heap.size w wr) (fun i _ => A.length - (intOf i).toNat)
  case atStart => exact ⟨0, Nat.zero_le _, rfl, Below.refl _ _⟩
  case round =>
    obtain ⟨k, hk, rfl, hB⟩ := hrel
    by_cases hlt : k < A.length
    · obtain ⟨x, hx⟩ : ∃ x, A[k]? = some x := ⟨A[k], by simp [hlt]⟩
      obtain ⟨y, hy⟩ : ∃ y, B[k]? = some y := ⟨B[k]'(by rw [HK.out.2.2.2.1]; exact hlt), by simp⟩
      have hxy : x.st = y.st := by
        have := congrArg (·[k]?) HK.out.2.2.1
        simp only [List.getElem?_map, hx, hy, Option.map_some, Option.some.injEq] at this
        exact this
      have hA0 : ¬ A = [] := fun e => by rw [e] at hlt; simp at hlt
      have hB0 : ¬ B = [] := fun e => by have := HK.out.2.2.2.1; rw [e] at this; simp at this; omega
      have htl := HK.out.2.2.2.2 x (List.mem_of_getElem? hx)
      obtain ⟨b1, o1, rfl, hb1, l1⟩ := HK.out.1.resolve_left hA0
      obtain ⟨b2, o2, rfl, hb2, l2⟩ := HK.out.2.1.resolve_left hB0
      obtain ⟨⟨c0, c1, c2, c3⟩, hTx⟩ := (l1.on hb1 hB) k x hx
      obtain ⟨⟨d0, d1, d2, d3⟩, hTy⟩ := (l2.on hb2 hB) k y hy
      obtain ⟨xs, xv⟩ := x
      obtain ⟨ys, yv⟩ := y
      simp only at hxy c0 c1 c2 c3 d0 d1 d2 d3 hTx hTy htl
      subst hxy
      obtain ⟨ax, cx, ex⟩ := hTx.sl
      subst ex
      obtain ⟨ay, cy, ey⟩ := hTy.sl
      subst ey
      obtain ⟨bd, back, kd, ts⟩ := xs
      simp only at c0 c1 c2 c3 d0 d1 d2 d3 hTx hTy htl
      have hne1 : ¬ wr.heap.size = wr.heap.size + 1 := by omega
      have e0 := cell_old d0
      have e1 := cell_old d1
      have e2 := cell_old d2
      have e3 := cell_old d3
      have HTx := Lib.hid hTx
      have HTy := Lib.hid hTy
      have HB := Lib.hid hB
      clear hTx hTy hB l1 l2 hx hy d0 d1 d2 d3 hA0 hB0 hk
      obtain ⟨Wr, hWr⟩ : ∃ W, W = wr := ⟨wr, rfl⟩
      subst hWr
      go_wp2
      obtain ⟨W2, hW2⟩ : ∃ W2, W2 = (Wr.alloc (.cells #[.string (bs bd), .bool back, .string (bs kd), .slice ax ts.length cx] 29)).alloc (.cells #[.string (bs bd), .bool back, .string (bs kd), .slice ay ts.length cy] 29) := ⟨_, rfl⟩
      have hB2 : Below Wr.heap.size Wr W2 := by rw [hW2]; exact b_alloc (b_alloc (Below.refl _ _) _) _
      have HB2 := Lib.hid (on1 HB.out hB2)
      have x3 : W2.cell? ⟨Wr.heap.size, 3, none⟩ = some (.slice ax ts.length cx) := by
        rw [hW2]; exact cell_old (cell_at (new_block Wr _ 29) rfl) _
      have y3 : W2.cell? ⟨Wr.heap.size + 1, 3, none⟩ = some (.slice ay ts.length cy) := by
        rw [hW2]
        have := new_block (Wr.alloc (.cells #[.string (bs bd), .bool back, .string (bs kd), .slice ax ts.length cx] 29)) #[.string (bs bd), .bool back, .string (bs kd), .slice ay ts.length cy] 29
        rw [World.size_alloc] at this
        exact cell_at this rfl
      have HX := Lib.hid (HTx.out.on hB2)
      have HY := Lib.hid (HTy.out.on hB2)
      clear c0 c1 c2 c3 e0 e1 e2 e3 hB2
      rw [← hW2]
      clear hW2
      go_loopw [8] (fun i w2 => ∃ j q : Nat, j ≤ ts.length ∧ i = .int .i64 (j : Int) ∧ w2 = W2.drewN q) (fun i _ => ts.length - (intOf i).toNat)
      case atStart => exact ⟨0, 0, Nat.zero_le _, rfl, rfl⟩
      case round =>
        obtain ⟨j, q, hj, rfl, rfl⟩ := hrel
        by_cases hjl : j < ts.length
        · obtain ⟨z, hz⟩ : ∃ z, ts[j]? = some z := ⟨ts[j], by simp [hjl]⟩
          have hts0 : ¬ ts = [] := fun e => by rw [e] at hjl; simp at hjl
          obtain ⟨ao1, cc1, ee1, h3⟩ := HX.out
          obtain ⟨ao2, cc2, ee2, h4⟩ := HY.out
          injection ee1 with f1 f2 f3
          injection ee2 with g1 g2 g3
          obtain ⟨p1, r1, hp1, _, m1⟩ := h3.resolve_left hts0
          obtain ⟨p2, r2, hp2, _, m2⟩ := h4.resolve_left hts0
          obtain ⟨s0, s1, s2, s3, s4⟩ := m1 j z hz
          obtain ⟨t0, t1, t2, t3, t4⟩ := m2 j z hz
          have E1 : ax = some ⟨p1, r1, none⟩ := f1.trans hp1
          have E2 : ay = some ⟨p2, r2, none⟩ := g1.trans hp2
          rw [E1] at x3
          rw [E2] at y3
          have hne := neqT_same z
          have hgd := fun op a b => egTT op a b z z
          obtain ⟨nm, hw, t, n, sv⟩ := z
          simp only at s0 s1 s2 s3 s4 t0 t1 t2 t3 t4
          simp only [Tst.one] at hne hgd
          clear h3 h4 m1 m2 f1 f2 f3 g1 g2 g3 hp1 hp2 E1 E2 hz hts0 HX HY
          go_wp2
          go_quiet (fail)
          go_wp2
          go_roundw
          case rel => exact ⟨j + 1, _, by omega, by go_num, rfl⟩
          case measure => simp [intOf]; omega
        · clear HX HY
          go_wp2
          go_roundw
          case rel => exact ⟨k + 1, by omega, by go_num, b_drewK HB2.out _⟩
          case measure => simp [intOf]; omega
    · go_wp2
      go_ret
      exact ⟨rfl, hB⟩
end Go.Proofs.YtmgkdghkenpmbaaGreatDoor
