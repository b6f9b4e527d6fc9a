/-
  What the two sorts of package rows ask of the library: the laying of its contracts at this program, and what their comparisons answer.
-/
import Derived.Test.YtodddcacngjadaaCmA
import Derived.Test.YtodddcacngjadaaSymH
import Derived.Shelf.SlSortCmp.WholeK
import Derived.Shelf.SlGeneric
import Derived.Deep.DeepCutAuto
import Derived.Ground.SlsfProg
namespace Go.Proofs.Ytodddcacngjadaa
open Go.Shelf Go.RowKit Go.Lib Go.Sort
set_option linter.unusedVariables false
set_option linter.unusedSimpArgs false

shelf_lay_g SlLaysF0.n20 Slsf 20 at Try 37 as insH
shelf_lay_g SlLaysF0.n6 Slsf 6 at Try 32 as sortV

theorem symL : SymL Try.prog 4 where
  mixed := by kernel_rfl
  f57 := Try.func57
  f45 := Try.func45
  f38 := Try.func38
  f24 := Try.func24
  f11 := Try.func11
  t0 := Try.underlying0
  a0 := Try.isAgg0
  z0 := Try.sizeOf0
  v0 := Try.zeroValue0
  t3 := Try.underlying3
  a3 := Try.isAgg3
  z3 := Try.sizeOf3
  v3 := Try.zeroValue3
  t4 := Try.underlying4
  a4 := Try.isAgg4
  z4 := Try.sizeOf4
  v4 := Try.zeroValue4
  t41 := Try.underlying41
  a41 := Try.isAgg41
  z41 := Try.sizeOf41
  v41 := Try.zeroValue41
  t48 := Try.underlying48
  a48 := Try.isAgg48
  z48 := Try.sizeOf48
  v48 := Try.zeroValue48
  t82 := Try.underlying82
  a82 := Try.isAgg82
  z82 := Try.sizeOf82
  v82 := Try.zeroValue82
  aE := Try.isAgg46
  zE := Try.sizeOf46

/-- Holders that are right. -/
abbrev HvS := { h : Hv // HvOk h }
instance : Inhabited HvS := ⟨⟨⟨⟨.slice none 0 0, []⟩, 1, 0, ⟨#[]⟩⟩, by decide, by show (0 : Nat) ≤ maxLen; decide, none, 0, 0, rfl⟩⟩
def encH (x : HvS) : List Value := x.1.cells
theorem encH_len (x : HvS) : (encH x).length = 4 := rfl
theorem encH_one (x : HvS) : ∀ v ∈ encH x, v.oneCell' = true := by
  intro v hv
  obtain ⟨a, n, c, e⟩ := x.2.2.2
  simp [encH, Hv.cells] at hv
  rcases hv with rfl | rfl | rfl | rfl
  · rw [e]; rfl
  all_goals rfl
/-- How two holders stand. -/
def kcH (x y : HvS) : Int := kcV x.1.t x.1.n x.1.s.data.toList y.1.t y.1.n y.1.s.data.toList
def cfH (down : Bool) (x y : HvS) : Int := if down = true then kcH y x else kcH x y
theorem cfH_swo (down : Bool) : SWO (ltOf (cfH down)) := by
  cases down with
  | false => exact swo_of (fun x y => kcV_anti _ _ _ _ _ _) (fun x y z h1 h2 => kcV_trans _ _ _ _ _ _ _ _ _ h1 h2)
  | true => exact swo_of (fun x y => kcV_anti _ _ _ _ _ _) (fun x y z h1 h2 => kcV_trans _ _ _ _ _ _ _ _ _ h2 h1)
def wayV (down : Bool) : Int := if down = true then -1 else 1

set_option maxHeartbeats 2000000 in
set_option maxRecDepth 100000 in
/-- What Sort compares by. -/
theorem byWay_any (down : Bool) (x y : HvS) (bw : Nat) (W : World) (hw : W.cell? ⟨bw, 0, none⟩ = some (.int .i64 (wayV down))) :
    Calls Try.prog 12 #[.agg (encH x).toArray, .agg (encH y).toArray, .pointer (some ⟨bw, 0, none⟩)] W fun e w' => e = .returned (.int .i64 (cfH down x y)) ∧ Gr W w' := by
  have cC := fun V => rcompare_any x.1.t x.1.n x.1.s y.1.t y.1.n y.1.s V x.2.2.1 y.2.2.1 x.2.1 y.2.1
  have hr := kcV_range x.1.t x.1.n x.1.s.data.toList y.1.t y.1.n y.1.s.data.toList
  have ha := kcV_anti x.1.t x.1.n x.1.s.data.toList y.1.t y.1.n y.1.s.data.toList
  have HC : Hid (cfH down x y = wayV down * kcV x.1.t x.1.n x.1.s.data.toList y.1.t y.1.n y.1.s.data.toList) := by
    show _ = _
    unfold cfH wayV kcH
    cases down with
    | true => rw [if_pos rfl, if_pos rfl, ha]; omega
    | false => rw [if_neg (by decide), if_neg (by decide)]; omega
  obtain ⟨xa, xn, xc, ex⟩ := x.2.2.2
  obtain ⟨ya, yn, yc, ey⟩ := y.2.2.2
  have e1 : encH x = [.slice xa xn xc, .int .i64 x.1.t, .int .i64 x.1.n, .string x.1.s] := by unfold encH Hv.cells; rw [ex]
  have e2 : encH y = [.slice ya yn yc, .int .i64 y.1.t, .int .i64 y.1.n, .string y.1.s] := by unfold encH Hv.cells; rw [ey]
  rw [e1, e2, HC.out]
  generalize kcV x.1.t x.1.n x.1.s.data.toList y.1.t y.1.n y.1.s.data.toList = r at cC hr
  have hwy : wayV down = 1 ∨ wayV down = -1 := by unfold wayV; cases down <;> simp
  generalize wayV down = wy at hw hwy
  have hwr : IntKind.i64.wrap (wy * r) = wy * r := by
    rw [IntKind.wrap_i64]; rcases hwy with rfl | rfl <;> rcases hr with rfl | rfl | rfl <;> decide
  generalize x.1.t = xt at cC
  generalize x.1.n = xm at cC
  generalize x.1.s = xs at cC
  generalize y.1.t = yt at cC
  generalize y.1.n = ym at cC
  generalize y.1.s = ys at cC
  have hbw : bw < W.heap.size := cell_lt hw
  have hbn : ¬ bw = W.heap.size := by omega
  have hbn1 : ¬ bw = W.heap.size + 1 := by omega
  obtain ⟨W2, hW2⟩ : ∃ W2, W2 = (W.alloc (.cells #[.slice xa xn xc, .int .i64 xt, .int .i64 xm, .string xs] 46)).alloc (.cells #[.slice ya yn yc, .int .i64 yt, .int .i64 ym, .string ys] 46) := ⟨_, rfl⟩
  have HG2 : Hid (Gr W W2) := by rw [hW2]; exact ((Gr.refl W).alloc _).alloc _
  have n1 : W2.heap[W.heap.size]? = some (.cells #[.slice xa xn xc, .int .i64 xt, .int .i64 xm, .string xs] 46 (0, 0)) := by rw [hW2]; exact (heap_alloc_old _ _ (by simp)).trans (heap_alloc_new W _)
  have n2 : W2.heap[W.heap.size + 1]? = some (.cells #[.slice ya yn yc, .int .i64 yt, .int .i64 ym, .string ys] 46 (0, 0)) := by
    rw [hW2]
    have := heap_alloc_new (W.alloc (.cells #[.slice xa xn xc, .int .i64 xt, .int .i64 xm, .string xs] 46)) (.cells #[.slice ya yn yc, .int .i64 yt, .int .i64 ym, .string ys] 46)
    rwa [World.size_alloc] at this
  have hc0 : W2.cell? ⟨bw, 0, none⟩ = some (.int .i64 wy) := (HG2.out.below.cell (p := ⟨bw, 0, none⟩) hbw).trans hw
  have hK : ∀ (n : Nat) (os : Array Obj) (a : Addr) (v : Value), W2.cell? a = some v → (grow (W2.drewN n) os).cell? a = some v := fun n os a v h => by
    rw [cell?_grow _ _ _ (by exact cell_lt h)]; exact h
  have k0 := fun n os => hK n os _ _ hc0
  have k1 := fun n os => hK n os _ _ (cell_at (i := 1) n1 rfl)
  have k2 := fun n os => hK n os _ _ (cell_at (i := 2) n1 rfl)
  have k3 := fun n os => hK n os _ _ (cell_at (i := 3) n1 rfl)
  have j1 := fun n os => hK n os _ _ (cell_at (i := 1) n2 rfl)
  have j2 := fun n os => hK n os _ _ (cell_at (i := 2) n2 rfl)
  have j3 := fun n os => hK n os _ _ (cell_at (i := 3) n2 rfl)
  unfold Gr at cC
  have mixed := symL.mixed
  clear e1 e2 ex ey ha hr hwy hw n1 n2 hc0 hK HC
  show Calls Try.prog 12 #[.agg #[.slice xa xn xc, .int .i64 xt, .int .i64 xm, .string xs], .agg #[.slice ya yn yc, .int .i64 yt, .int .i64 ym, .string ys], .pointer (some ⟨bw, 0, none⟩)] W _
  go_enter Try.func12, Try.ntmps12
  go_upto_region 1 with fail
  rw [← hW2]
  have HW2 := Lib.hid hW2
  clear hW2
  go_quiet_grown (first | (go_at_call 13; refine Calls.grown_of (cC _)))
  go_wp2
  go_ret
  exact ⟨rfl, (HG2.out.drewN nq).grow osq⟩
end Go.Proofs.Ytodddcacngjadaa
