import Derived.Test.YtahamkajkkkjdaaGreatDoorM30
import Derived.Test.YtahamkajkkkjdaaGreatDoorM03
import Derived.Test.YtahamkajkkkjdaaGreatDoorM01
import Derived.Deep.CutBlock
import Derived.Deep.DeepCutAuto
import Derived.Deep.RegionHeld
import Derived.Maps.RangeWalk
namespace Go.Proofs.YtahamkajkkkjdaaGreatDoor
open Go.RowKit
set_option linter.unusedVariables false
set_option linter.unusedSimpArgs false
theorem yieldsIf_row {ops : Array Oper} {S : World → Prop} {op : Oper} {a : Act} (hw : Region.wanted op (yielded ops a.tmps) = true) (ty : TypeId) (x : Operand) (ho : op.op = .load ty x)
    (b : Nat) (hx : a.eval x = .pointer (some ⟨b, 0, none⟩)) (cs : Array Value) (hl : ∀ w, S w → (loadVar ty ⟨b, 0, none⟩).run Tryz.prog w = .ok (.agg cs) w) : YieldsIf Tryz.prog ops S op (.agg cs) a :=
  .inl ⟨hw, fun w hw' => by
    unfold execOp
    simp only [ho, hx, Instr.loadAt, Instr.sureAddr, Sem.run_bind, Sem.run_pure, Result.andThen_ok, hl w hw']⟩
theorem takeD {P : Program} {md : Region.Mode} {ops : Array Oper} {Q : Exit → Act → World → Prop} {S : World → Prop} {i : Nat} (d : Option Tmp) {oi : Oper} {v : Value} {fuel : Nat} {listed : Array Bool} {a : Act} {w : World} (hi : ops[i]? = some oi) (hd : oi.dst = d)
    (hr : (Region.noSelect ops && Region.free md ops listed i && (Region.ready md ops listed).contains i) = true)
    (hQ : ∀ c a w, Q (.panic c) (a.put oi.dst v) w → Q (.panic c) a w) (hy : YieldsIf P ops S oi v a) (hS : S w)
    (h : wpAnyH P md ops Q S fuel (listed.setIfInBounds i true) (a.put d v) w) : wpAnyH P md ops Q S (fuel + 1) listed a w := by
  subst hd
  simp only [Bool.and_eq_true] at hr
  exact wpAnyH_take hi hr.1.1 hr.1.2 hr.2 hQ hy hS h
theorem ready1 {P : Program} {md : Region.Mode} {ops : Array Oper} {Q : Exit → Act → World → Prop} {S : World → Prop} {i : Nat} {fuel : Nat} {listed : Array Bool} {a : Act} {w : World} {o : Oper} (hr : Region.ready md ops listed = [i]) (ho : ops[i]? = some o)
    (h : ∀ K' : Act → World → Prop, Shut (∀ a w, S w → (S w → wpAnyH P md ops Q S fuel (listed.setIfInBounds i true) a w) → K' a w) → if Region.wanted o (yielded ops a.tmps) = true then Oper.wp P o a w K' Q else K' (a.put o.dst undef) w) : wpAnyH P md ops Q S (fuel + 1) listed a w :=
  wpAnyH_ready hr (by simp) (AllReadyH.cons ho h AllReadyH.nil)
def S2 (C cs : Array Value) (p b : Nat) (w : World) : Prop := w.heap[p]? = some (.cells C 72 (0, 0)) ∧ w.heap[b]? = some (.cells cs 75 (0, 0))
variable {C cs : Array Value} {p b : Nat} {w : World}
theorem S2.drew (h : S2 C cs p b w) : S2 C cs p b w.drew := h
theorem S2.lt (h : S2 C cs p b w) : p < w.heap.size ∧ b < w.heap.size := ⟨(Array.getElem?_eq_some_iff.1 h.1).1, (Array.getElem?_eq_some_iff.1 h.2).1⟩
theorem S2.on {w' : World} (h : S2 C cs p b w) (hB : Below w.heap.size w w') : S2 C cs p b w' := ⟨(hB.block _ h.lt.1).trans h.1, (hB.block _ h.lt.2).trans h.2⟩
theorem S2.alloc (h : S2 C cs p b w) (o : Obj) : S2 C cs p b (w.alloc o) := h.on (bA (Below.refl _ _) (Nat.le_refl _) _)
abbrev lset4 (w : World) (g : Nat) (x y z u : Value) : World := (((w.setCell ⟨g, 0, none⟩ x).setCell ⟨g, 1, none⟩ y).setCell ⟨g, 2, none⟩ z).setCell ⟨g, 3, none⟩ u
theorem lset4_bx {B : Nat} {l : List Nat} {a w : World} (h : Bx B l a w) {g : Nat} (hg : g ∈ l ∨ B ≤ g) (x y z u : Value) : Bx B l a (lset4 w g x y z u) := bx_set (bx_set (bx_set (bx_set h hg _ _) hg _ _) hg _ _) hg _ _
theorem lset4_heap {w : World} {g : Nat} {t : TypeId} {a0 a1 a2 a3 x y z u : Value} (h : w.heap[g]? = some (.cells #[a0, a1, a2, a3] t (0, 0))) : (lset4 w g x y z u).heap[g]? = some (.cells #[x, y, z, u] t (0, 0)) := by
  have h1 := heap_setCell_same w g 0 _ t x h
  have h2 := heap_setCell_same _ g 1 _ t y h1
  have h3 := heap_setCell_same _ g 2 _ t z h2
  have h4 := heap_setCell_same _ g 3 _ t u h3
  rw [h4]; rfl
theorem S2.st4 {g : Nat} (h : S2 C cs p b w) (hn : p ≠ g ∧ b ≠ g) (x y z u : Value) : S2 C cs p b (lset4 w g x y z u) := by
  have hx : Bx w.heap.size [g] w (lset4 w g x y z u) := lset4_bx (Bx.refl _ _ _) (.inl (by simp)) x y z u
  exact ⟨(hx.block p h.lt.1 (by simpa using hn.1)).trans h.1, (hx.block b h.lt.2 (by simpa using hn.2)).trans h.2⟩
theorem lset4_kt {w : World} {g : Nat} {t t' : TypeId} {x0 x1 x2 x3 x y z u : Value} (h : w.heap[g]? = some (.cells #[x0, x1, x2, x3] t' (0, 0))) (hne : t' ≠ t) : Kt t w (lset4 w g x y z u) := by
  have h1 := heap_setCell_same w g 0 _ t' x h
  have h2 := heap_setCell_same _ g 1 _ t' y h1
  have h3 := heap_setCell_same _ g 2 _ t' z h2
  exact ((((Kt.refl _ _).ty ⟨_, h⟩ hne _ _).trans ((Kt.refl _ _).ty ⟨_, h1⟩ hne _ _)).trans ((Kt.refl _ _).ty ⟨_, h2⟩ hne _ _)).trans ((Kt.refl _ _).ty ⟨_, h3⟩ hne _ _)
theorem ap_part {W : World} {base base2 : Nat} {vy v : Value} {bs r : List UInt8} (hy : W.ownsRow base 5 1 vy bs.length (Lib.byteCells bs)) (hb : base ≤ W.heap.size) (hv : W.ownsRow base2 5 1 v r.length (Lib.byteCells r)) (hr : 0 < r.length) (hz : bs.length + r.length ≤ 1000000000) :
    ∃ g c, v = .slice (some ⟨g, 0, none⟩) r.length c ∧ r.length ≤ c ∧ g < W.heap.size ∧ ∀ m, 0 < m → m ≤ r.length → ∃ v' w', (Builtin.append_ #[70, 70] 70 #[vy, .slice (some ⟨g, 0, none⟩) m c]).run Tryz.prog W = .ok v' w' ∧ ApR W base vy bs (r.take m) (.returned v') w' := by
  rcases id hv.2 with ⟨_, h0⟩ | ⟨g, c, cur, rfl, _, hg, hc, _⟩
  · omega
  refine ⟨g, c, rfl, hc, (Array.getElem?_eq_some_iff.1 hg).1, fun m h0 h1 => ?_⟩
  have hl : (r.take m).length = m := by rw [List.length_take]; omega
  have := ap_bytes W base 70 (d := r.take m) hy hb ⟨g, 0, none⟩ c (by omega) (fun j u hj => by
    refine hv.cells (g := g) rfl j u ?_
    have e : Lib.byteCells r = Lib.byteCells (r.take m) ++ Lib.byteCells (r.drop m) := by rw [← bc_app, List.take_append_drop]
    rw [e, List.getElem?_append_left (List.getElem?_eq_some_iff.1 hj).1]
    exact hj) (by rw [List.length_append, hl]; omega)
  rwa [hl] at this
theorem lkt_bx {w w' : World} {p : Nat} {C : Array Value} {t t' : TypeId} (hx : Bx w.heap.size [p] w w') (hp : w.heap[p]? = some (.cells C t' (0, 0))) (hne : t' ≠ t) : Kt t w w' :=
  ⟨hx.size, fun b cs h => (hx.block b (Array.getElem?_eq_some_iff.1 h).1 (fun hb => by
    simp only [List.mem_singleton] at hb
    subst hb
    rw [hp] at h
    simp only [Option.some.injEq, Obj.cells.injEq] at h
    exact hne h.2.1)).trans h⟩
theorem do_app {w W5 : World} {base base2 p g c q : Nat} {vk0 vb0 vk vb vn vt vy a0 a1 a2 a3 : Value} {sf lf : Int} {st : Bool} {bs r : List UInt8} (hb : base ≤ p) (hB : Below base w W5) (hk : ∀ t, t ≠ 72 → t ≠ 5 → Kt t w W5) (hbs : base ≤ W5.heap.size) (hp : W5.heap[p]? = some (.cells (lgC vk0 vb0 vk vb vn vt vy sf lf st) 72 (0, 0)))
    (hq : W5.heap[q]? = some (.cells #[a0, a1, a2, a3] 69 (0, 0))) (hy : W5.ownsRow base 5 1 vy bs.length (Lib.byteCells bs)) (hv : W5.ownsRow base2 5 1 (.slice (some ⟨g, 0, none⟩) r.length c) r.length (Lib.byteCells r)) (hz : bs.length + r.length ≤ 1000000000) (m : Nat) (h0 : 0 < m) (h1 : m ≤ r.length) :
    ∃ v' w', (Builtin.append_ #[70, 70] 70 #[vy, .slice (some ⟨g, 0, none⟩) m c]).run Tryz.prog W5 = .ok v' w' ∧ (∃ a n d, v' = .slice a n d) ∧ w'.heap[p]? = some (.cells (lgC vk0 vb0 vk vb vn vt vy sf lf st) 72 (0, 0)) ∧ w'.heap[q]? = some (.cells #[a0, a1, a2, a3] 69 (0, 0)) ∧
      (Below base w (w'.setCell ⟨p, 6, none⟩ v') ∧ (∀ t, t ≠ 72 → t ≠ 5 → Kt t w (w'.setCell ⟨p, 6, none⟩ v')) ∧ (w'.setCell ⟨p, 6, none⟩ v').ownsRow base 5 1 v' (bs ++ r.take m).length (Lib.byteCells (bs ++ r.take m)) ∧ (w'.setCell ⟨p, 6, none⟩ v').heap[p]? = some (.cells (lgC vk0 vb0 vk vb vn vt v' sf lf st) 72 (0, 0))) := by
  obtain ⟨g', c', e, _, _, hap⟩ := ap_part hy hbs hv (by omega) hz
  simp only [Value.slice.injEq, Option.some.injEq, Addr.mk.injEq, and_true, true_and] at e
  obtain ⟨rfl, rfl⟩ := e
  obtain ⟨v', w', r1, v2, e2, r2, r3, _⟩ := hap m h0 h1
  injection e2 with e2
  subst e2
  have hk5 : ∀ t, t ≠ 5 → Kt t W5 w' := fun t ht => Kt.of_row5 hy r3 ht
  have hp' := (hk5 72 (by decide)).2 p _ hp
  have hB' : Below base w w' := hB.trans ((Below.refl base W5).grown (w' := w') r3 hbs (fun k hk => (hy.lt k hk).1))
  refine ⟨v', w', r1, (own_slice r2).imp fun a h => ⟨_, h⟩, hp', (hk5 69 (by decide)).2 q _ hq, hB'.setCell hb _, fun t h h5 => ((hk t h h5).trans (hk5 t h5)).ty ⟨_, hp'⟩ (Ne.symm h) _ _, own_kt r2 ((Kt.refl _ _).ty ⟨_, hp'⟩ (by decide) _ _), ?_⟩
  rw [heap_setCell_same w' p 6 _ 72 _ hp']
  rfl
def Sl4 (a b c d : Value) : Prop := ∃ p1 n1 c1 p2 n2 c2 p3 n3 c3 p4 n4 c4, a = .slice p1 n1 c1 ∧ b = .slice p2 n2 c2 ∧ c = .slice p3 n3 c3 ∧ d = .slice p4 n4 c4
def LwiP (ee : Int) (Qs : World → Value → Value → Value → Value → Prop) (w : World) (e : Ending) (w' : World) : Prop :=
  Below w.heap.size w w' ∧ ∃ a b c d, Sl4 a b c d ∧ e = .returned (.tuple #[.agg #[a, b, c, d], if ee = 0 then .nilIface else .iface 76 (.int .i64 ee)]) ∧ (ee = 0 → Qs w' a b c d)
def LdoP (w : World) (base p : Nat) (vk0 vb0 vk vb vn vt vy : Value) (sf lf : Int) (st : Bool) (bs : List UInt8) (ee : Int) (r : List UInt8) (Qs : World → Value → Value → Value → Value → Prop) (e : Ending) (w' : World) : Prop :=
  Below base w w' ∧ (∀ t, t ≠ 72 → t ≠ 5 → Kt t w w') ∧
  if st = true then e = .returned (.iface 76 (.int .i64 6)) ∧ w'.heap[p]? = some (.cells (lgC vk0 vb0 vk vb vn vt vy sf lf st) 72 (0, 0)) ∧ w'.ownsRow base 5 1 vy bs.length (Lib.byteCells bs)
  else if ee ≠ 0 then e = .returned (.iface 76 (.int .i64 ee)) ∧ w'.heap[p]? = some (.cells (lgC vk0 vb0 vk vb vn vt vy sf lf st) 72 (0, 0)) ∧ w'.ownsRow base 5 1 vy bs.length (Lib.byteCells bs)
  else ∃ vy', if lf = 0 then e = .returned (.iface 76 (.int .i64 6)) ∧ w'.heap[p]? = some (.cells (lgC vk0 vb0 vk vb vn vt vy' sf 0 true) 72 (0, 0)) ∧ w'.ownsRow base 5 1 vy' (bs ++ r.take (r.length / 2)).length (Lib.byteCells (bs ++ r.take (r.length / 2)))
    else ∃ a b c d, e = .returned .nilIface ∧ w'.heap[p]? = some (.cells (lgC vk0 vb0 a b c d vy' sf (lfN lf) false) 72 (0, 0)) ∧ Qs w' a b c d ∧ w'.ownsRow base 5 1 vy' (bs ++ r).length (Lib.byteCells (bs ++ r))
set_option maxHeartbeats 8000000 in
set_option maxRecDepth 100000 in
theorem ldo_any {w : World} {base p : Nat} {vk0 vb0 vk vb vn vt vy : Value} {sf lf : Int} {st : Bool} {bs r : List UInt8} {ee : Int} {cs : Array Value} {Qs : World → Value → Value → Value → Value → Prop}
    (hp : w.heap[p]? = some (.cells (lgC vk0 vb0 vk vb vn vt vy sf lf st) 72 (0, 0))) (hbp : base ≤ p) (hy : w.ownsRow base 5 1 vy bs.length (Lib.byteCells bs)) (hl : -9223372036854775808 ≤ lf) (hu : lf < 9223372036854775808) (hcs : cs.size = 20)
    (hw : ∀ W, Below w.heap.size w W → Calls Tryz.prog 20 #[.agg #[vk, vb, vn, vt], .agg cs] W (LwiP ee Qs W))
    (hQ : ∀ W W' a b c d, Qs W a b c d → (∀ t, t ≠ 69 → t ≠ 72 → t ≠ 5 → Kt t W W') → Qs W' a b c d)
    (hr : ee = 0 → ∀ W, Below w.heap.size w W → Calls Tryz.prog 21 #[.agg cs] W fun e w' => ∃ v, e = .returned v ∧ w'.ownsRow W.heap.size 5 1 v r.length (Lib.byteCells r) ∧ Below W.heap.size W w')
    (hr2 : 2 ≤ r.length) (hz : bs.length + r.length ≤ 1000000000) :
    Calls Tryz.prog 14 #[.pointer (some ⟨p, 0, none⟩), .agg cs] w (LdoP w base p vk0 vb0 vk vb vn vt vy sf lf st bs ee r Qs) := by
  obtain ⟨w1, hw1⟩ : ∃ w1, w1 = w.alloc (.cells cs 75) := ⟨_, rfl⟩
  have hB1 : Below w.heap.size w w1 := by rw [hw1]; exact bA (Below.refl _ _) (Nat.le_refl _) _
  have hplt : p < w.heap.size := (Array.getElem?_eq_some_iff.1 hp).1
  have hp1 : w1.heap[p]? = some (.cells (lgC vk0 vb0 vk vb vn vt vy sf lf st) 72 (0, 0)) := (hB1.block p hplt).trans hp
  have hb1 : w1.heap[w.heap.size]? = some (.cells cs 75 (0, 0)) := by rw [hw1]; exact heap_alloc_new w _
  have x9 : w1.cell? ⟨p, 9, none⟩ = some (.bool st) := cell_at hp1 rfl
  cases st with
  | true =>
    subst hw1
    go_enter Tryz.func14, Tryz.ntmps14
    go_wp2
    go_ret
    refine ⟨hB1.mono (by omega), fun t _ _ => .of_below hB1, ?_⟩
    rw [if_pos rfl]
    exact ⟨rfl, hp1, own_kt hy (.of_below hB1)⟩
  | false =>
  have x2 : S2 (lgC vk0 vb0 vk vb vn vt vy sf lf false) cs p w.heap.size w1 := ⟨hp1, hb1⟩
  subst hw1
  go_enter Tryz.func14, Tryz.ntmps14
  go_upto_region 3 with fail
  have HH := Lib.hid (And.intro hp (And.intro hy (And.intro hplt hr)))
  have HZ : Hid (w.heap.size = w.heap.size) := Lib.hid rfl
  have hwc := Lib.hid hw
  have HQ := Lib.hid hQ
  have HB1 := Lib.hid hB1
  obtain ⟨ev, hev⟩ : ∃ ev, ev = (if ee = 0 then Value.nilIface else .iface 76 (.int .i64 ee)) := ⟨_, rfl⟩
  have HEv := Lib.hid hev
  have hcw : ∀ W, Below w.heap.size w W → Calls Tryz.prog 20 #[.agg #[vk, vb, vn, vt], .agg cs] W fun e w' => ∃ a b c d, Sl4 a b c d ∧ e = .returned (.tuple #[.agg #[a, b, c, d], ev]) ∧ (ee = 0 → Qs w' a b c d) ∧ Below W.heap.size W w' := fun W h => (hw W h).mono (by
    rintro e w' ⟨h1, a, b, c, d, h4, h2, h3⟩
    exact ⟨a, b, c, d, h4, by rw [hev]; exact h2, h3, h1⟩)
  have HC := Lib.hid hcw
  clear hw hwc hQ hr hplt hB1 hp1 hb1 x9 hy hp hev hcw
  generalize w.alloc (.cells cs 75) = W0 at *
  generalize hp3 : w.heap.size = p3 at *
  have HP3 := Lib.hid hp3
  clear hp3
  go_cut [5, 6] (fun s5 s6 wx => ∃ q a b c d, Sl4 a b c d ∧ s5 = .pointer (some ⟨q, 0, none⟩) ∧ s6 = ev ∧ wx.heap[q]? = some (.cells #[a, b, c, d] 69 (0, 0)) ∧ (ee = 0 → Qs wx a b c d) ∧ Below W0.heap.size W0 wx)
  case first =>
    refine wp_region_held_drew (S := S2 (lgC vk0 vb0 vk vb vn vt vy sf lf false) cs p p3) (by kernel_rfl) (S2.drew x2) (fun hHeld => ?_)
    refine takeD (i := 0) (v := ?_) (some 14) rfl rfl (by kernel_rfl) (fun _ _ _ h => h) (Or.inl ⟨by rfl, ?_⟩) hHeld ?_; rotate_left
    · intro w hSw; go_simp; try with_reducible rfl
    go_frame
    refine takeD (i := 1) (v := ?_) (some 15) rfl rfl (by kernel_rfl) (fun _ _ _ h => h) (Or.inl ⟨by rfl, ?_⟩) hHeld ?_; rotate_left
    · intro w hSw; go_simp; try with_reducible rfl
    go_frame
    refine takeD (i := 2) (v := ?_) (some 16) rfl rfl (by kernel_rfl) (fun _ _ _ h => h) (Or.inl ⟨by rfl, ?_⟩) hHeld ?_; rotate_left
    · intro w hSw; go_simp; try with_reducible rfl
    go_frame
    refine takeD (i := 3) (v := .agg #[vk, vb, vn, vt]) (some 17) rfl rfl (by kernel_rfl) (fun _ _ _ h => h) (Or.inl ⟨by rfl, ?_⟩) hHeld ?_
    · intro w hSw
      have c2 : w.cell? ⟨p, 2, none⟩ = some vk := cell_at hSw.1 rfl
      have c3 : w.cell? ⟨p, 3, none⟩ = some vb := cell_at hSw.1 rfl
      have c4 : w.cell? ⟨p, 4, none⟩ = some vn := cell_at hSw.1 rfl
      have c5 : w.cell? ⟨p, 5, none⟩ = some vt := cell_at hSw.1 rfl
      go_simp
      try with_reducible rfl
    go_frame
    refine takeD (i := 4) (some 18) rfl rfl (by kernel_rfl) (fun _ _ _ h => h) (yieldsIf_row (by rfl) 75 (.tmp 3) rfl p3 rfl cs (fun w h => run_loadVar_row w p3 75 75 cs (0, 0) _ h.2 Tryz.underlying75 rfl (by rw [hcs]; exact info75))) hHeld ?_
    go_frame
    refine wpAnyH_ready (rs := [5, 9]) (by kernel_rfl) (by simp) ?_
    refine AllReadyH.cons rfl (fun K hK => ?_) ?_
    · go_simp
      go_wp2_with (go_at_call 20; refine (HC.out _ (bD HB1.out)).mono ?_; rintro e W4 ⟨_, _, _, _, ⟨p1, n1, c1, p2, n2, c2, p3', n3, c3, p4, n4, c4, rfl, rfl, rfl, rfl⟩, rfl, hq4, hB4q⟩; have hb4 : Hid (Below W0.heap.size W0 W4) := on1K (bD (Below.refl _ W0)) hB4q (Nat.le_refl _); have x4 := x2.on hb4.out; have HS4 := Lib.hid hq4; clear hq4 hB4q)
      refine hK.out _ _ x4 (fun hHeld => ?_); clear hK K
      refine takeD (i := 6) (v := ?_) (some 13) rfl rfl (by kernel_rfl) (fun _ _ _ h => h) (Or.inl ⟨by rfl, ?_⟩) hHeld ?_; rotate_left
      · intro w hSw; go_simp; try with_reducible rfl
      go_frame
      refine takeD (i := 7) (v := ?_) (some 20) rfl rfl (by kernel_rfl) (fun _ _ _ h => h) (Or.inl ⟨by rfl, ?_⟩) hHeld ?_; rotate_left
      · intro w hSw; go_simp; try with_reducible rfl
      go_frame
      refine takeD (i := 8) (v := ?_) (some 21) rfl rfl (by kernel_rfl) (fun _ _ _ h => h) (Or.inl ⟨by rfl, ?_⟩) hHeld ?_; rotate_left
      · intro w hSw; go_simp; try with_reducible rfl
      go_frame
      refine ready1 (i := 9) (by kernel_rfl) rfl (fun K hK => ?_); go_simp
      refine hK.out _ _ (S2.alloc hHeld _) (fun hHeld => ?_); clear hK K
      refine ready1 (i := 10) (by kernel_rfl) rfl (fun K hK => ?_); go_simp
      refine hK.out _ _ (S2.alloc x4 _) (fun hHeld => ?_); clear hK K
      refine takeD (i := 11) (v := ?_) (some 6) rfl rfl (by kernel_rfl) (fun _ _ _ h => h) (Or.inl ⟨by rfl, ?_⟩) hHeld ?_; rotate_left
      · intro w hSw; go_simp; try with_reducible rfl
      go_frame
      refine wpAnyH_done (by kernel_rfl) ?_ _
      as_aux_lemma =>
      go_wp2
      go_meet
      exact ⟨_, _, _, _, _, ⟨_, _, _, _, _, _, _, _, _, _, _, _, rfl, rfl, rfl, rfl⟩, rfl, rfl, heap_alloc_new W4 _, fun h => HQ.out _ _ _ _ _ _ (HS4.out h) (fun t _ _ _ => .of_below (bA (Below.refl _ _) (Nat.le_refl _) _)), bA hb4.out (Nat.le_refl _) _⟩
    refine AllReadyH.cons rfl (fun K hK => ?_) ?_
    · go_simp
      refine hK.out _ _ (S2.alloc hHeld _) (fun hHeld => ?_); clear hK K
      refine ready1 (i := 5) (by kernel_rfl) rfl (fun K hK => ?_); go_simp
      go_wp2_with (go_at_call 20; have hbz := bA (Below.refl W0.heap.size W0) (Nat.le_refl _) (.cells #[.slice none 0 0, .slice none 0 0, .slice none 0 0, .slice none 0 0] 69); have hp3 : p3 ≤ W0.heap.size := (by have := x2.lt; omega); refine (HC.out _ (bD (HB1.out.trans (hbz.mono hp3)))).mono ?_; rintro e W4 ⟨_, _, _, _, ⟨p1, n1, c1, p2, n2, c2, p3', n3, c3, p4, n4, c4, rfl, rfl, rfl, rfl⟩, rfl, hq4, hB4q⟩; have hb4 : Hid (Below W0.heap.size W0 W4) := on1K (bD hbz) hB4q (by simp); have x4 := x2.on hb4.out; have kc := (hB4q.block _ (by simp)).trans (heap_alloc_new W0 (.cells #[.slice none 0 0, .slice none 0 0, .slice none 0 0, .slice none 0 0] 69)); have k0 : W4.cell? ⟨W0.heap.size, 0, none⟩ = some (.slice none 0 0) := cell_at kc rfl; have k1 : W4.cell? ⟨W0.heap.size, 1, none⟩ = some (.slice none 0 0) := cell_at kc rfl; have k2 : W4.cell? ⟨W0.heap.size, 2, none⟩ = some (.slice none 0 0) := cell_at kc rfl; have k3 : W4.cell? ⟨W0.heap.size, 3, none⟩ = some (.slice none 0 0) := cell_at kc rfl; have f0 : W4.frozen? ⟨W0.heap.size, 0, none⟩ = false := frz_at kc; have f1 : W4.frozen? ⟨W0.heap.size, 1, none⟩ = false := frz_at kc; have f2 : W4.frozen? ⟨W0.heap.size, 2, none⟩ = false := frz_at kc; have f3 : W4.frozen? ⟨W0.heap.size, 3, none⟩ = false := frz_at kc; have kc := Lib.hid kc; have HS4 := Lib.hid hq4; clear hq4 hB4q hbz)
      refine hK.out _ _ x4 (fun hHeld => ?_); clear hK K
      refine takeD (i := 6) (v := ?_) (some 13) rfl rfl (by kernel_rfl) (fun _ _ _ h => h) (Or.inl ⟨by rfl, ?_⟩) hHeld ?_; rotate_left
      · intro w hSw; go_simp; try with_reducible rfl
      go_frame
      refine takeD (i := 7) (v := ?_) (some 20) rfl rfl (by kernel_rfl) (fun _ _ _ h => h) (Or.inl ⟨by rfl, ?_⟩) hHeld ?_; rotate_left
      · intro w hSw; go_simp; try with_reducible rfl
      go_frame
      refine takeD (i := 8) (v := ?_) (some 21) rfl rfl (by kernel_rfl) (fun _ _ _ h => h) (Or.inl ⟨by rfl, ?_⟩) hHeld ?_; rotate_left
      · intro w hSw; go_simp; try with_reducible rfl
      go_frame
      refine ready1 (i := 10) (by kernel_rfl) rfl (fun K hK => ?_); go_simp
      refine hK.out _ _ (S2.st4 x4 (by have := x2.lt; omega) _ _ _ _) (fun hHeld => ?_); clear hK K
      refine takeD (i := 11) (v := ?_) (some 6) rfl rfl (by kernel_rfl) (fun _ _ _ h => h) (Or.inl ⟨by rfl, ?_⟩) hHeld ?_; rotate_left
      · intro w hSw; go_simp; try with_reducible rfl
      go_frame
      refine wpAnyH_done (by kernel_rfl) ?_ _
      as_aux_lemma =>
      go_wp2
      go_meet
      exact ⟨_, _, _, _, _, ⟨_, _, _, _, _, _, _, _, _, _, _, _, rfl, rfl, rfl, rfl⟩, rfl, rfl, lset4_heap kc.out, fun h => HQ.out _ _ _ _ _ _ (HS4.out h) (fun t h69 _ _ => lset4_kt kc.out (Ne.symm h69)), (lset4_bx (l := []) (Bx.of_below hb4.out (Nat.le_refl _)) (.inr (Nat.le_refl _)) _ _ _ _).below (Nat.le_refl _) (fun _ h => by cases h)⟩
    exact AllReadyH.nil
  case rest =>
    obtain ⟨q, _, _, _, _, ⟨k1, i1, e1, k2, i2, e2, k3, i3, e3, k4, i4, e4, rfl, rfl, rfl, rfl⟩, rfl, rfl, hq, hQs, hBc⟩ := hcut
    have HQs := Lib.hid hQs
    have HBc := Lib.hid hBc
    have x5 := x2.on hBc
    have hBw : Hid (Below p3 w wc) := HB1.out.trans (hBc.mono (by have := x2.lt; omega))
    have HKw : Hid (∀ t, Kt t w wc) := fun t => .of_below (by rw [HP3.out]; exact hBw.out)
    clear hQs hBc
    by_cases he : ee = 0
    · have he' := HEv.out
      rw [if_pos he] at he'
      subst he'
      have h5 := x5.2
      have HR := Lib.hid (HH.out.2.2.2 he)
      have cS : Hid (∀ W4, Below wc.heap.size wc W4 → Calls Tryz.prog 16 #[.pointer (some ⟨p, 0, none⟩)] W4 fun e w' => e = .returned (.bool (lf == 0)) ∧ Bx W4.heap.size [p] W4 w' ∧ w'.heap[p]? = some (.cells (lgC vk0 vb0 vk vb vn vt vy sf (lfN lf) (lf == 0)) 72 (0, 0))) := fun W4 h4 => stops_any ((h4.block p x5.lt.1).trans x5.1) hl hu
      have HBS : Hid (base ≤ wc.heap.size ∧ True) := Lib.hid ⟨by have := x5.lt.1; omega, trivial⟩
      have hbp3 : base ≤ p3 := by have := HP3.out; have := HH.out.2.2.1; omega
      have HBb : Hid (Below base w wc) := hBw.out.mono hbp3
      have hne : ¬ q = p := fun e => by subst e; rw [x5.1] at hq; simp at hq
      have hwd : w.heap.size ≤ wc.heap.size := hBw.out.size
      have hbw : base ≤ wc.heap.size := by have := x5.lt.1; omega
      have HDA : Hid (∀ W4 W5 g c5, Below wc.heap.size wc W4 → Bx W4.heap.size [p] W4 W5 → W5.heap[p]? = some (.cells (lgC vk0 vb0 vk vb vn vt vy sf (lfN lf) (lf == 0)) 72 (0, 0)) → W4.ownsRow wc.heap.size 5 1 (.slice (some ⟨g, 0, none⟩) r.length c5) r.length (Lib.byteCells r) → ∀ m, 0 < m → m ≤ r.length → _) := Lib.hid fun W4 W5 g c5 q1 q2 q3 q4 m h0 h1 => by
        have hp4 := (q1.block p x5.lt.1).trans x5.1
        have hk4 : ∀ t, t ≠ 72 → Kt t wc W5 := fun t ht => (Kt.of_below q1).trans (lkt_bx q2 hp4 (Ne.symm ht))
        have hs4 := q1.size
        have hs5 := q2.size
        exact do_app (w := wc) (W5 := W5) hbp (((q1.mono hbw).trans (q2.below (B' := base) (by omega) (fun x hx => by simp only [List.mem_singleton] at hx; omega)))) (fun t h _ => hk4 t h) (by omega) q3 ((hk4 69 (by decide)).2 q _ hq) (own_kt (own_kt HH.out.2.1 (HKw.out 5)) (hk4 5 (by decide))) (own_kt q4 (lkt_bx q2 hp4 (by decide))) hz m h0 h1
      have HBS : Hid (base ≤ wc.heap.size ∧ True) := Lib.hid ⟨by have := x5.lt.1; omega, trivial⟩
      by_cases h0 : lf = 0
      · subst h0
        obtain ⟨hf, hhf⟩ : ∃ hf, hf = r.length / 2 := ⟨_, rfl⟩
        have hf0 : 0 < hf := by omega
        have hf1 : hf ≤ r.length := by omega
        have hfi : (0 : Int) ≤ (hf : Int) := by omega
        have hW : IntKind.i64.wrap ((r.length : Int) / 2) = (hf : Int) := by
          have e : ((r.length : Int) / 2) = (hf : Int) := by omega
          rw [e]
          rw [IntKind.wrap_i64]; omega
        have hfc : ∀ c5 : Nat, r.length ≤ c5 → (hf : Int) ≤ (c5 : Int) := fun c5 h => by omega
        have hfd : ∀ c5 : Nat, r.length ≤ c5 → hf ≤ c5 := fun c5 h => by omega
        have HHf := Lib.hid hhf
        clear hhf
        go_wp2_with (first
          | (refine wpList_load_row rfl 75 (.tmp 3) rfl p3 (by simp [Act.eval, Act.put]) 75 cs (0, 0) _ h5 Tryz.underlying75 rfl (by rw [hcs]; exact info75) ?_)
          | (go_at_call 21; refine (HR.out _ hBw.out).mono ?_; rintro e W4 ⟨v4, rfl, hv4, hB4⟩; obtain ⟨g, c5, rfl, hc5, _⟩ := ap_part (own_kt (own_kt HH.out.2.1 (HKw.out 5)) (.of_below hB4)) (Nat.le_trans HBS.out.1 hB4.size) hv4 (by omega) hz; have HV4 := Lib.hid hv4; have hb4 := Lib.hid hB4; clear hv4 hB4)
          | (go_at_call 16; refine (cS.out _ hb4.out).mono ?_; rintro e W5 ⟨rfl, hx5, hp5⟩; have HA5 := Lib.hid (HDA.out W4 W5.drew g c5 hb4.out (bx_drew hx5) hp5 HV4.out hf hf0 hf1); have HP5 := Lib.hid hp5; have kc1 := hfc _ hc5; have kc2 := hfd _ hc5; have y6 : W5.cell? ⟨p, 6, none⟩ = some vy := cell_at hp5 rfl; have z6 : W5.frozen? ⟨p, 6, none⟩ = false := frz_at hp5; clear hx5 hp5)
          | fail)
        go_region_law (refine step_append_T rfl (.tmp 33) (.tmp 38) 70 70 rfl vy (.slice (some ⟨g, 0, none⟩) hf c5) (by simp [Act.eval, Act.put]) (by simp [Act.eval, Act.put]) HA5.out ?_; rintro v2 w2 ⟨⟨a2, n2, d2, rfl⟩, hb2, hq2⟩; have m0 : w2.cell? ⟨p, 6, none⟩ = some vy := cell_at hb2 rfl; have m1 : w2.frozen? ⟨p, 6, none⟩ = false := frz_at hb2; have HQ2 := Lib.hid hq2; clear hq2 hb2)
        all_goals
          go_wp2
          go_ret
          obtain ⟨_, q1, q2, q3, q4⟩ := HQ2.out
          rw [HHf.out] at q3
          refine ⟨HBb.out.trans q1, fun t h h5 => (HKw.out t).trans (q2 t h h5), ?_⟩
          rw [if_neg (by decide), if_neg (fun h => h he)]
          refine ⟨.slice a2 n2 d2, ?_⟩
          rw [if_pos rfl]
          exact ⟨rfl, q4, q3⟩
      · go_wp2_with (first
          | (refine wpList_load_row rfl 75 (.tmp 3) rfl p3 (by simp [Act.eval, Act.put]) 75 cs (0, 0) _ h5 Tryz.underlying75 rfl (by rw [hcs]; exact info75) ?_)
          | (go_at_call 21; refine (HR.out _ hBw.out).mono ?_; rintro e W4 ⟨v4, rfl, hv4, hB4⟩; obtain ⟨g, c5, rfl, _⟩ := ap_part (own_kt (own_kt HH.out.2.1 (HKw.out 5)) (.of_below hB4)) (Nat.le_trans HBS.out.1 hB4.size) hv4 (by omega) hz; have HV4 := Lib.hid hv4; have hb4 := Lib.hid hB4; clear hv4 hB4)
          | (go_at_call 16; refine (cS.out _ hb4.out).mono ?_; rintro e W5 ⟨rfl, hx5, hp5⟩; have HA5 := Lib.hid (HDA.out W4 W5 g c5 hb4.out hx5 hp5 HV4.out r.length (by omega) (Nat.le_refl _)); have HP5 := Lib.hid hp5; have y6 : W5.cell? ⟨p, 6, none⟩ = some vy := cell_at hp5 rfl; have z6 : W5.frozen? ⟨p, 6, none⟩ = false := frz_at hp5; clear hx5 hp5)
          | (at_builtin; refine wpList_append_T rfl (.tmp 47) (.tmp 48) 70 70 rfl vy (.slice (some ⟨g, 0, none⟩) r.length c5) rfl rfl HA5.out ?_; rintro v2 w2 ⟨⟨a2, n2, d2, rfl⟩, hb2, hq2⟩; have m0 : w2.cell? ⟨p, 6, none⟩ = some vy := cell_at hb2 rfl; have m1 : w2.frozen? ⟨p, 6, none⟩ = false := frz_at hb2; have m20 : ∃ v, w2.cell? ⟨p, 2, none⟩ = some v := ⟨_, cell_at hb2 rfl⟩; obtain ⟨m50, m20⟩ := m20; have m30 : w2.frozen? ⟨p, 2, none⟩ = false := frz_at hb2; have m21 : ∃ v, w2.cell? ⟨p, 3, none⟩ = some v := ⟨_, cell_at hb2 rfl⟩; obtain ⟨m51, m21⟩ := m21; have m31 : w2.frozen? ⟨p, 3, none⟩ = false := frz_at hb2; have m22 : ∃ v, w2.cell? ⟨p, 4, none⟩ = some v := ⟨_, cell_at hb2 rfl⟩; obtain ⟨m52, m22⟩ := m22; have m32 : w2.frozen? ⟨p, 4, none⟩ = false := frz_at hb2; have m23 : ∃ v, w2.cell? ⟨p, 5, none⟩ = some v := ⟨_, cell_at hb2 rfl⟩; obtain ⟨m53, m23⟩ := m23; have m33 : w2.frozen? ⟨p, 5, none⟩ = false := frz_at hb2; have m40 : w2.cell? ⟨q, 0, none⟩ = some (.slice k1 i1 e1) := cell_at hq2.1 rfl; have m41 : w2.cell? ⟨q, 1, none⟩ = some (.slice k2 i2 e2) := cell_at hq2.1 rfl; have m42 : w2.cell? ⟨q, 2, none⟩ = some (.slice k3 i3 e3) := cell_at hq2.1 rfl; have m43 : w2.cell? ⟨q, 3, none⟩ = some (.slice k4 i4 e4) := cell_at hq2.1 rfl; have HB2 := Lib.hid hb2; have HQ2 := Lib.hid hq2; clear hq2 hb2)
          | fail)
        go_ret
        obtain ⟨_, q1, q2, q3, q4⟩ := HQ2.out
        have s2 := heap_setCell_same _ p 2 _ 72 (.slice k1 i1 e1) q4
        have s3 := heap_setCell_same _ p 3 _ 72 (.slice k2 i2 e2) s2
        have s4 := heap_setCell_same _ p 4 _ 72 (.slice k3 i3 e3) s3
        have s5 := heap_setCell_same _ p 5 _ 72 (.slice k4 i4 e4) s4
        have kk : ∀ t, t ≠ 72 → Kt t (w2.setCell ⟨p, 6, none⟩ (.slice a2 n2 d2)) ((((((w2.setCell ⟨p, 6, none⟩ (.slice a2 n2 d2)).setCell ⟨p, 2, none⟩ (.slice k1 i1 e1)).setCell ⟨p, 3, none⟩ (.slice k2 i2 e2)).setCell ⟨p, 4, none⟩ (.slice k3 i3 e3)).setCell ⟨p, 5, none⟩ (.slice k4 i4 e4))) := fun t ht =>
          ((((Kt.refl _ _).ty ⟨_, q4⟩ (Ne.symm ht) _ _).ty ⟨_, s2⟩ (Ne.symm ht) _ _).ty ⟨_, s3⟩ (Ne.symm ht) _ _).ty ⟨_, s4⟩ (Ne.symm ht) _ _
        refine ⟨HBb.out.trans ((((q1.setCell hbp _).setCell hbp _).setCell hbp _).setCell hbp _), fun t h h5 => ((HKw.out t).trans (q2 t h h5)).trans (kk t h), ?_⟩
        rw [if_neg (by decide), if_neg (fun h => h he)]
        refine ⟨.slice a2 n2 d2, ?_⟩
        rw [if_neg h0]
        have hl0 : (lf == 0) = false := by simpa using h0
        rw [List.take_length] at q3
        rw [hl0] at s5
        exact ⟨_, _, _, _, rfl, s5, HQ.out _ _ _ _ _ _ (HQs.out he) (fun t _ h h5 => (q2 t h h5).trans (kk t h)), own_kt q3 (kk 5 (by decide))⟩
    · have he' := HEv.out
      rw [if_neg he] at he'
      subst he'
      go_wp2
      go_ret
      refine ⟨hBw.out.mono (by have := HP3.out; have := HH.out.2.2.1; omega), fun t _ _ => HKw.out t, ?_⟩
      rw [if_neg (by decide), if_pos he]
      exact ⟨rfl, x5.1, own_kt HH.out.2.1 (HKw.out 5)⟩
end Go.Proofs.YtahamkajkkkjdaaGreatDoor
