/-
  The walks of path.checkWay, checkStep and Check.
-/
import Derived.Test.YtifcpjimhhpcpaaGreatDoorM26
import Derived.Deep.RegionWith
namespace Go.Proofs.YtifcpjimhhpcpaaGreatDoor
open Go.RowKit
set_option linter.unusedVariables false
set_option linter.unusedSimpArgs false

/-- What a schema and a step lie in, behind the head of a function. -/
structure Hd (w : World) (ak : Option Addr) (lk ck : Nat) (ab : Option Addr) (lb cb : Nat) (p : Sp) (at' : Option Addr) (lt ct : Nat) (W : World) : Prop where
  b : Below w.heap.size w W
  s0 : W.cell? ⟨w.heap.size, 0, none⟩ = some (.slice ak lk ck)
  s1 : W.cell? ⟨w.heap.size, 1, none⟩ = some (.slice ab lb cb)
  p0 : W.cell? ⟨w.heap.size + 1, 0, none⟩ = some (.string (bs p.bd))
  p1 : W.cell? ⟨w.heap.size + 1, 1, none⟩ = some (.bool p.back)
  p2 : W.cell? ⟨w.heap.size + 1, 2, none⟩ = some (.string (bs p.kd))
  p3 : W.cell? ⟨w.heap.size + 1, 3, none⟩ = some (.slice at' lt ct)
  z : w.heap.size + 1 < W.heap.size
theorem Hd.on {w : World} {ak : Option Addr} {lk ck : Nat} {ab : Option Addr} {lb cb : Nat} {p : Sp} {at' : Option Addr} {lt ct : Nat} {W W' : World} (h : Hd w ak lk ck ab lb cb p at' lt ct W) (hB : Below W.heap.size W W') : Hd w ak lk ck ab lb cb p at' lt ct W' :=
  ⟨on1 h.b hB, (hB.cell (p := ⟨w.heap.size, 0, none⟩) (by have := h.z; show w.heap.size < _; omega)).trans h.s0, (hB.cell (p := ⟨w.heap.size, 1, none⟩) (by have := h.z; show w.heap.size < _; omega)).trans h.s1, (hB.cell (p := ⟨w.heap.size + 1, 0, none⟩) h.z).trans h.p0, (hB.cell (p := ⟨w.heap.size + 1, 1, none⟩) h.z).trans h.p1, (hB.cell (p := ⟨w.heap.size + 1, 2, none⟩) h.z).trans h.p2, (hB.cell (p := ⟨w.heap.size + 1, 3, none⟩) h.z).trans h.p3, Nat.lt_of_lt_of_le h.z hB.size⟩
theorem hd_new (w : World) (ak : Option Addr) (lk ck : Nat) (ab : Option Addr) (lb cb : Nat) (p : Sp) (at' : Option Addr) (lt ct : Nat) :
    Hd w ak lk ck ab lb cb p at' lt ct (box2 w #[.slice ak lk ck, .slice ab lb cb] 25 #[.string (bs p.bd), .bool p.back, .string (bs p.kd), .slice at' lt ct] 46) :=
  ⟨box2_below _ _ _ _ _, box2_a _ _ _ _ _ rfl, box2_a _ _ _ _ _ rfl, box2_b _ _ _ _ _ rfl, box2_b _ _ _ _ _ rfl, box2_b _ _ _ _ _ rfl, box2_b _ _ _ _ _ rfl, by rw [box2_size]; omega⟩
/-- The last of some steps that lie there. -/
theorem lies_last {w : World} {b off : Nat} {A : List Sp} {q : Sp} (h : LiesSp w b off A) (hq : A.getLast? = some q) : 0 < A.length ∧ A[A.length - 1]? = some q ∧ w.cell? ⟨b, off + (A.length - 1) * 4 + 2, none⟩ = some (.string (bs q.kd)) := by
  have hne : A ≠ [] := fun e => by rw [e] at hq; cases hq
  have h0 : 0 < A.length := List.length_pos_iff.2 hne
  have h1 : A[A.length - 1]? = some q := by rw [← hq, List.getLast?_eq_getElem?]
  exact ⟨h0, h1, (h _ _ h1).1.2.2.1⟩
theorem endA_bs (b : Bool) (x y : Nm) : endA b (bs x) (bs y) = bs (endA b x y) := by cases b <;> rfl

set_option maxHeartbeats 4000000 in
set_option maxRecDepth 100000 in
theorem way_first {vs vt : Value} {L : List Kd} {B : List Bd} {w : World} (hs : IsSc w vs L B) (ao : Option Addr) (c : Nat) (p : Sp) (hp : IsTs w p.vt p.ts) :
    Calls Tryz.prog 56 #[vs, .slice ao 0 c, p.one] w fun e w' => e = .returned (errV (wayE L B none p)) ∧ Below w.heap.size w w' := by
  obtain ⟨vk, vb, rfl, hK, hP, hz, hb, hzb⟩ := hs
  obtain ⟨ak, ck, rfl, _⟩ := hK.sln
  obtain ⟨ab, cb, rfl, _⟩ := hb.sln
  obtain ⟨bd, back, kd, vt, ts⟩ := p
  obtain ⟨at', ct, hv⟩ := hp.sl
  simp only at hv
  subst hv
  have hd := hd_new w ak L.length ck ab B.length cb ⟨bd, back, kd, .slice at' ts.length ct, ts⟩ at' ts.length ct
  obtain ⟨W0, hW0⟩ : ∃ W0, W0 = box2 w #[.slice ak L.length ck, .slice ab B.length cb] 25 #[.string (bs bd), .bool back, .string (bs kd), .slice at' ts.length ct] 46 := ⟨_, rfl⟩
  simp only at hd
  rw [← hW0] at hd
  have k0 := hd.p0
  have k1 := hd.p1
  have HB : Hid (Below w.heap.size w W0) := hd.b
  clear hd hK hP hz hb hzb hp
  simp only at k0 k1
  by_cases h1 : bd = []
  · have e1 : ((bs bd).toList != []) = false := by rw [bs_toList, h1]; rfl
    cases back
    · have he : wayE L B none ⟨bd, false, kd, .slice at' ts.length ct, ts⟩ = 0 := by unfold wayE; simp only; rw [if_pos ⟨h1, trivial⟩]
      rw [he, errV_0]
      subst h1
      clear he
      go_enter Tryz.func56, Tryz.ntmps56
      go_upto_region 1 with fail
      unfold box2 at hW0
      rw [← hW0]
      clear hW0
      go_wp2
      go_ret
      exact ⟨rfl, HB.out⟩
    · have he : wayE L B none ⟨bd, true, kd, .slice at' ts.length ct, ts⟩ = 3 := by unfold wayE; simp
      rw [he]
      subst h1
      clear he
      go_enter Tryz.func56, Tryz.ntmps56
      go_upto_region 1 with fail
      unfold box2 at hW0
      rw [← hW0]
      clear hW0
      go_wp2
      go_ret
      exact ⟨rfl, HB.out⟩
  · have he : wayE L B none ⟨bd, back, kd, .slice at' ts.length ct, ts⟩ = 3 := by unfold wayE; simp [h1]
    rw [he]
    have e1 : (bs bd).toList.isEmpty = false := by rw [bs_toList]; simpa using h1
    have e2 : ¬ (bs bd).toList = [] := by rw [bs_toList]; exact h1
    clear he
    go_enter Tryz.func56, Tryz.ntmps56
    go_upto_region 1 with fail
    unfold box2 at hW0
    rw [← hW0]
    clear hW0
    go_wp2
    go_ret
    exact ⟨rfl, HB.out⟩

set_option maxHeartbeats 8000000 in
set_option maxRecDepth 100000 in
theorem way_next {vs : Value} {L : List Kd} {B : List Bd} {w : World} (hs : IsSc w vs L B) (b off c : Nat) (A : List Sp) (q : Sp) (hb0 : b < w.heap.size) (hA : LiesSp w b off A) (hq : A.getLast? = some q) (hA6 : A.length ≤ 6) (p : Sp) (hp : IsTs w p.vt p.ts) :
    Calls Tryz.prog 56 #[vs, .slice (some ⟨b, off, none⟩) A.length c, p.one] w fun e w' => e = .returned (errV (wayE L B (some q) p)) ∧ Below w.heap.size w w' := by
  obtain ⟨vk, vb, rfl, hK, hP, hz, hb, hzb⟩ := hs
  have HS : Hid (IsK w vk L ∧ Parts w L ∧ IsB w vb B) := ⟨hK, hP, hb⟩
  obtain ⟨ak, ck, rfl, _⟩ := hK.sln
  obtain ⟨ab, cb, rfl, _⟩ := hb.sln
  obtain ⟨bd, back, kd, vt, ts⟩ := p
  obtain ⟨at', ct, hv⟩ := hp.sl
  simp only at hv
  subst hv
  obtain ⟨hl0, _, hlc⟩ := lies_last hA hq
  have hd := hd_new w ak L.length ck ab B.length cb ⟨bd, back, kd, .slice at' ts.length ct, ts⟩ at' ts.length ct
  obtain ⟨W0, hW0⟩ : ∃ W0, W0 = box2 w #[.slice ak L.length ck, .slice ab B.length cb] 25 #[.string (bs bd), .bool back, .string (bs kd), .slice at' ts.length ct] 46 := ⟨_, rfl⟩
  simp only at hd
  rw [← hW0] at hd
  have HD := Lib.hid hd
  have cB := sbond_any bd (HS.out.1.on hd.b) (HS.out.2.1.on hd.b) hz (HS.out.2.2.on hd.b) hzb
  have HI : Hid (∀ W x y, Below w.heap.size w W → Calls Tryz.prog 83 #[.slice ak L.length ck, .string (bs x), .string (bs y)] W fun e w' => e = .returned (.bool (isKin L x y)) ∧ Below W.heap.size W w') := fun W x y hW => isKin_any (HS.out.1.on hW) (HS.out.2.1.on hW) hz x y
  have HL : Hid (∀ W, Below w.heap.size w W → W.cell? ⟨b, off + (A.length - 1) * 4 + 2, none⟩ = some (.string (bs q.kd))) := fun W hW => (hW.cell (p := ⟨b, off + (A.length - 1) * 4 + 2, none⟩) hb0).trans hlc
  obtain ⟨m, hm⟩ : ∃ m, A.length = m + 1 := ⟨A.length - 1, by omega⟩
  rw [hm] at HL ⊢
  simp only [Nat.add_sub_cancel] at HL
  have hm6 : m < 6 := by omega
  have k0 := hd.p0
  have k1 := hd.p1
  have k3 := hd.s0
  have k4 := hd.s1
  simp only at k0 k1 k3 k4
  have hm1 : ¬ ((m : Int) + 1 = 0) := by omega
  clear hK hP hz hb hzb hp hA hq hlc hl0 hA6 hm hd
  by_cases h1 : (bdTell L B bd).2 = 0
  · rw [h1, errV_0] at cB
    obtain ⟨x, hx⟩ : ∃ x, (bdTell L B bd).1 = x := ⟨_, rfl⟩
    rw [hx] at cB
    have hw : wayE L B (some q) ⟨bd, back, kd, .slice at' ts.length ct, ts⟩ = if (isKin L q.kd (endA back x.fr x.tt) && isKin L kd (endA back x.tt x.fr)) = true then 0 else 8 := by
      unfold wayE; simp only; rw [if_pos h1, hx]
    rw [hw]
    clear hw hx h1
    obtain ⟨xn, xf, xt, xm, xx⟩ := x
    simp only at cB ⊢
    have cT := fun W => turnS_any back (bs xf) (bs xt) W
    simp only [endA_bs] at cT
    generalize endA back xf xt = ea at cT ⊢
    generalize endA back xt xf = eb at cT ⊢
    by_cases h2 : isKin L q.kd ea = true
    · by_cases h3 : isKin L kd eb = true
      · rw [h2, h3, Bool.and_true, if_pos rfl, errV_0]
        go_enter Tryz.func56, Tryz.ntmps56
        go_upto_region 1 with fail
        unfold box2 at hW0
        rw [← hW0]
        clear hW0
        go_wp2_with (first
          | (go_at_call 81; refine cB.mono ?_; rintro e W1 ⟨rfl, hB1⟩; refine Hid.out ?_))
        refine Lib.hid ?_
        obtain ⟨W2, hW2⟩ : ∃ W2, W2 = W1.alloc (.cells #[.string (bs xn), .string (bs xf), .string (bs xt), .int .i64 xm, .int .i64 xx] 118) := ⟨_, rfl⟩
        have hB2 : Below W1.heap.size W1 W2 := by rw [hW2]; exact b_alloc (Below.refl _ _) _
        have n2 : W2.heap[W1.heap.size]? = some (.cells #[.string (bs xn), .string (bs xf), .string (bs xt), .int .i64 xm, .int .i64 xx] 118 (0, 0)) := by rw [hW2]; exact heap_alloc_new W1 _
        have hd2 := HD.out.on (on1K hB1 hB2 (Nat.le_refl _))
        have j1 : W2.cell? ⟨W1.heap.size, 1, none⟩ = some (.string (bs xf)) := cell_at n2 rfl
        have j2 : W2.cell? ⟨W1.heap.size, 2, none⟩ = some (.string (bs xt)) := cell_at n2 rfl
        have r1 := hd2.p1
        have r2 := hd2.p2
        have r3 := hd2.s0
        have r4 := HL.out W2 hd2.b
        have cI := HI.out W2 q.kd ea hd2.b
        rw [h2] at cI
        simp only at r1 r2 r3
        have HD2 := Lib.hid hd2
        clear cB k0 k1 k3 k4 hB1 hB2 n2 hd2
        go_upto_region 6 with fail
        rw [← hW2]
        clear hW2
        go_wp2_with (first
          | (go_at_call 83; have hq := HB3; refine cJ.mono ?_; rintro e W4 ⟨rfl, hB4⟩; have HB4 := Lib.hid hB4; clear hB4 hq)
          | (go_at_call 82; refine (cT _).mono ?_; rintro e W9 ⟨rfl, hW9⟩; subst hW9)
          | (go_at_call 83; refine cI.mono ?_; rintro e W3 ⟨rfl, hB3⟩; have hd3 := HD2.out.on hB3; have cJ := HI.out W3 kd eb hd3.b; rw [h3] at cJ; have t2 := hd3.p2; have t3 := hd3.s0; simp only at t2 t3; have HB3 := Lib.hid hd3.b; clear hd3 hB3))
        go_ret
        exact ⟨rfl, on1 HB3.out HB4.out⟩
      · have h3' : isKin L kd eb = false := by simpa using h3
        rw [h2, h3', Bool.and_false, if_neg Bool.false_ne_true]
        go_enter Tryz.func56, Tryz.ntmps56
        go_upto_region 1 with fail
        unfold box2 at hW0
        rw [← hW0]
        clear hW0
        go_wp2_with (first
          | (go_at_call 81; refine cB.mono ?_; rintro e W1 ⟨rfl, hB1⟩; refine Hid.out ?_))
        refine Lib.hid ?_
        obtain ⟨W2, hW2⟩ : ∃ W2, W2 = W1.alloc (.cells #[.string (bs xn), .string (bs xf), .string (bs xt), .int .i64 xm, .int .i64 xx] 118) := ⟨_, rfl⟩
        have hB2 : Below W1.heap.size W1 W2 := by rw [hW2]; exact b_alloc (Below.refl _ _) _
        have n2 : W2.heap[W1.heap.size]? = some (.cells #[.string (bs xn), .string (bs xf), .string (bs xt), .int .i64 xm, .int .i64 xx] 118 (0, 0)) := by rw [hW2]; exact heap_alloc_new W1 _
        have hd2 := HD.out.on (on1K hB1 hB2 (Nat.le_refl _))
        have j1 : W2.cell? ⟨W1.heap.size, 1, none⟩ = some (.string (bs xf)) := cell_at n2 rfl
        have j2 : W2.cell? ⟨W1.heap.size, 2, none⟩ = some (.string (bs xt)) := cell_at n2 rfl
        have r1 := hd2.p1
        have r2 := hd2.p2
        have r3 := hd2.s0
        have r4 := HL.out W2 hd2.b
        have cI := HI.out W2 q.kd ea hd2.b
        rw [h2] at cI
        simp only at r1 r2 r3
        have HD2 := Lib.hid hd2
        clear cB k0 k1 k3 k4 hB1 hB2 n2 hd2
        go_upto_region 6 with fail
        rw [← hW2]
        clear hW2
        go_wp2_with (first
          | (go_at_call 83; have hq := HB3; refine cJ.mono ?_; rintro e W4 ⟨rfl, hB4⟩; have HB4 := Lib.hid hB4; clear hB4 hq)
          | (go_at_call 82; refine (cT _).mono ?_; rintro e W9 ⟨rfl, hW9⟩; subst hW9)
          | (go_at_call 83; refine cI.mono ?_; rintro e W3 ⟨rfl, hB3⟩; have hd3 := HD2.out.on hB3; have cJ := HI.out W3 kd eb hd3.b; rw [h3'] at cJ; have t2 := hd3.p2; have t3 := hd3.s0; simp only at t2 t3; have HB3 := Lib.hid hd3.b; clear hd3 hB3))
        go_ret
        exact ⟨rfl, on1 HB3.out HB4.out⟩
    · have h2' : isKin L q.kd ea = false := by simpa using h2
      rw [h2', Bool.false_and, if_neg Bool.false_ne_true]
      go_enter Tryz.func56, Tryz.ntmps56
      go_upto_region 1 with fail
      unfold box2 at hW0
      rw [← hW0]
      clear hW0
      go_wp2_with (first
        | (go_at_call 81; refine cB.mono ?_; rintro e W1 ⟨rfl, hB1⟩; refine Hid.out ?_))
      refine Lib.hid ?_
      obtain ⟨W2, hW2⟩ : ∃ W2, W2 = W1.alloc (.cells #[.string (bs xn), .string (bs xf), .string (bs xt), .int .i64 xm, .int .i64 xx] 118) := ⟨_, rfl⟩
      have hB2 : Below W1.heap.size W1 W2 := by rw [hW2]; exact b_alloc (Below.refl _ _) _
      have n2 : W2.heap[W1.heap.size]? = some (.cells #[.string (bs xn), .string (bs xf), .string (bs xt), .int .i64 xm, .int .i64 xx] 118 (0, 0)) := by rw [hW2]; exact heap_alloc_new W1 _
      have hd2 := HD.out.on (on1K hB1 hB2 (Nat.le_refl _))
      have j1 : W2.cell? ⟨W1.heap.size, 1, none⟩ = some (.string (bs xf)) := cell_at n2 rfl
      have j2 : W2.cell? ⟨W1.heap.size, 2, none⟩ = some (.string (bs xt)) := cell_at n2 rfl
      have r1 := hd2.p1
      have r2 := hd2.p2
      have r3 := hd2.s0
      have r4 := HL.out W2 hd2.b
      have cI := HI.out W2 q.kd ea hd2.b
      rw [h2'] at cI
      simp only at r1 r2 r3
      have HD2 := Lib.hid hd2
      clear cB k0 k1 k3 k4 hB1 hB2 n2 hd2
      go_upto_region 6 with fail
      rw [← hW2]
      clear hW2
      go_wp2_with (first
        | (go_at_call 82; refine (cT _).mono ?_; rintro e W9 ⟨rfl, hW9⟩; subst hW9)
        | (go_at_call 83; refine cI.mono ?_; rintro e W3 ⟨rfl, hB3⟩; have HB3 := Lib.hid (on1 HD2.out.b hB3); clear hB3))
      go_ret
      exact ⟨rfl, HB3.out⟩
  · have hw : wayE L B (some q) ⟨bd, back, kd, .slice at' ts.length ct, ts⟩ = (bdTell L B bd).2 := by unfold wayE; simp only; rw [if_neg h1]
    rw [hw, errV_ne h1]
    rw [errV_ne h1] at cB
    generalize (bdTell L B bd).2 = z at cB
    obtain ⟨x, hx⟩ : ∃ x, (bdTell L B bd).1 = x := ⟨_, rfl⟩
    rw [hx] at cB
    clear hw hx h1
    obtain ⟨xn, xf, xt, xm, xx⟩ := x
    go_enter Tryz.func56, Tryz.ntmps56
    go_upto_region 1 with fail
    unfold box2 at hW0
    rw [← hW0]
    clear hW0
    go_wp2_with (first
      | (go_at_call 81; refine cB.mono ?_; rintro e W1 ⟨rfl, hB1⟩; have HB1 := Lib.hid (on1 HD.out.b hB1); clear hB1))
    go_ret
    exact ⟨rfl, b_alloc HB1.out _⟩
end Go.Proofs.YtifcpjimhhpcpaaGreatDoor

/-
  The walks of path.checkStep and Check.
-/
namespace Go.Proofs.YtifcpjimhhpcpaaGreatDoor
open Go.RowKit
set_option linter.unusedVariables false
set_option linter.unusedSimpArgs false

/-- The steps ahead, as they are handed on. -/
def Ahd (w : World) (v : Value) (o : Option Sp) : Prop := match o with
  | none => ∃ ao c, v = .slice ao 0 c
  | some q => ∃ b off A c, v = .slice (some ⟨b, off, none⟩) A.length c ∧ b < w.heap.size ∧ LiesSp w b off A ∧ A.getLast? = some q ∧ A.length ≤ 6
theorem Ahd.on {w w' : World} {v : Value} {o : Option Sp} (h : Ahd w v o) (hB : Below w.heap.size w w') : Ahd w' v o := by
  cases o with
  | none => exact h
  | some q =>
    obtain ⟨b, off, A, c, rfl, hb, hL, hq, h6⟩ := h
    exact ⟨b, off, A, c, rfl, Nat.lt_of_lt_of_le hb hB.size, hL.on hb hB, hq, h6⟩
theorem Ahd.sl {w : World} {v : Value} {o : Option Sp} (h : Ahd w v o) : ∃ a l c, v = .slice a l c := by
  cases o with
  | none => obtain ⟨ao, c, rfl⟩ := h; exact ⟨_, _, _, rfl⟩
  | some q => obtain ⟨b, off, A, c, rfl, _⟩ := h; exact ⟨_, _, _, rfl⟩
theorem way_any {vs va : Value} {L : List Kd} {B : List Bd} {w : World} (hs : IsSc w vs L B) {o : Option Sp} (ha : Ahd w va o) (p : Sp) (hp : IsTs w p.vt p.ts) :
    Calls Tryz.prog 56 #[vs, va, p.one] w fun e w' => e = .returned (errV (wayE L B o p)) ∧ Below w.heap.size w w' := by
  cases o with
  | none => obtain ⟨ao, c, rfl⟩ := ha; exact way_first (vt := .nilIface) hs ao c p hp
  | some q => obtain ⟨b, off, A, c, rfl, hb, hL, hq, h6⟩ := ha; exact way_next hs b off c A q hb hL hq h6 p hp

theorem tsE_drop {F : List Fd} {ts : List Tst} {k : Nat} {x : Tst} (hx : ts[k]? = some x) (h : tstE F x = 0) (e : tsE F ts = tsE F (ts.drop k)) : tsE F ts = tsE F (ts.drop (k + 1)) := by
  rw [e, dropK hx]; conv => lhs; unfold tsE
  rw [if_pos h]
theorem tsE_stop {F : List Fd} {ts : List Tst} {k : Nat} {x : Tst} (hx : ts[k]? = some x) (h : ¬ tstE F x = 0) (e : tsE F ts = tsE F (ts.drop k)) : tsE F ts = tstE F x := by
  rw [e, dropK hx]; conv => lhs; unfold tsE
  rw [if_neg h]

set_option maxHeartbeats 8000000 in
set_option maxRecDepth 100000 in
theorem step_any {vs va : Value} {L : List Kd} {B : List Bd} {w : World} (hs : IsSc w vs L B) {o : Option Sp} (ha : Ahd w va o) (p : Sp) (hp : IsTs w p.vt p.ts) (hz : SpSz p) :
    Calls Tryz.prog 30 #[vs, va, p.one] w fun e w' => e = .returned (errV (spE L B o p)) ∧ Below w.heap.size w w' := by
  have HP : Hid (IsSc w vs L B ∧ Ahd w va o ∧ IsTs w p.vt p.ts) := ⟨hs, ha, hp⟩
  have HW : Hid (∀ W, Below w.heap.size w W → Calls Tryz.prog 56 #[vs, va, p.one] W fun e w' => e = .returned (errV (wayE L B o p)) ∧ Below W.heap.size W w') := fun W hW => way_any (HP.out.1.on hW) (HP.out.2.1.on hW) p (HP.out.2.2.on hW)
  have HZ : Hid (SpSz p) := hz
  obtain ⟨vk, vb, rfl, hK, hPt, hzk, hb, hzb⟩ := hs
  have HK : Hid (∀ W, Below w.heap.size w W → Calls Tryz.prog 55 #[vk, .string (bs p.kd)] W (FsPost W L p.kd)) := fun W hW => fields_any (hK.on hW) (hPt.on hW) hzk p.kd
  obtain ⟨ak, ck, rfl, _⟩ := hK.sln
  obtain ⟨ab, cb, rfl, _⟩ := hb.sln
  obtain ⟨aa, la, ca, rfl⟩ := ha.sl
  have hp' := hp
  obtain ⟨at', ct, hv, hts⟩ := hp'
  have hd := hd_new w ak L.length ck ab B.length cb p at' p.ts.length ct
  obtain ⟨W0, hW0⟩ : ∃ W0, W0 = box2 w #[.slice ak L.length ck, .slice ab B.length cb] 25 #[.string (bs p.bd), .bool p.back, .string (bs p.kd), .slice at' p.ts.length ct] 46 := ⟨_, rfl⟩
  rw [← hW0] at hd
  have HD := Lib.hid hd
  have HT : Hid (p.ts = [] ∨ ∃ b off, at' = some ⟨b, off, none⟩ ∧ b < w.heap.size ∧ LiesTs w b off p.ts) := hts
  obtain ⟨bd, back, kd, vt, ts⟩ := p
  simp only at hv HK HT HZ hW0 hts ⊢
  subst hv
  have k0 := hd.s0
  have k1 := hd.p2
  simp only at k0 k1
  have cF := HK.out W0 hd.b
  clear hK hPt hzk hb hzb hp ha hd hts hz HP
  unfold FsPost at cF
  by_cases h1 : nmErr L kd = 0
  · rw [h1, errV_0] at cF
    by_cases h2 : wayE L B o ⟨bd, back, kd, .slice at' ts.length ct, ts⟩ = 0
    · rw [h2, errV_0] at HW
      by_cases h3 : 8 < ts.length
      · have he : spE L B o ⟨bd, back, kd, .slice at' ts.length ct, ts⟩ = 4 := by unfold spE; simp only; rw [if_pos h1, if_pos h2, if_pos h3]
        rw [he]
        have hlm : ts.length ≤ maxLen := HZ.out.1
        unfold maxLen at hlm
        have h3i : (8 : Int) < (ts.length : Int) := by omega
        clear he h1 h2
        go_enter Tryz.func30, Tryz.ntmps30
        go_upto_region 1 with fail
        unfold box2 at hW0
        rw [← hW0]
        clear hW0
        go_wp2_with (first
          | (go_at_call 55; refine cF.mono ?_; rintro e W1 ⟨vf, rfl, _, _, hB1⟩; have hd1 := HD.out.on hB1; have cW := HW.out W1 hd1.b; have j0 := hd1.s0; have j1 := hd1.s1; have j2 := hd1.p0; have j3 := hd1.p1; have j4 := hd1.p2; have j5 := hd1.p3; simp only at j0 j1 j2 j3 j4 j5; have HD1 := Lib.hid hd1; clear hd1 hB1)
          | (go_at_call 56; refine cW.mono ?_; rintro e W2 ⟨rfl, hB2⟩; have hd2 := HD1.out.on hB2; have r5 := hd2.p3; have HB2 := Lib.hid hd2.b; clear hd2 hB2))
        go_ret
        exact ⟨rfl, HB2.out⟩
      · have he : spE L B o ⟨bd, back, kd, .slice at' ts.length ct, ts⟩ = tsE (fields L kd) ts := by unfold spE; simp only; rw [if_pos h1, if_pos h2, if_neg h3]
        rw [he]
        have h8 : ts.length ≤ 8 := by omega
        have h3i : ¬ (8 : Int) < (ts.length : Int) := by omega
        clear he h2 h3
        generalize fields L kd = F at cF ⊢
        go_enter Tryz.func30, Tryz.ntmps30
        go_upto_region 1 with fail
        unfold box2 at hW0
        rw [← hW0]
        clear hW0
        go_wp2_with (first
          | (go_at_call 55; refine cF.mono ?_; rintro e W1 ⟨vf, rfl, hf, _, hB1⟩; obtain ⟨ho, _, hf8⟩ := hf rfl; have HF := Lib.hid (And.intro ho hf8); have hd1 := HD.out.on hB1; have cW := HW.out W1 hd1.b; have j0 := hd1.s0; have j1 := hd1.s1; have j2 := hd1.p0; have j3 := hd1.p1; have j4 := hd1.p2; have j5 := hd1.p3; simp only at j0 j1 j2 j3 j4 j5; have HD1 := Lib.hid hd1; clear hd1 hB1 hf ho hf8)
          | (go_at_call 56; refine cW.mono ?_; rintro e W2 ⟨rfl, hB2⟩; have hd2 := HD1.out.on hB2; have r5 := hd2.p3; have HD2 := Lib.hid hd2; have HB2 := Lib.hid hB2; clear hd2 hB2))
        have HFW : Hid (IsF W2 vf F ∧ F.length ≤ 8) := ⟨(own_isF (HF.out.1)).on HB2.out, HF.out.2⟩
        clear cF cW j0 j1 j2 j3 j4 j5 k0 k1 HK HW HF h1
        go_loopw [39] (fun i wr => ∃ k : Nat, k ≤ ts.length ∧ i = .int .i64 k ∧ tsE F ts = tsE F (ts.drop k) ∧ Below W2.heap.size W2 wr) (fun i _ => ts.length - (intOf i).toNat)
        case atStart => exact ⟨0, Nat.zero_le _, rfl, rfl, Below.refl _ _⟩
        case round =>
          obtain ⟨k, hk, rfl, hi, hB⟩ := hrel
          have HI : Hid (tsE F ts = tsE F (ts.drop k)) := hi
          have hbw := (HD2.out.on hB).b
          by_cases hlt : k < ts.length
          · obtain ⟨x, hx⟩ : ∃ x, ts[k]? = some x := ⟨ts[k], by simp [hlt]⟩
            rcases HT.out with rfl | ⟨b, off, rfl, hb, hl⟩
            · exact absurd hlt (by simp)
            obtain ⟨e0, e1, e2, e3, e4⟩ := hl k x hx
            have d0 := (hbw.cell (p := ⟨b, off + k * 5, none⟩) hb).trans e0
            have d1 := (hbw.cell (p := ⟨b, off + k * 5 + 1, none⟩) hb).trans e1
            have d2 := (hbw.cell (p := ⟨b, off + k * 5 + 2, none⟩) hb).trans e2
            have d3 := (hbw.cell (p := ⟨b, off + k * 5 + 3, none⟩) hb).trans e3
            have d4 := (hbw.cell (p := ⟨b, off + k * 5 + 4, none⟩) hb).trans e4
            have hbr : b < wr.heap.size := Nat.lt_of_lt_of_le hb hbw.size
            have hbn : ¬ b = wr.heap.size := by omega
            have hBA : Below W2.heap.size W2 (wr.alloc (.cells #[.string x.nm, .int .i64 x.hw, .int .i64 x.t, .int .i64 x.n, .string x.s] 56)) := b_alloc hB _
            have cT := ctest_any (HFW.out.1.on hBA) HFW.out.2 x (HZ.out.2 x (List.mem_of_getElem? hx))
            have HX : Hid (ts[k]? = some x) := hx
            have HBA := Lib.hid hBA
            clear e0 e1 e2 e3 e4 hl hx hi hB hBA hbw
            by_cases h4 : tstE F x = 0
            · rw [h4, errV_0] at cT
              have H4 : Hid (tsE F ts = tsE F (ts.drop (k + 1))) := tsE_drop HX.out h4 HI.out
              clear h4
              go_wp2_with (first | (go_at_call 57; refine cT.mono ?_; rintro e W3 ⟨rfl, hB3⟩))
              go_roundw
              case rel => exact ⟨k + 1, by omega, by go_num, H4.out, on1K HBA.out hB3 (Nat.le_refl _)⟩
              case measure => simp [intOf]; omega
            · have H4 : Hid (tsE F ts = tstE F x ∧ ¬ tstE F x = 0) := ⟨tsE_stop HX.out h4 HI.out, h4⟩
              rw [errV_ne h4] at cT
              clear h4
              go_wp2_with (first | (go_at_call 57; refine cT.mono ?_; rintro e W3 ⟨rfl, hB3⟩))
              go_ret
              exact ⟨ret_v (by rw [H4.out.1, errV_ne H4.out.2]; rfl), on1 HD2.out.b (on1K HBA.out hB3 (Nat.le_refl _))⟩
          · have hd : ts.drop k = [] := List.drop_eq_nil_of_le (by omega)
            have H : Hid (tsE F ts = 0) := by show _ = _; rw [HI.out, hd]; rfl
            have HBW := Lib.hid hbw
            clear hi hd hB hbw
            go_wp2
            go_ret
            exact ⟨ret_v (by rw [H.out]; rfl), HBW.out⟩
    · have he : spE L B o ⟨bd, back, kd, .slice at' ts.length ct, ts⟩ = wayE L B o ⟨bd, back, kd, .slice at' ts.length ct, ts⟩ := by unfold spE; simp only; rw [if_pos h1, if_neg h2]
      rw [he, errV_ne h2]
      rw [errV_ne h2] at HW
      generalize wayE L B o ⟨bd, back, kd, .slice at' ts.length ct, ts⟩ = z at HW
      clear he h1 h2
      go_enter Tryz.func30, Tryz.ntmps30
      go_upto_region 1 with fail
      unfold box2 at hW0
      rw [← hW0]
      clear hW0
      go_wp2_with (first
        | (go_at_call 55; refine cF.mono ?_; rintro e W1 ⟨vf, rfl, _, _, hB1⟩; have hd1 := HD.out.on hB1; have cW := HW.out W1 hd1.b; have j0 := hd1.s0; have j1 := hd1.s1; have j2 := hd1.p0; have j3 := hd1.p1; have j4 := hd1.p2; have j5 := hd1.p3; simp only at j0 j1 j2 j3 j4 j5; have HD1 := Lib.hid hd1; clear hd1 hB1)
        | (go_at_call 56; refine cW.mono ?_; rintro e W2 ⟨rfl, hB2⟩; have hd2 := HD1.out.on hB2; have HB2 := Lib.hid hd2.b; clear hd2 hB2))
      go_ret
      exact ⟨rfl, HB2.out⟩
  · have he : spE L B o ⟨bd, back, kd, .slice at' ts.length ct, ts⟩ = nmErr L kd := by unfold spE; simp only; rw [if_neg h1]
    rw [he, errV_ne h1]
    rw [errV_ne h1] at cF
    generalize nmErr L kd = z at cF
    clear he h1
    go_enter Tryz.func30, Tryz.ntmps30
    go_upto_region 1 with fail
    unfold box2 at hW0
    rw [← hW0]
    clear hW0
    go_wp2_with (first
      | (go_at_call 55; refine cF.mono ?_; rintro e W1 ⟨vf, rfl, _, _, hB1⟩; have hd1 := HD.out.on hB1; have HB1 := Lib.hid hd1.b; clear hd1 hB1))
    go_ret
    exact ⟨rfl, HB1.out⟩
end Go.Proofs.YtifcpjimhhpcpaaGreatDoor
