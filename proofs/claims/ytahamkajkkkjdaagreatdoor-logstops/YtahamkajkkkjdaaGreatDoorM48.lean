import Derived.Test.YtahamkajkkkjdaaGreatDoorM45
import Derived.Test.YtahamkajkkkjdaaGreatDoorM47
namespace Go.Proofs.YtahamkajkkkjdaaGreatDoor
open Go.RowKit
set_option linter.unusedVariables false
set_option linter.unusedSimpArgs false
section
variable {w1 w : World} {p : Nat} {c : Ch} {K : List Nm} {L : List Kd} {B : List Bd} {N : List Nd} {T : List Te} {M : List Nd} {k : Nat} {uk ub ks fn vn vt vm : Value}
theorem step_any (h : Mv w1 w p c K L B N T M k uk ub ks fn vn vt vm) (hl : N.length ≤ 60) (hrl : ∀ x ∈ M, x.rc.length ≤ 1000) (hr : ∀ x ∈ N, rErr x.rc = 0) (hKl : K.length ≤ 1000) (hf : Fit c K) (hsz : Sz [c.pr]) (n : Int) :
    Calls Tryz.prog 104 #[.pointer (some ⟨p, 0, none⟩), .int .i64 n] w (StP w1 w p c K L B N T M k uk ub ks fn vn vt vm n) := by
  by_cases h1 : n < 1
  · exact step_range h hrl (.inl h1)
  by_cases h2 : 60 < n
  · exact step_range h hrl (.inr h2)
  by_cases hk : k = N.length
  · exact step_none h hl hrl h1 h2 hk
  · exact step_go h hl hrl hr hKl hf hsz (fun x hx => by have := ndY_len c K x; have := rErr_len (hr x hx); omega) h1 h2 hk
def aoE (c : Ch) (K : List Nm) (L : List Kd) (B : List Bd) (N : List Nd) (T : List Te) : Int := if allX c K N = 0 then (if confB L B (N.map (ndT c K)) (T.filter (keepB (drp c))) = true then 0 else 9) else allX c K N
def AoP (w1 w : World) (c : Ch) (K : List Nm) (L : List Kd) (B : List Bd) (N : List Nd) (T : List Te) (e : Ending) (w' : World) : Prop :=
  ∃ a1 l1 c1 a2 l2 c2 X, e = .returned (.tuple #[.agg #[.slice a1 l1 c1, .slice a2 l2 c2], errV (aoE c K L B N T)]) ∧ (aoE c K L B N T = 0 → cN X = N.map (ndT c K) ∧ OwnNs w' w1.heap.size (.slice a1 l1 c1) X ∧ OwnTs w' w1.heap.size (.slice a2 l2 c2) (T.filter (keepB (drp c)))) ∧ Below w1.heap.size w w'
structure MvOk (c : Ch) (K : List Nm) (L : List Kd) (B : List Bd) (N : List Nd) (T : List Te) : Prop where
  hl : N.length ≤ 60
  ht : T.length ≤ 120
  hr : ∀ x ∈ N, rErr x.rc = 0
  hKl : K.length ≤ 1000
  hf : Fit c K
  hsz : Sz [c.pr]
  htn : (bs c.tn).size ≤ maxLen
  zN : SzN N
  zT : SzT T
  hE : (sErr L B).2 = 0
theorem MvOk.len (h : MvOk c K L B N T) : ∀ x ∈ N, x.rc.length ≤ 1000 := fun x hx => by have := rErr_len (h.hr x hx); omega
theorem MvOk.szNT (h : MvOk c K L B N T) : SzN (N.map (ndT c K)) := szN_ndT h.zN h.hsz h.htn h.hr
def DoneP (w1 w : World) (p : Nat) (c : Ch) (K : List Nm) (L : List Kd) (B : List Bd) (N : List Nd) (T : List Te) (e : Ending) (w' : World) : Prop :=
  ∃ g1 g2 g3 g4 g5 g6 a1 l1 c1 a2 l2 c2 R X, e = .returned (.tuple #[.agg #[.slice g1 g2 g3, .slice g4 g5 g6], .agg #[.slice a1 l1 c1, .slice a2 l2 c2], errV (if confB L B (N.map (ndT c K)) (T.filter (keepB (drp c))) = true then 0 else 9)]) ∧ (confB L B (N.map (ndT c K)) (T.filter (keepB (drp c))) = true → cN X = N.map (ndT c K) ∧ R.map kq3 = L.map kq3 ∧ OwnKs w' w1.heap.size (.slice g1 g2 g3) R ∧ OwnBs w' w1.heap.size (.slice g4 g5 g6) B ∧ OwnNs w' w1.heap.size (.slice a1 l1 c1) X ∧ OwnTs w' w1.heap.size (.slice a2 l2 c2) (T.filter (keepB (drp c)))) ∧ w.grownBy w' (some p)
theorem done_all (h : Mv w1 w p c K L B N T M k uk ub ks fn vn vt vm) (hk : k = N.length) (ho : MvOk c K L B N T) (hrl : ∀ x ∈ M, x.rc.length ≤ 1000) :
    Calls Tryz.prog 105 #[.pointer (some ⟨p, 0, none⟩)] w (DoneP w1 w p c K L B N T) := by
  have hc := h.hc
  have hlen := h.hlen
  rw [hk, List.take_of_length_le (by omega), List.take_length] at hc
  have hc' : cN M = cN (N.map (ndT c K)) := by rw [hc, cN_ndT]
  obtain ⟨hG, h12, hb12⟩ := good_of ho.hE
  refine (done_any h hk ho.hl ho.ht hrl hG.sz ((sErr_good.1 ho.hE).2.1).sz (szN_c hc' ho.szNT) ho.zT (by omega) (by omega) (fun x hx => by have := hG.small x hx; omega)).mono ?_
  rintro e w' ⟨X, hX, hy, hn, hB⟩
  have hcx : confB L B X (T.filter (keepB (drp c))) = confB L B (N.map (ndT c K)) (T.filter (keepB (drp c))) := confB_cc (hX.trans hc') _ _ _
  rw [hcx] at hy hn
  by_cases hcf : confB L B (N.map (ndT c K)) (T.filter (keepB (drp c))) = true
  · obtain ⟨xk, xb, un, ut, R, he, h1, h2, h3, h4, h5⟩ := hy hcf
    obtain ⟨x1, x3, rfl⟩ := own_slice h2.1
    obtain ⟨x4, x6, rfl⟩ := own_slice h3
    obtain ⟨x7, x9, rfl⟩ := own_slice h4.1
    obtain ⟨x10, x12, rfl⟩ := own_slice h5
    refine ⟨_, _, _, _, _, _, _, _, _, _, _, _, R, X, by rw [if_pos hcf]; exact he, fun _ => ⟨hX.trans hc, h1, h2, h3, h4, h5⟩, hB⟩
  · refine ⟨_, _, _, _, _, _, _, _, _, _, _, _, [], [], by rw [if_neg hcf]; exact hn (by simpa using hcf), fun h => absurd h hcf, hB⟩
end
set_option maxHeartbeats 4000000 in
set_option maxRecDepth 100000 in
theorem atOnce_any {w1 w : World} {p : Nat} {c : Ch} {K : List Nm} {L : List Kd} {B : List Bd} {N : List Nd} {T : List Te} {M : List Nd} {uk ub ks fn vn vt vm : Value} (h : Mv w1 w p c K L B N T M 0 uk ub ks fn vn vt vm) (ho : MvOk c K L B N T) (hrl : ∀ x ∈ M, x.rc.length ≤ 1000) :
    Calls Tryz.prog 73 #[.pointer (some ⟨p, 0, none⟩)] w (AoP w1 w c K L B N T) := by
  obtain ⟨W0, hW0⟩ : ∃ W0, W0 = w.alloc (.cells #[.slice none 0 0, .slice none 0 0] 67) := ⟨_, rfl⟩
  have hB0 : Below w.heap.size w W0 := by rw [hW0]; exact b_alloc (Below.refl _ _) _
  have n0 : W0.heap[w.heap.size]? = some (.cells #[.slice none 0 0, .slice none 0 0] 67 (0, 0)) := by rw [hW0]; exact heap_alloc_new w _
  have h0 := h.on hB0
  have hw1 : w1.heap.size ≤ w.heap.size := h.hB.size
  have hpw := (Array.getElem?_eq_some_iff.1 h.hp).1
  have hl := ho.hl
  have HL : Hid (∀ W, Below W0.heap.size W0 W → Calls Tryz.prog 103 #[.pointer (some ⟨p, 0, none⟩)] W fun e w' => e = .returned (.int .i64 (N.length : Int)) ∧ Below W.heap.size W w') := fun W hB => by
    have := left_any (h0.on hB) (by omega)
    simpa using this
  have HB := Lib.hid hB0
  have HM := Lib.hid (And.intro h0 (And.intro ho (And.intro hrl n0)))
  have HW1 := Lib.hid hw1
  have HD : Hid (∀ W, Below w1.heap.size w W → W.heap[w.heap.size]? = some (.cells #[.slice none 0 0, .slice none 0 0] 67 (0, 0)) → ∀ k M', Mv w1 W p c K L B N T M' k uk ub ks fn vn vt vm → k = N.length → (∀ x ∈ M', x.rc.length ≤ 1000) → allX c K N = 0 → Calls Tryz.prog 105 #[.pointer (some ⟨p, 0, none⟩)] W fun e w' => ∃ g1 g2 g3 g4 g5 g6 a1 l1 c1 a2 l2 c2, e = .returned (.tuple #[.agg #[.slice g1 g2 g3, .slice g4 g5 g6], .agg #[.slice a1 l1 c1, .slice a2 l2 c2], errV (aoE c K L B N T)]) ∧ W.heap.size ≤ w'.heap.size ∧ ∀ W2, W2 = (w'.alloc (.cells #[.slice g1 g2 g3, .slice g4 g5 g6] 34)).alloc (.cells #[.slice a1 l1 c1, .slice a2 l2 c2] 67) → (W2.cell? ⟨w'.heap.size + 1, 0, none⟩ = some (.slice a1 l1 c1) ∧ W2.cell? ⟨w'.heap.size + 1, 1, none⟩ = some (.slice a2 l2 c2)) ∧ (W2.cell? ⟨w.heap.size, 0, none⟩ = some (.slice none 0 0) ∧ W2.cell? ⟨w.heap.size, 1, none⟩ = some (.slice none 0 0) ∧ W2.frozen? ⟨w.heap.size, 0, none⟩ = false ∧ W2.frozen? ⟨w.heap.size, 1, none⟩ = false) ∧ ∀ W3, W3 = (W2.setCell ⟨w.heap.size, 0, none⟩ (.slice a1 l1 c1)).setCell ⟨w.heap.size, 1, none⟩ (.slice a2 l2 c2) → (W3.cell? ⟨w.heap.size, 0, none⟩ = some (.slice a1 l1 c1) ∧ W3.cell? ⟨w.heap.size, 1, none⟩ = some (.slice a2 l2 c2)) ∧ AoP w1 w c K L B N T (.returned (.tuple #[.agg #[.slice a1 l1 c1, .slice a2 l2 c2], errV (aoE c K L B N T)])) W3) := fun W hBW hn k M' hm hk hrl' hx => by
    refine (done_all hm hk ho hrl').mono ?_
    rintro e w' ⟨g1, g2, g3, g4, g5, g6, a1, l1, c1, a2, l2, c2, R, X, he, hy, hB⟩
    have hao : aoE c K L B N T = (if confB L B (N.map (ndT c K)) (T.filter (keepB (drp c))) = true then 0 else 9) := by unfold aoE; rw [if_pos hx]
    rw [← hao] at he
    refine ⟨g1, g2, g3, g4, g5, g6, a1, l1, c1, a2, l2, c2, he, hB.size, fun W2 hW2 => ?_⟩
    have hwl := (Array.getElem?_eq_some_iff.1 hn).1
    have n' : w'.heap[w.heap.size]? = some (.cells #[.slice none 0 0, .slice none 0 0] 67 (0, 0)) := (hB.block _ hwl (fun e => by injection e with e; omega)).trans hn
    have hwl' := (Array.getElem?_eq_some_iff.1 n').1
    have hB2 : Below w'.heap.size w' W2 := by rw [hW2]; exact b_alloc (b_alloc (Below.refl _ _) _) _
    have n2 := (hB2.block _ hwl').trans n'
    have x2 : W2.heap[w'.heap.size + 1]? = some (.cells #[.slice a1 l1 c1, .slice a2 l2 c2] 67 (0, 0)) := by
      have := heap_alloc_new (w'.alloc (.cells #[.slice g1 g2 g3, .slice g4 g5 g6] 34)) (.cells #[.slice a1 l1 c1, .slice a2 l2 c2] 67)
      rw [World.size_alloc] at this; rw [hW2]; exact this
    refine ⟨⟨cell_at x2 rfl, cell_at x2 rfl⟩, ⟨cell_at n2 rfl, cell_at n2 rfl, frz_at n2, frz_at n2⟩, fun W3 hW3 => ?_⟩
    have r3 : W3.heap[w.heap.size]? = some (.cells #[.slice a1 l1 c1, .slice a2 l2 c2] 67 (0, 0)) := by rw [hW3]; exact heap_setCell_same _ _ 1 _ 67 _ (heap_setCell_same W2 _ 0 _ 67 _ n2)
    have kk : ∀ t : TypeId, (67 : TypeId) ≠ t → Kt t w' W3 := fun t hne => (Kt.of_below hB2).trans (by rw [hW3]; exact ((Kt.refl _ _).ty ⟨_, n2⟩ hne _ _).ty (Ty.set ⟨_, n2⟩ _ _ _) hne _ _)
    refine ⟨⟨cell_at r3 rfl, cell_at r3 rfl⟩, a1, l1, c1, a2, l2, c2, X, rfl, fun hz => ?_, ?_⟩
    · have hcf : confB L B (N.map (ndT c K)) (T.filter (keepB (drp c))) = true := by
        rw [hao] at hz
        by_cases hcf : confB L B (N.map (ndT c K)) (T.filter (keepB (drp c))) = true
        · exact hcf
        · rw [if_neg hcf] at hz; exact absurd hz (by decide)
      obtain ⟨q1, _, _, _, q2, q3⟩ := hy hcf
      exact ⟨q1, q2.kt (kk _ (by decide)) (kk _ (by decide)), q3.kt (kk _ (by decide))⟩
    · have hw1p : Below w1.heap.size W w' := below_grown (Below.refl _ _) hB (Nat.le_trans HW1.out hBW.size) (fun k hk => by injection hk with hk; rw [← hk]; exact HM.out.1.hge)
      rw [hW3]
      exact (((hBW.trans hw1p).trans (hB2.mono (Nat.le_trans HW1.out (by omega)))).setCell HW1.out _).setCell HW1.out _
  clear h h0 hB0 n0 ho hrl
  go_enter Tryz.func73, Tryz.ntmps73
  go_upto_region 1 with fail
  rw [← hW0]
  clear hW0
  have cL := HL.out W0 (Below.refl _ _)
  by_cases hn : N.length = 0
  · rw [show (N.length : Int) = 0 by omega] at cL
    go_upto_region 5 with (go_at_call 103; refine cL.mono ?_; rintro e W1 ⟨rfl, hB1⟩)
    have hw1' := on1K HB.out hB1 (Nat.le_refl _)
    have cD := HD.out W1 (hw1'.mono HW1.out) ((hB1.block _ (Array.getElem?_eq_some_iff.1 HM.out.2.2.2).1).trans HM.out.2.2.2) 0 M (HM.out.1.on hB1) hn.symm HM.out.2.2.1 (by rw [List.length_eq_zero_iff.1 hn]; rfl)
    clear cL hw1' hB1 HD HL
    go_upto_region 6 with (go_at_call 105; refine cD.mono ?_; rintro e W3 ⟨g1, g2, g3, g4, g5, g6, x1, y1, z1, x2, y2, z2, rfl, hs, hW⟩; have HW := Lib.hid hW; clear hW)
    obtain ⟨W4, hW4⟩ : ∃ W4, W4 = (W3.alloc (.cells #[.slice g1 g2 g3, .slice g4 g5 g6] 34)).alloc (.cells #[.slice x1 y1 z1, .slice x2 y2 z2] 67) := ⟨_, rfl⟩
    obtain ⟨⟨v0, v1⟩, ⟨v2, v3, v4, v5⟩, hE⟩ := HW.out W4 hW4
    rw [← hW4]
    have HE := Lib.hid hE
    clear hE HW hW4 cD
    generalize errV (aoE c K L B N T) = ev at *
    go_wp2
    obtain ⟨⟨r0, r1⟩, hR⟩ := HE.out _ rfl
    refine bodyPost_ret (v := .tuple #[.agg #[.slice x1 y1 z1, .slice x2 y2 z2], ev]) ?_ rfl hR
    simp [results, Tryz.results73, go_sem, r0, r1]
  · have hp : (0 : Int) < (N.length : Int) := by omega
    have HS : Hid (∀ W, Below W0.heap.size W0 W → Calls Tryz.prog 104 #[.pointer (some ⟨p, 0, none⟩), .int .i64 (N.length : Int)] W fun e w' => ∃ j M', e = .returned (.tuple #[.int .i64 j, errV (allX c K N)]) ∧ ((allX c K N = 0 → Mv w1 w' p c K L B N T M' N.length uk ub ks fn vn vt vm) ∧ (∀ x ∈ M', x.rc.length ≤ 1000)) ∧ Below w1.heap.size w w' ∧ w'.heap[w.heap.size]? = some (.cells #[.slice none 0 0, .slice none 0 0] 67 (0, 0))) := fun W hB => by
      have hst : stE c K N 0 (N.length : Int) = allX c K N := by
        unfold stE
        rw [if_neg (by omega), if_neg (fun h => hn h.symm), List.drop_zero, Int.toNat_natCast, List.take_length]
      have hsk : stK N 0 (N.length : Int) = N.length := by unfold stK; rw [Int.toNat_natCast]; omega
      refine (step_any (HM.out.1.on hB) HM.out.2.1.hl HM.out.2.2.1 HM.out.2.1.hr HM.out.2.1.hKl HM.out.2.1.hf HM.out.2.1.hsz (N.length : Int)).mono ?_
      rintro e w' ⟨j, M', he, hm, hBs, hrl, hkt⟩
      rw [hst] at he hm
      rw [hsk] at hm
      refine ⟨j, M', he, ⟨fun hx => by rw [if_pos hx] at hm; exact hm, hrl⟩, ((HB.out.mono HW1.out).trans (hB.mono (Nat.le_trans HW1.out HB.out.size))).trans hBs, (hkt 67 (by decide) (by decide)).2 _ _ ((hB.block _ (Array.getElem?_eq_some_iff.1 HM.out.2.2.2).1).trans HM.out.2.2.2)⟩
    go_upto_region 2 with (go_at_call 103; refine cL.mono ?_; rintro e W1 ⟨rfl, hB1⟩)
    have cL2 := HL.out W1 hB1
    clear cL
    by_cases hx : allX c K N = 0
    · have HS2 : Hid (∀ W, Below W1.heap.size W1 W → Calls Tryz.prog 104 #[.pointer (some ⟨p, 0, none⟩), .int .i64 (N.length : Int)] W fun e w' => ∃ j M', e = .returned (.tuple #[.int .i64 j, .nilIface]) ∧ Mv w1 w' p c K L B N T M' N.length uk ub ks fn vn vt vm ∧ (∀ x ∈ M', x.rc.length ≤ 1000) ∧ Below w1.heap.size w w' ∧ w'.heap[w.heap.size]? = some (.cells #[.slice none 0 0, .slice none 0 0] 67 (0, 0))) := fun W hB => (HS.out W (on1K hB1 hB (Nat.le_refl _))).mono (by
        rintro e w' ⟨j, M', he, ⟨hm, hl⟩, hb, hn⟩
        rw [hx, errV_0] at he
        exact ⟨j, M', he, hm hx, hl, hb, hn⟩)
      clear HS HL hB1
      go_upto_region 5 with (first | (go_at_call 103; refine cL2.mono ?_; rintro e W2 ⟨rfl, hB2⟩; have cS := HS2.out W2 hB2; clear hB2 HS2) | (go_at_call 104; refine cS.mono ?_; rintro e W3 ⟨j, M', rfl, hm, hrl', hB3, hn3⟩; have HM3 := Lib.hid (And.intro hm (And.intro hrl' (And.intro hB3 hn3))); clear hm hrl' hB3 hn3 cS))
      have cD := HD.out W3 HM3.out.2.2.1 HM3.out.2.2.2 N.length M' HM3.out.1 rfl HM3.out.2.1 hx
      clear cL2 HD HM3 hx
      go_upto_region 6 with (go_at_call 105; refine cD.mono ?_; rintro e W3 ⟨g1, g2, g3, g4, g5, g6, x1, y1, z1, x2, y2, z2, rfl, hs, hW⟩; have HW := Lib.hid hW; clear hW)
      obtain ⟨W4, hW4⟩ : ∃ W4, W4 = (W3.alloc (.cells #[.slice g1 g2 g3, .slice g4 g5 g6] 34)).alloc (.cells #[.slice x1 y1 z1, .slice x2 y2 z2] 67) := ⟨_, rfl⟩
      obtain ⟨⟨v0, v1⟩, ⟨v2, v3, v4, v5⟩, hE⟩ := HW.out W4 hW4
      rw [← hW4]
      have HE := Lib.hid hE
      clear hE HW hW4 cD
      generalize errV (aoE c K L B N T) = ev at *
      go_wp2
      obtain ⟨⟨r0, r1⟩, hR⟩ := HE.out _ rfl
      refine bodyPost_ret (v := .tuple #[.agg #[.slice x1 y1 z1, .slice x2 y2 z2], ev]) ?_ rfl hR
      simp [results, Tryz.results73, go_sem, r0, r1]
    · have hao : aoE c K L B N T = allX c K N := by unfold aoE; rw [if_neg hx]
      have HS2 : Hid (∀ W, Below W1.heap.size W1 W → Calls Tryz.prog 104 #[.pointer (some ⟨p, 0, none⟩), .int .i64 (N.length : Int)] W fun e w' => ∃ j, e = .returned (.tuple #[.int .i64 j, .iface 76 (.int .i64 (allX c K N))]) ∧ Below w1.heap.size w w' ∧ w'.heap[w.heap.size]? = some (.cells #[.slice none 0 0, .slice none 0 0] 67 (0, 0))) := fun W hB => (HS.out W (on1K hB1 hB (Nat.le_refl _))).mono (by
        rintro e w' ⟨j, M', he, _, hb, hn⟩
        rw [errV_ne hx] at he
        exact ⟨j, he, hb, hn⟩)
      have HF : Hid (∀ W, Below w1.heap.size w W → AoP w1 w c K L B N T (.returned (.tuple #[.agg #[.slice none 0 0, .slice none 0 0], .iface 76 (.int .i64 (allX c K N))])) W) := fun W hB => ⟨none, 0, 0, none, 0, 0, [], by rw [hao, errV_ne hx], fun h => absurd (hao.symm.trans h) hx, hB⟩
      clear HS HL hB1 HD hao
      generalize allX c K N = z at *
      go_upto_region 4 with (first | (go_at_call 103; refine cL2.mono ?_; rintro e W2 ⟨rfl, hB2⟩; have cS := HS2.out W2 hB2; clear hB2 HS2) | (go_at_call 104; refine cS.mono ?_; rintro e W3 ⟨j, rfl, hB3, hn3⟩; have HM3 := Lib.hid (And.intro hB3 hn3); clear hB3 hn3 cS))
      have y0 : W3.cell? ⟨w.heap.size, 0, none⟩ = some (.slice none 0 0) := cell_at HM3.out.2 rfl
      have y1 : W3.cell? ⟨w.heap.size, 1, none⟩ = some (.slice none 0 0) := cell_at HM3.out.2 rfl
      have f0 : W3.frozen? ⟨w.heap.size, 0, none⟩ = false := frz_at HM3.out.2
      have f1 : W3.frozen? ⟨w.heap.size, 1, none⟩ = false := frz_at HM3.out.2
      clear cL2
      go_wp2
      have t1 := heap_setCell_same _ _ 1 _ 67 (.slice none 0 0) (heap_setCell_same W3 _ 0 _ 67 (.slice none 0 0) HM3.out.2)
      have t2 := cell_at (i := 0) t1 rfl
      have t3 := cell_at (i := 1) t1 rfl
      refine bodyPost_ret (v := .tuple #[.agg #[.slice none 0 0, .slice none 0 0], .iface 76 (.int .i64 z)]) ?_ rfl (HF.out _ ((HM3.out.1.setCell HW1.out _).setCell HW1.out _))
      simp [results, Tryz.results73, go_sem, t2, t3]
end Go.Proofs.YtahamkajkkkjdaaGreatDoor
