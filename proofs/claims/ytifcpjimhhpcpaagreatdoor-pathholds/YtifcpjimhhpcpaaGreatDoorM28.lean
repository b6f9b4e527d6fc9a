/-
  The walk of path.Check.
-/
import Derived.Test.YtifcpjimhhpcpaaGreatDoorM27
import Derived.Test.YtifcpjimhhpcpaaGreatDoorM26
namespace Go.Proofs.YtifcpjimhhpcpaaGreatDoor
open Go.RowKit
set_option linter.unusedVariables false
set_option linter.unusedSimpArgs false

/-- The step ahead of the k-th. -/
def aheadO (l : List Sp) (k : Nat) : Option Sp := if k = 0 then none else l[k - 1]?
theorem take_last {l : List Sp} {k : Nat} (h : k + 1 ≤ l.length) : (l.take (k + 1)).getLast? = l[k]? := by
  rw [List.getLast?_eq_getElem?, List.length_take, Nat.min_eq_left h, Nat.add_sub_cancel, List.getElem?_take_of_lt (Nat.lt_succ_self k)]
theorem ahead_ahd {w : World} {b off c : Nat} {l : List Sp} {k : Nat} (hb : b < w.heap.size) (hL : LiesSp w b off l) (hk : k < l.length) (h6 : l.length ≤ 6) : Ahd w (.slice (some ⟨b, off, none⟩) k c) (aheadO l k) := by
  cases k with
  | zero => exact ⟨_, _, rfl⟩
  | succ k =>
    have e : aheadO l (k + 1) = some l[k] := by unfold aheadO; rw [if_neg (by omega)]; simp
    rw [e]
    refine ⟨b, off, l.take (k + 1), c, ?_, hb, hL.take _, ?_, ?_⟩
    · rw [List.length_take, Nat.min_eq_left (by omega)]
    · rw [take_last (by omega)]; simp
    · rw [List.length_take]; omega
theorem spsE_next {L : List Kd} {B : List Bd} {l : List Sp} {k : Nat} {p : Sp} (hp : l[k]? = some p) (h : spE L B (aheadO l k) p = 0) : spsE L B (aheadO l k) (l.drop k) k = spsE L B (aheadO l (k + 1)) (l.drop (k + 1)) (k + 1) := by
  rw [dropK hp]
  conv => lhs; unfold spsE
  rw [if_pos h]
  unfold aheadO
  rw [if_neg (by omega), Nat.add_sub_cancel, hp]
theorem spsE_stop {L : List Kd} {B : List Bd} {l : List Sp} {k : Nat} {p : Sp} (hp : l[k]? = some p) (h : ¬ spE L B (aheadO l k) p = 0) : spsE L B (aheadO l k) (l.drop k) k = (k, spE L B (aheadO l k) p) := by
  rw [dropK hp]
  conv => lhs; unfold spsE
  rw [if_neg h]

set_option maxHeartbeats 8000000 in
set_option maxRecDepth 100000 in
theorem pcheck_any {vs vl : Value} {L : List Kd} {B : List Bd} {l : List Sp} {w : World} (hs : IsSc w vs L B) (hl : IsSp w vl l) (hz : ∀ p ∈ l, SpSz p) :
    Calls Tryz.prog 13 #[vs, vl] w fun e w' => e = .returned (.tuple #[.int .i64 (ptE L B l).1, errV (ptE L B l).2]) ∧ Below w.heap.size w w' := by
  have HP : Hid (IsSc w vs L B) := hs
  obtain ⟨vk, vb, rfl, hK, hPt, hzk, hb, hzb⟩ := hs
  obtain ⟨ak, ck, rfl, _⟩ := hK.sln
  obtain ⟨ab, cb, rfl, _⟩ := hb.sln
  obtain ⟨al, cl, rfl, hlc, hcm, hll⟩ := hl
  have HLL : Hid (l = [] ∨ ∃ b off, al = some ⟨b, off, none⟩ ∧ b < w.heap.size ∧ LiesSp w b off l) := hll
  obtain ⟨W0, hW0⟩ : ∃ W0, W0 = w.alloc (.cells #[.slice ak L.length ck, .slice ab B.length cb] 25) := ⟨_, rfl⟩
  have hB0 : Below w.heap.size w W0 := by rw [hW0]; exact b_alloc (Below.refl _ _) _
  have n0 : W0.heap[w.heap.size]? = some (.cells #[.slice ak L.length ck, .slice ab B.length cb] 25 (0, 0)) := by rw [hW0]; exact heap_alloc_new w _
  have hz0 : w.heap.size < W0.heap.size := by rw [hW0]; simp
  have HK : Hid (∀ W, Below W0.heap.size W0 W → Below w.heap.size w W ∧ (W.cell? ⟨w.heap.size, 0, none⟩ = some (.slice ak L.length ck) ∧ W.cell? ⟨w.heap.size, 1, none⟩ = some (.slice ab B.length cb)) ∧ w.heap.size < W.heap.size) := fun W hW =>
    ⟨on1 hB0 hW, ⟨(hW.cell (p := ⟨w.heap.size, 0, none⟩) hz0).trans (cell_at n0 rfl), (hW.cell (p := ⟨w.heap.size, 1, none⟩) hz0).trans (cell_at n0 rfl)⟩, Nat.lt_of_lt_of_le hz0 hW.size⟩
  obtain ⟨_, ⟨k0, k1⟩, _⟩ := HK.out W0 (Below.refl _ _)
  have c1 := scheck_any (hK.on hB0) (hPt.on hB0) hzk (hb.on hB0) hzb
  have HZ : Hid (∀ p ∈ l, SpSz p) := hz
  unfold maxLen at hcm
  clear hK hPt hzk hb hzb hll hz n0 hz0 hB0
  obtain ⟨r, hr⟩ : ∃ r, r = (sErr L B).1 := ⟨_, rfl⟩
  rw [← hr] at c1
  clear hr
  by_cases h1 : (sErr L B).2 = 0
  · rw [h1, errV_0] at c1
    by_cases h2 : l = []
    · have he : ptE L B l = (0, 5) := by unfold ptE; rw [if_pos h1, if_pos h2]
      rw [he]
      subst h2
      clear he h1
      go_enter Tryz.func13, Tryz.ntmps13
      go_upto_region 1 with fail
      rw [← hW0]
      clear hW0
      go_wp2_with (first | (go_at_call 29; refine c1.mono ?_; rintro e W1 ⟨rfl, hB1⟩; have HB1 := Lib.hid (HK.out W1 hB1).1; clear hB1))
      go_ret2
      exact ⟨rfl, HB1.out⟩
    · have hl0 : 0 < l.length := List.length_pos_iff.2 h2
      have hl0i : ¬ ((l.length : Int) = 0) := by omega
      have hl0b : ((l.length : Int) == 0) = false := by simpa using hl0i
      by_cases h3 : 6 < l.length
      · have he : ptE L B l = (0, 4) := by unfold ptE; rw [if_pos h1, if_neg h2, if_pos h3]
        rw [he]
        have h3i : (6 : Int) < (l.length : Int) := by omega
        clear he h1 h2
        go_enter Tryz.func13, Tryz.ntmps13
        go_upto_region 1 with fail
        rw [← hW0]
        clear hW0
        go_wp2_with (first | (go_at_call 29; refine c1.mono ?_; rintro e W1 ⟨rfl, hB1⟩; have HB1 := Lib.hid (HK.out W1 hB1).1; clear hB1))
        go_ret2
        exact ⟨rfl, HB1.out⟩
      · have he : ptE L B l = spsE L B none l 0 := by unfold ptE; rw [if_pos h1, if_neg h2, if_neg h3]
        rw [he]
        have h3i : ¬ (6 : Int) < (l.length : Int) := by omega
        have h6 : l.length ≤ 6 := by omega
        rcases HLL.out with rfl | ⟨b, off, rfl, hbl, hLs⟩
        · exact absurd rfl h2
        have HLs : Hid (LiesSp w b off l) := hLs
        clear he h1 h2 hLs HLL h3
        go_enter Tryz.func13, Tryz.ntmps13
        go_upto_region 1 with fail
        rw [← hW0]
        clear hW0
        go_wp2_with (first | (go_at_call 29; refine c1.mono ?_; rintro e W1 ⟨rfl, hB1⟩; have HB1 := Lib.hid hB1; clear hB1))
        clear c1 k0 k1
        go_loopw [29] (fun i wr => ∃ k : Nat, k ≤ l.length ∧ i = .int .i64 k ∧ spsE L B none l 0 = spsE L B (aheadO l k) (l.drop k) k ∧ Below W1.heap.size W1 wr) (fun i _ => l.length - (intOf i).toNat)
        case atStart => exact ⟨0, Nat.zero_le _, rfl, rfl, Below.refl _ _⟩
        case round =>
          obtain ⟨k, hk, rfl, hi, hB⟩ := hrel
          have HI : Hid (spsE L B none l 0 = spsE L B (aheadO l k) (l.drop k) k) := hi
          obtain ⟨hbw, ⟨j0, j1⟩, hzw⟩ := HK.out wr (on1K HB1.out hB (Nat.le_refl _))
          by_cases hlt : k < l.length
          · obtain ⟨p, hp⟩ : ∃ p, l[k]? = some p := ⟨l[k], by simp [hlt]⟩
            obtain ⟨⟨e0, e1, e2, e3⟩, hT⟩ := HLs.out k p hp
            obtain ⟨at', ct, hv⟩ := hT.sl
            rw [hv] at e3
            have d0 := (hbw.cell (p := ⟨b, off + k * 4, none⟩) hbl).trans e0
            have d1 := (hbw.cell (p := ⟨b, off + k * 4 + 1, none⟩) hbl).trans e1
            have d2 := (hbw.cell (p := ⟨b, off + k * 4 + 2, none⟩) hbl).trans e2
            have d3 := (hbw.cell (p := ⟨b, off + k * 4 + 3, none⟩) hbl).trans e3
            obtain ⟨WA, hWA⟩ : ∃ WA, WA = wr.alloc (.cells #[.string (bs p.bd), .bool p.back, .string (bs p.kd), .slice at' p.ts.length ct] 46) := ⟨_, rfl⟩
            have hBA : Below wr.heap.size wr WA := by rw [hWA]; exact b_alloc (Below.refl _ _) _
            have nA : WA.heap[wr.heap.size]? = some (.cells #[.string (bs p.bd), .bool p.back, .string (bs p.kd), .slice at' p.ts.length ct] 46 (0, 0)) := by rw [hWA]; exact heap_alloc_new wr _
            have hBW : Below w.heap.size w WA := on1K hbw hBA (Nat.le_refl _)
            have HC : Hid (∀ W, Below w.heap.size w W → Calls Tryz.prog 30 #[.agg #[.slice ak L.length ck, .slice ab B.length cb], .slice (some ⟨b, off, none⟩) k cl, .agg #[.string (bs p.bd), .bool p.back, .string (bs p.kd), .slice at' p.ts.length ct]] W fun e w' => e = .returned (errV (spE L B (aheadO l k) p)) ∧ Below W.heap.size W w') := fun W hW => by
              have := step_any (HP.out.on hW) (ahead_ahd (c := cl) (Nat.lt_of_lt_of_le hbl hW.size) (HLs.out.on hbl hW) hlt h6) p (hT.on hW) (HZ.out p (List.mem_of_getElem? hp))
              unfold Sp.one at this
              rw [hv] at this
              exact this
            have s0 := (hBA.cell (p := ⟨w.heap.size, 0, none⟩) hzw).trans j0
            have s1 := (hBA.cell (p := ⟨w.heap.size, 1, none⟩) hzw).trans j1
            have f0 : WA.cell? ⟨wr.heap.size, 0, none⟩ = some (.string (bs p.bd)) := cell_at nA rfl
            have f1 : WA.cell? ⟨wr.heap.size, 1, none⟩ = some (.bool p.back) := cell_at nA rfl
            have f2 : WA.cell? ⟨wr.heap.size, 2, none⟩ = some (.string (bs p.kd)) := cell_at nA rfl
            have f3 : WA.cell? ⟨wr.heap.size, 3, none⟩ = some (.slice at' p.ts.length ct) := cell_at nA rfl
            have cS := HC.out WA.drew hBW.drew
            have HX : Hid (l[k]? = some p) := hp
            have HBA : Hid (Below W1.heap.size W1 WA ∧ Below w.heap.size w WA) := ⟨on1K hB hBA (Nat.le_refl _), hBW⟩
            have hkc : k ≤ cl := by omega
            have hbr : b < wr.heap.size := Nat.lt_of_lt_of_le hbl hbw.size
            have hbn : ¬ b = wr.heap.size := by omega
            clear e0 e1 e2 e3 hp hi hB hBA hBW nA hT hv hbw HC
            by_cases h4 : spE L B (aheadO l k) p = 0
            · rw [h4, errV_0] at cS
              have H4 : Hid (spsE L B none l 0 = spsE L B (aheadO l (k + 1)) (l.drop (k + 1)) (k + 1)) := HI.out.trans (spsE_next HX.out h4)
              clear h4
              go_upto_region 11 with fail
              rw [← hWA]
              clear hWA
              go_region_with (go_at_call 30; refine cS.mono ?_; rintro e W3 ⟨rfl, hB3⟩)
              all_goals
                go_wp2
                go_roundw
                case rel => exact ⟨k + 1, by omega, by go_num, H4.out, on1K HBA.out.1.drew hB3 (Nat.le_refl _)⟩
                case measure => simp [intOf]; omega
            · have H4 : Hid (spsE L B none l 0 = (k, spE L B (aheadO l k) p) ∧ ¬ spE L B (aheadO l k) p = 0) := ⟨HI.out.trans (spsE_stop HX.out h4), h4⟩
              rw [errV_ne h4] at cS
              clear h4
              go_upto_region 11 with fail
              rw [← hWA]
              clear hWA
              go_region_with (go_at_call 30; refine cS.mono ?_; rintro e W3 ⟨rfl, hB3⟩)
              all_goals
                go_wp2
                go_ret2
                exact ⟨ret_v (by rw [H4.out.1, errV_ne H4.out.2]; rfl), on1K HBA.out.2.drew hB3 (Nat.le_refl _)⟩
          · have hd : l.drop k = [] := List.drop_eq_nil_of_le (by omega)
            have H : Hid (spsE L B none l 0 = (0, 0)) := by
              show _ = _
              rw [HI.out, hd]
              cases aheadO l k <;> rfl
            have HBW := Lib.hid hbw
            clear hi hd hB hbw
            go_wp2
            go_ret2
            exact ⟨ret_v (by rw [H.out]; rfl), HBW.out⟩
  · have he : ptE L B l = (0, (sErr L B).2) := by unfold ptE; rw [if_neg h1]
    rw [he]
    simp only
    rw [errV_ne h1]
    rw [errV_ne h1] at c1
    generalize (sErr L B).2 = z at c1
    clear he h1
    go_enter Tryz.func13, Tryz.ntmps13
    go_upto_region 1 with fail
    rw [← hW0]
    clear hW0
    go_wp2_with (first | (go_at_call 29; refine c1.mono ?_; rintro e W1 ⟨rfl, hB1⟩; have HB1 := Lib.hid (HK.out W1 hB1).1; clear hB1))
    go_ret2
    exact ⟨rfl, HB1.out⟩
end Go.Proofs.YtifcpjimhhpcpaaGreatDoor

/-
  The walks of path.passes, Passes, and of which tests are not passed.
-/
namespace Go.Proofs.YtifcpjimhhpcpaaGreatDoor
open Go.RowKit
set_option linter.unusedVariables false
set_option linter.unusedSimpArgs false

theorem get_pass {rc : List Pr} (hs : Sz rc) {nm : ByteArray} (h : rfErr nm.toList rc = 0) : ∃ t n s, getV nm.toList rc = .agg #[.int .i64 t, .int .i64 n, .string s] ∧ s.size ≤ maxLen ∧ ∀ hw t' n' s', pass rc ⟨nm, hw, t', n', s'⟩ = passV t n s ⟨nm, hw, t', n', s'⟩ := by
  unfold getV pass
  simp only
  rw [if_pos h]
  cases e : rc[(idxP nm.toList rc 0).toNat]? with
  | none => exact ⟨0, 0, ⟨#[]⟩, rfl, by decide, fun hw t' n' s' => by rw [if_pos h]⟩
  | some q => exact ⟨q.t, q.n, q.s, rfl, (hs q (List.mem_of_getElem? e)).2, fun hw t' n' s' => by rw [if_pos h]⟩
theorem get_no {rc : List Pr} {nm : ByteArray} (h : ¬ rfErr nm.toList rc = 0) : getV nm.toList rc = .agg #[.int .i64 0, .int .i64 0, .string ⟨#[]⟩] := by
  unfold getV; rw [if_neg h]

set_option maxHeartbeats 4000000 in
set_option maxRecDepth 100000 in
theorem passes_any {v : Value} {rc : List Pr} {w : World} (h : IsR w v rc) (hs : Sz rc) (hm : rc.length ≤ maxLen) (x : Tst) (hx : TsSz x) :
    Calls Tryz.prog 27 #[v, x.one] w fun e w' => e = .returned (.bool (pass rc x)) ∧ Below w.heap.size w w' := by
  obtain ⟨nm, hw, t, n, s⟩ := x
  have hB0 : Below w.heap.size w (w.alloc (.cells #[.string nm, .int .i64 hw, .int .i64 t, .int .i64 n, .string s] 56)) := b_alloc (Below.refl _ _) _
  have cG := get_any (h.on hB0) hs hm nm
  obtain ⟨ar, lr, cr, hv⟩ := h.sl
  subst hv
  have hx2 : s.size ≤ maxLen := hx.2
  have HK : Hid (∀ W, Below (w.alloc (.cells #[.string nm, .int .i64 hw, .int .i64 t, .int .i64 n, .string s] 56)).heap.size (w.alloc (.cells #[.string nm, .int .i64 hw, .int .i64 t, .int .i64 n, .string s] 56)) W → Below w.heap.size w W ∧ (∀ o, (W.alloc o).cell? ⟨w.heap.size, 1, none⟩ = some (.int .i64 hw)) ∧ (∀ o, (W.alloc o).cell? ⟨w.heap.size, 2, none⟩ = some (.int .i64 t)) ∧ (∀ o, (W.alloc o).cell? ⟨w.heap.size, 3, none⟩ = some (.int .i64 n)) ∧ (∀ o, (W.alloc o).cell? ⟨w.heap.size, 4, none⟩ = some (.string s)) ∧ ¬ w.heap.size = W.heap.size) := fun W hW =>
    ⟨on1 hB0 hW, cell_old ((hW.cell (by simp)).trans (by simp)), cell_old ((hW.cell (by simp)).trans (by simp)), cell_old ((hW.cell (by simp)).trans (by simp)), cell_old ((hW.cell (by simp)).trans (by simp)), by have := hW.size; simp at this; omega⟩
  clear h hx hB0
  by_cases h1 : rfErr nm.toList rc = 0
  · obtain ⟨t', n', s', e1, e2, e3⟩ := get_pass hs h1
    rw [e1, h1, errV_0] at cG
    rw [e3]
    clear e1 e3 h1
    have cC := fun W => vcompare_any t' n' s' t n s W e2 hx2
    unfold val at cC
    have hne := neqV_any t' n' t n s' s
    have heq := eqlV_any t' n' t n s' s
    have hgd := fun op a b => egVV op a b #[.int .i64 t', .int .i64 n', .string s'] #[.int .i64 t, .int .i64 n, .string s]
    by_cases a1 : hw = 1
    · subst a1
      have HE : Hid (passV t' n' s' ⟨nm, 1, t, n, s⟩ = eqB t' n' s' t n s) := rfl
      rw [HE.out]
      clear cC hne
      generalize eqB t' n' s' t n s = r at heq ⊢
      go_enter Tryz.func27, Tryz.ntmps27
      go_wp2_with (go_at_call 50; refine cG.mono ?_; rintro e W1 ⟨rfl, hB1⟩; obtain ⟨hb1, k1, k2, k3, k4, k5⟩ := HK.out W1 hB1; have HB1 := Lib.hid hb1; clear hb1 hB1)
      go_ret
      exact ⟨rfl, b_alloc HB1.out _⟩
    by_cases a2 : hw = 2
    · subst a2
      have HE : Hid (passV t' n' s' ⟨nm, 2, t, n, s⟩ = !eqB t' n' s' t n s) := rfl
      rw [HE.out]
      clear cC heq
      generalize eqB t' n' s' t n s = r at hne ⊢
      go_enter Tryz.func27, Tryz.ntmps27
      go_wp2_with (go_at_call 50; refine cG.mono ?_; rintro e W1 ⟨rfl, hB1⟩; obtain ⟨hb1, k1, k2, k3, k4, k5⟩ := HK.out W1 hB1; have HB1 := Lib.hid hb1; clear hb1 hB1)
      go_ret
      exact ⟨rfl, b_alloc HB1.out _⟩
    by_cases a3 : hw = 3
    · subst a3
      have HE : Hid (passV t' n' s' ⟨nm, 3, t, n, s⟩ = (decide (cErr t' n' s'.data.toList t n s.data.toList = 0) && decide (cVal t' n' s'.data.toList t n s.data.toList < 0))) := rfl
      rw [HE.out]
      clear hne heq hgd HE
      generalize cVal t' n' s'.data.toList t n s.data.toList = r at cC ⊢
      by_cases hc : cErr t' n' s'.data.toList t n s.data.toList = 0
      · rw [hc, errV_0] at cC
        have HE : Hid ((decide (cErr t' n' s'.data.toList t n s.data.toList = 0) && decide (r < 0)) = decide (r < 0)) := by show _ = _; rw [hc]; simp
        rw [HE.out]
        clear hc HE
        go_enter Tryz.func27, Tryz.ntmps27
        go_wp2_with (first | (go_at_call 50; refine cG.mono ?_; rintro e W1 ⟨rfl, hB1⟩; obtain ⟨hb1, k1, k2, k3, k4, k5⟩ := HK.out W1 hB1; have HB1 := Lib.hid hb1; clear hb1 hB1) | (go_at_call 51; refine (cC _).mono ?_; rintro e W2 ⟨rfl, hB2⟩))
        go_ret
        exact ⟨rfl, on1K (b_alloc HB1.out _) hB2 (Nat.le_refl _)⟩
      · rw [errV_ne hc] at cC
        have HE : Hid ((decide (cErr t' n' s'.data.toList t n s.data.toList = 0) && decide (r < 0)) = false) := by show _ = _; rw [decide_eq_false hc]; rfl
        rw [HE.out]
        generalize cErr t' n' s'.data.toList t n s.data.toList = z at cC
        clear hc HE
        go_enter Tryz.func27, Tryz.ntmps27
        go_wp2_with (first | (go_at_call 50; refine cG.mono ?_; rintro e W1 ⟨rfl, hB1⟩; obtain ⟨hb1, k1, k2, k3, k4, k5⟩ := HK.out W1 hB1; have HB1 := Lib.hid hb1; clear hb1 hB1) | (go_at_call 51; refine (cC _).mono ?_; rintro e W2 ⟨rfl, hB2⟩))
        go_ret
        exact ⟨rfl, on1K (b_alloc HB1.out _) hB2 (Nat.le_refl _)⟩
    · have HE : Hid (passV t' n' s' ⟨nm, hw, t, n, s⟩ = true) := by show _ = _; unfold passV; simp only; rw [if_neg a1, if_neg a2, if_neg a3]
      rw [HE.out]
      have b1 : (hw == 1) = false := by simpa using a1
      have b2 : (hw == 2) = false := by simpa using a2
      have b3 : (hw == 3) = false := by simpa using a3
      clear hne heq hgd cC a1 a2 a3
      go_enter Tryz.func27, Tryz.ntmps27
      go_wp2_with (go_at_call 50; refine cG.mono ?_; rintro e W1 ⟨rfl, hB1⟩; obtain ⟨hb1, k1, k2, k3, k4, k5⟩ := HK.out W1 hB1; have HB1 := Lib.hid hb1; clear hb1 hB1)
      go_ret
      exact ⟨rfl, b_alloc HB1.out _⟩
  · rw [get_no h1, errV_ne h1] at cG
    have HE : Hid (pass rc ⟨nm, hw, t, n, s⟩ = false) := by show _ = _; unfold pass; simp only; rw [if_neg h1]
    rw [HE.out]
    generalize rfErr nm.toList rc = z at cG
    clear h1
    go_enter Tryz.func27, Tryz.ntmps27
    go_wp2_with (go_at_call 50; refine cG.mono ?_; rintro e W1 ⟨rfl, hB1⟩; obtain ⟨hb1, k1, k2, k3, k4, k5⟩ := HK.out W1 hB1; have HB1 := Lib.hid hb1; clear hb1 hB1)
    go_ret
    exact ⟨rfl, b_alloc HB1.out _⟩

set_option maxHeartbeats 4000000 in
set_option maxRecDepth 100000 in
/-- Passes of what is right. -/
theorem Passes_ok {v : Value} {rc : List Pr} {w : World} (h : IsR w v rc) (hs : Sz rc) (hm : rc.length ≤ maxLen) (x : Tst) (hx : TsSz x) (h1 : rErr rc = 0) (h2 : nErr x.nm.data.toList = 0) (h3 : howE x = 0) :
    Calls Tryz.prog 7 #[v, x.one] w fun e w' => e = .returned (.tuple #[.bool (pass rc x), .nilIface]) ∧ Below w.heap.size w w' := by
  obtain ⟨W0, hW0⟩ : ∃ W0, W0 = w.alloc (.cells #[.string x.nm, .int .i64 x.hw, .int .i64 x.t, .int .i64 x.n, .string x.s] 56) := ⟨_, rfl⟩
  have hB0 : Below w.heap.size w W0 := by rw [hW0]; exact b_alloc (Below.refl _ _) _
  have n0 : W0.heap[w.heap.size]? = some (.cells #[.string x.nm, .int .i64 x.hw, .int .i64 x.t, .int .i64 x.n, .string x.s] 56 (0, 0)) := by rw [hW0]; exact heap_alloc_new w _
  have hz0 : w.heap.size < W0.heap.size := by rw [hW0]; simp
  have HK : Hid (∀ W, Below W0.heap.size W0 W → Below w.heap.size w W ∧ (W.cell? ⟨w.heap.size, 0, none⟩ = some (.string x.nm) ∧ W.cell? ⟨w.heap.size, 1, none⟩ = some (.int .i64 x.hw) ∧ W.cell? ⟨w.heap.size, 2, none⟩ = some (.int .i64 x.t) ∧ W.cell? ⟨w.heap.size, 3, none⟩ = some (.int .i64 x.n) ∧ W.cell? ⟨w.heap.size, 4, none⟩ = some (.string x.s)) ∧ IsR W v rc) := fun W hW =>
    ⟨on1 hB0 hW, ⟨(hW.cell (p := ⟨w.heap.size, 0, none⟩) hz0).trans (cell_at n0 rfl), (hW.cell (p := ⟨w.heap.size, 1, none⟩) hz0).trans (cell_at n0 rfl), (hW.cell (p := ⟨w.heap.size, 2, none⟩) hz0).trans (cell_at n0 rfl), (hW.cell (p := ⟨w.heap.size, 3, none⟩) hz0).trans (cell_at n0 rfl), (hW.cell (p := ⟨w.heap.size, 4, none⟩) hz0).trans (cell_at n0 rfl)⟩, h.on (on1 hB0 hW)⟩
  have c1 := rcheck_r (h.on hB0) hs hm
  rw [h1, errV_0] at c1
  have c2 := fun W => name_any x.nm W hx.1
  rw [h2, errV_0] at c2
  have c3 := fun W => how_any x W hx.2
  rw [h3, errV_0] at c3
  have HP : Hid (∀ W, IsR W v rc → Calls Tryz.prog 27 #[v, x.one] W fun e w' => e = .returned (.bool (pass rc x)) ∧ Below W.heap.size W w') := fun W hR => passes_any hR hs hm x hx
  obtain ⟨ar, lr, cr, hv⟩ := h.sl
  subst hv
  generalize pass rc x = r at HP ⊢
  clear h hs hm hx h1 h2 h3 n0 hz0 hB0
  go_enter Tryz.func7, Tryz.ntmps7
  go_upto_region 1 with fail
  rw [← hW0]
  clear hW0
  go_wp2_with (first
    | (go_at_call 24; refine c1.mono ?_; rintro e W1 ⟨rfl, hB1⟩; obtain ⟨_, ⟨k0, k1, k2, k3, k4⟩, _⟩ := HK.out W1 hB1; have HB1 := Lib.hid hB1; clear hB1)
    | (go_at_call 25; refine (c2 _).mono ?_; rintro e W2 ⟨rfl, hW2⟩; subst hW2)
    | (go_at_call 26; refine (c3 _).mono ?_; rintro e W3 ⟨rfl, hB3⟩; have hB03 := on1K HB1.out hB3 (Nat.le_refl _); obtain ⟨hb3, ⟨m0, m1, m2, m3, m4⟩, hR3⟩ := HK.out W3 hB03; have cP := HP.out W3 hR3; have HB3 := Lib.hid hb3; clear hb3 hR3 hB03 hB3)
    | (go_at_call 27; refine cP.mono ?_; rintro e W4 ⟨rfl, hB4⟩))
  go_ret2
  exact ⟨rfl, on1K HB3.out hB4 (Nat.le_refl _)⟩

set_option maxHeartbeats 1000000 in
theorem fails_any (x : Tst) (bn : Nat) {v : Value} {rc : List Pr} {w : World} (hc : w.cell? ⟨bn, 2, none⟩ = some v) (hbn : bn < w.heap.size) (h : IsR w v rc) (hs : Sz rc) (hm : rc.length ≤ maxLen) (hx : TsSz x) :
    Calls Tryz.prog 34 #[x.one, .pointer (some ⟨bn, 0, none⟩)] w fun e w' => e = .returned (.bool (!pass rc x)) ∧ Below w.heap.size w w' := by
  have hB0 : Below w.heap.size w (w.alloc (.cells #[.string x.nm, .int .i64 x.hw, .int .i64 x.t, .int .i64 x.n, .string x.s] 56)) := b_alloc (Below.refl _ _) _
  have cP := passes_any (h.on hB0) hs hm x hx
  obtain ⟨ar, lr, cr, hv⟩ := h.sl
  subst hv
  have hbne : ¬ bn = w.heap.size := by omega
  have hc' := (hB0.cell (p := ⟨bn, 2, none⟩) hbn).trans hc
  generalize pass rc x = r at cP ⊢
  clear h hs hm hx
  go_enter Tryz.func34, Tryz.ntmps34
  go_wp2_with (go_at_call 27; refine cP.mono ?_; rintro e W1 ⟨rfl, hB1⟩)
  go_ret
  exact ⟨rfl, on1 hB0 hB1⟩

/-- The first test that is not passed. -/
def idxX (rc : List Pr) : List Tst → Nat → Int
  | [], _ => -1
  | x :: r, k => if pass rc x = false then (k : Int) else idxX rc r (k + 1)
theorem idxX_has (rc : List Pr) (L : List Tst) : ∀ k, decide (0 ≤ idxX rc L k) = !L.all (pass rc) := by
  induction L with
  | nil => intro k; simp [idxX]
  | cons x r ih =>
    intro k
    unfold idxX
    by_cases h : pass rc x = false
    · rw [if_pos h]; simp [h]
    · rw [if_neg h, ih]; simp [h]
set_option maxHeartbeats 4000000 in
set_option maxRecDepth 100000 in
theorem idxX_some (b off cap : Nat) (L : List Tst) (bn : Nat) {v : Value} {rc : List Pr} (w : World) (hb : b < w.heap.size) (hL : LiesTs w b off L) (hn : L.length ≤ 8) (hz : ∀ x ∈ L, TsSz x) (hbn : bn < w.heap.size) (hc : w.cell? ⟨bn, 2, none⟩ = some v) (h : IsR w v rc) (hs : Sz rc) (hm : rc.length ≤ maxLen) :
    Calls Tryz.prog 62 #[.slice (some ⟨b, off, none⟩) L.length cap, .func (.func 34) #[] #[.pointer (some ⟨bn, 0, none⟩)]] w fun e w' => e = .returned (.int .i64 (idxX rc L 0)) ∧ Below w.heap.size w w' := by
  have HL : Hid (LiesTs w b off L ∧ (∀ x ∈ L, TsSz x) ∧ IsR w v rc) := ⟨hL, hz, h⟩
  clear hL hz h
  go_enter Tryz.func62, Tryz.ntmps62
  go_wp2
  go_loopw [8] (fun i wr => ∃ k : Nat, k ≤ L.length ∧ i = .int .i64 k ∧ idxX rc L 0 = idxX rc (L.drop k) k ∧ Below w.heap.size w wr) (fun i _ => L.length - (intOf i).toNat)
  case atStart => exact ⟨0, Nat.zero_le _, rfl, rfl, Below.refl _ _⟩
  case round =>
    obtain ⟨k, hk, rfl, hi, hB⟩ := hrel
    have HI : Hid (idxX rc L 0 = idxX rc (L.drop k) k) := hi
    clear hi
    by_cases hlt : k < L.length
    · obtain ⟨f, hf⟩ : ∃ f, L[k]? = some f := ⟨L[k], by simp [hlt]⟩
      obtain ⟨e0, e1, e2, e3, e4⟩ := HL.out.1 k f hf
      have d0 := (hB.cell (p := ⟨b, off + k * 5, none⟩) hb).trans e0
      have d1 := (hB.cell (p := ⟨b, off + k * 5 + 1, none⟩) hb).trans e1
      have d2 := (hB.cell (p := ⟨b, off + k * 5 + 2, none⟩) hb).trans e2
      have d3 := (hB.cell (p := ⟨b, off + k * 5 + 3, none⟩) hb).trans e3
      have d4 := (hB.cell (p := ⟨b, off + k * 5 + 4, none⟩) hb).trans e4
      have HD : Hid (L.drop k = f :: L.drop (k + 1)) := dropK hf
      have cn := fails_any f bn ((hB.cell (p := ⟨bn, 2, none⟩) hbn).trans hc) (Nat.lt_of_lt_of_le hbn hB.size) (HL.out.2.2.on hB) hs hm (HL.out.2.1 f (List.mem_of_getElem? hf))
      clear e0 e1 e2 e3 e4 hf
      have HB := Lib.hid hB
      by_cases hq : pass rc f = false
      · have H : Hid (idxX rc L 0 = k) := by
          show _ = _
          rw [HI.out, HD.out]; unfold idxX; rw [if_pos hq]
        rw [hq] at cn
        clear HI HD hq hB
        go_wp2_with (go_at_call 34; refine cn.mono ?_; rintro e w' ⟨rfl, hB2⟩)
        go_ret
        exact ⟨ret_v (by rw [H.out]; rfl), on1 HB.out hB2⟩
      · have H : Hid (idxX rc L 0 = idxX rc (L.drop (k + 1)) (k + 1)) := by
          show _ = _
          rw [HI.out, HD.out]; conv => lhs; unfold idxX
          rw [if_neg hq]
        have hq' : pass rc f = true := by simpa using hq
        rw [hq'] at cn
        clear HI HD hq hq' hB
        go_wp2_with (go_at_call 34; refine cn.mono ?_; rintro e w' ⟨rfl, hB2⟩)
        go_roundw
        case rel => exact ⟨k + 1, by omega, by go_num, H.out, on1 HB.out hB2⟩
        case measure => simp [intOf]; omega
    · have hd : L.drop k = [] := List.drop_eq_nil_of_le (by omega)
      have H : Hid (idxX rc L 0 = -1) := by
        show _ = _
        rw [HI.out, hd]; rfl
      clear HI hd
      go_wp2
      go_ret
      exact ⟨ret_v (by rw [H.out]; rfl), hB⟩
set_option maxHeartbeats 1000000 in
theorem idxX_nil (ao : Option Addr) (c : Nat) (f : Value) (w : World) :
    Calls Tryz.prog 62 #[.slice ao 0 c, f] w fun e w' => e = .returned (.int .i64 (-1)) ∧ Below w.heap.size w w' := by
  go_enter Tryz.func62, Tryz.ntmps62
  go_wp2
  go_loopw [8] (fun i wr => i = .int .i64 0 ∧ wr = w) (fun i _ => 0)
  case atStart => exact ⟨rfl, rfl⟩
  case round =>
    obtain ⟨rfl, rfl⟩ := hrel
    go_wp2
    go_ret
    exact ⟨rfl, Below.refl _ _⟩
set_option maxHeartbeats 1000000 in
theorem anyX_any {vt : Value} {L : List Tst} (bn : Nat) {v : Value} {rc : List Pr} {w : World} (hT : IsTs w vt L) (hn : L.length ≤ 8) (hz : ∀ x ∈ L, TsSz x) (hbn : bn < w.heap.size) (hc : w.cell? ⟨bn, 2, none⟩ = some v) (h : IsR w v rc) (hs : Sz rc) (hm : rc.length ≤ maxLen) :
    Calls Tryz.prog 35 #[vt, .func (.func 34) #[] #[.pointer (some ⟨bn, 0, none⟩)]] w fun e w' => e = .returned (.bool (!L.all (pass rc))) ∧ Below w.heap.size w w' := by
  have c : Calls Tryz.prog 62 #[vt, .func (.func 34) #[] #[.pointer (some ⟨bn, 0, none⟩)]] w fun e w' => e = .returned (.int .i64 (idxX rc L 0)) ∧ Below w.heap.size w w' := by
    obtain ⟨ao, cp, rfl, rfl | ⟨b, off, rfl, hb, hl⟩⟩ := hT
    · exact idxX_nil _ _ _ w
    · exact idxX_some b off cp L bn w hb hl hn hz hbn hc h hs hm
  have H : Hid (decide (0 ≤ idxX rc L 0) = !L.all (pass rc)) := idxX_has rc L 0
  obtain ⟨ao, cp, rfl⟩ := hT.sl
  generalize idxX rc L 0 = r at c H
  clear hT hn hz hc h hs hm
  go_enter Tryz.func35, Tryz.ntmps35
  go_wp2_with (go_at_call 62; refine c.mono ?_; rintro e w' ⟨rfl, hB⟩)
  go_ret
  exact ⟨ret_v (by rw [← H.out]; rfl), hB⟩
end Go.Proofs.YtifcpjimhhpcpaaGreatDoor
