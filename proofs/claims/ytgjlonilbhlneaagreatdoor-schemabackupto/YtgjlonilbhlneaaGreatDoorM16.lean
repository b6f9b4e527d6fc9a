/-
  The walk of schema.parseKind.
-/
import Derived.Test.YtgjlonilbhlneaaGreatDoorM15
namespace Go.Proofs.YtgjlonilbhlneaaGreatDoor
open Go.RowKit
set_option linter.unusedVariables false
set_option linter.unusedSimpArgs false

theorem isS_nil (w : World) : IsS w (.slice none 0 0) [] := .inl ⟨none, 0, rfl, rfl, by decide, fun _ => rfl⟩
theorem b_drew1 {B : Nat} {a w : World} (h : Below B a w) : Below B a w.drew := ⟨h.os, h.tape, h.output, h.size, h.block⟩
def KP (w : World) (x1 : Nm) (o : List Nm) (ws : List Nm) (e : Ending) (w' : World) : Prop :=
  (if (areN [x1] && areN o && ws.all fdOk) = true then ∃ vo vf, e = .returned (.tuple #[.agg #[.string (bs x1), vo, vf], .bool true]) ∧ w'.ownsRow w.heap.size 9 1 vo o.length (cellsS o) ∧ w'.ownsRow w.heap.size 52 4 vf ws.length (cellsF (ws.map fdOf)) else e = .returned (.tuple #[kdZ, .bool false])) ∧ Below w.heap.size w w'
theorem kp_bad {w w' : World} {x1 : Nm} {o ws : List Nm} (h : (areN [x1] && areN o && ws.all fdOk) = false) (hB : Below w.heap.size w w') : KP w x1 o ws (.returned (.tuple #[kdZ, .bool false])) w' := by
  unfold KP; rw [h]; exact ⟨rfl, hB⟩
theorem b_set3 {w W : World} (h : Below w.heap.size w W) (a b c : Value) : Below w.heap.size w (((W.setCell ⟨w.heap.size, 0, none⟩ a).setCell ⟨w.heap.size, 1, none⟩ b).setCell ⟨w.heap.size, 2, none⟩ c) :=
  ((h.setCell (Nat.le_refl _) _).setCell (Nat.le_refl _) _).setCell (Nat.le_refl _) _
theorem own_bel {w w' : World} {base : Nat} {e : TypeId} {size : Nat} {v : Value} {n : Nat} {xs : List Value} (h : w.ownsRow base e size v n xs) (hB : Below w.heap.size w w') : w'.ownsRow base e size v n xs := by
  refine ⟨h.1, ?_⟩
  rcases h.2 with h | ⟨g, cap, cur, rfl, hg0, hg, rest⟩
  · exact .inl h
  · exact .inr ⟨g, cap, cur, rfl, hg0, (hB.block g (Array.getElem?_eq_some_iff.1 hg).1).trans hg, rest⟩
theorem all_no {ws : List Nm} {k : Nat} {x : Nm} (h : ws[k]? = some x) (hx : fdOk x = false) : ws.all fdOk = false := by
  rw [Bool.eq_false_iff]
  intro ha
  rw [List.all_eq_true] at ha
  have := ha x (List.mem_of_getElem? h)
  rw [hx] at this; cases this

set_option maxHeartbeats 2000000 in
set_option maxRecDepth 100000 in
theorem parseKind_v2 (b off n c : Nat) (x1 : Nm) (ws : List Nm) (w : World) (hb : b < w.heap.size) (c0 : w.cell? ⟨b, off, none⟩ = some (.string (bs wKind))) (c1 : w.cell? ⟨b, off + 1, none⟩ = some (.string (bs x1))) (hw : ∀ k x, ws[k]? = some x → w.cell? ⟨b, off + 2 + k, none⟩ = some (.string (bs x)))
    (hn : n = ws.length + 2) (hc : n ≤ c) (hm : c ≤ maxLen) (hc2 : ¬ c = 2) (hno : ws.length ≤ 1) (hz : ∀ x ∈ ws, x.length < 4294967281) (hz1 : x1.length < 4294967281) (hE : EV w) :
    Calls Tryz.prog 59 #[.slice (some ⟨b, off, none⟩) n c] w (KP w x1 [] ws) := by
  obtain ⟨i0, hi0, hz0, hz1', hz2⟩ := info_parts infoFd
  have hB0 : Below w.heap.size w (resK w) := b_alloc (Below.refl _ _) (Nat.le_refl _) _
  have e0 := (hB0.cell (p := ⟨b, off, none⟩) hb).trans c0
  have e1 := (hB0.cell (p := ⟨b, off + 1, none⟩) hb).trans c1
  have HW : Hid (∀ k x, ws[k]? = some x → w.cell? ⟨b, off + 2 + k, none⟩ = some (.string (bs x))) := hw
  have HZ : Hid (∀ x ∈ ws, x.length < 4294967281) := hz
  have HE : Hid (EV w) := hE
  have hB1 : Below w.heap.size w (((w.alloc (.cells #[.string (bs x1), .slice none 0 0, .slice none 0 0] 55)).alloc (.cells #[.string (bs x1)] 9)).drew) := b_drew1 (b_alloc (b_alloc (Below.refl _ _) (Nat.le_refl _) _) (Nat.le_refl _) _)
  have hR1 : (((w.alloc (.cells #[.string (bs x1), .slice none 0 0, .slice none 0 0] 55)).alloc (.cells #[.string (bs x1)] 9)).drew).heap[w.heap.size]? = some (.cells #[.string (bs x1), .slice none 0 0, .slice none 0 0] 55 (0, 0)) := (Below.heap_alloc _ _ _ (by simp)).trans (heap_alloc_new w _)
  have hI : IsS (((w.alloc (.cells #[.string (bs x1), .slice none 0 0, .slice none 0 0] 55)).alloc (.cells #[.string (bs x1)] 9)).drew) (.slice (some ⟨w.heap.size + 1, 0, none⟩) 1 1) [x1] := by
    have := one_isS (w.alloc (.cells #[.string (bs x1), .slice none 0 0, .slice none 0 0] 55)) x1
    rw [World.size_alloc] at this
    exact isS_dr this 1
  have cA := areNames_any hI (by simp) (fun x hx => by obtain rfl : x = x1 := by simpa using hx
                                                       exact hz1)
  have cN := fun W => areNames_any (isS_nil W) (by simp) (fun x hx => by simp at hx)
  have hN0 : areN [] = true := rfl
  rw [hN0] at cN
  have hnm : n - 2 = ws.length := by omega
  have hbn : ¬ b = w.heap.size := by omega
  have hn2 : ¬ (n : Int) < 2 := by omega
  have hi : (0 : Int) < (n : Int) := by omega
  have hi1 : (1 : Int) < (n : Int) := by omega
  have hi2 : (2 : Int) ≤ (n : Int) := by omega
  have hi3 : (n : Int) ≤ (c : Int) := by omega
  have hno' : ¬ (1 : Int) < (ws.length : Int) := by omega
  clear c0 c1 hw hz hE hI hn
  cases hA : areN [x1]
  · rw [hA] at cA
    have HN : Hid ((areN [x1] && areN [] && ws.all fdOk) = false) := by
      show _ = _
      rw [hA]; rfl
    clear hA
    go_enter Tryz.func59, Tryz.ntmps59
    go_wp2
    first | (go_region_with (fail)) | fail
    all_goals
      go_wp2_with (go_at_call 86; refine cA.mono ?_; rintro e W1 ⟨rfl, hB2⟩; have k1 := (hB2.block w.heap.size (by simp; omega)).trans hR1; have m0 := cellB (i := 0) k1 rfl; have m1 := cellB (i := 1) k1 rfl; have m2 := cellB (i := 2) k1 rfl; have f0 := frzB (i := 0) k1; have f1 := frzB (i := 1) k1; have f2 := frzB (i := 2) k1)
      (try simp only [Exit.inBlock, Exit.then])
      refine bodyPost_ret (v := .tuple #[kdZ, .bool false]) ?_ rfl ?_
      · rw [results_cell_tmp rfl]
        go_simp
      · exact kp_bad HN.out (b_set3 (on1 hB1 hB2 (Nat.le_refl _)) _ _ _)
  · rw [hA] at cA
    have HA : Hid (areN [x1] = true) := hA
    clear hA
    go_enter Tryz.func59, Tryz.ntmps59
    go_wp2
    first | (go_region_with (fail)) | fail
    all_goals
      go_wp2_with (go_at_call 86; refine cA.mono ?_; rintro e W1 ⟨rfl, hB2⟩; refine Hid.out ?_)
      refine Lib.hid ?_
      have k1 := (hB2.block w.heap.size (by simp; omega)).trans hR1
      have k1' := cellB (i := 1) k1 rfl
      go_wp2_with (go_at_call 86; refine (cN _).mono ?_; rintro e W2 ⟨rfl, hB3⟩)
      have HB : Hid (W2.heap[w.heap.size]? = some (.cells #[.string (bs x1), .slice none 0 0, .slice none 0 0] 55 (0, 0)) ∧ Below w.heap.size w W2) := ⟨(hB3.block _ (Array.getElem?_eq_some_iff.1 k1).1).trans k1, on1 (on1 hB1 hB2 (Nat.le_refl _)) hB3 (Nat.le_refl _)⟩
      have hRW : w.heap.size < W2.heap.size := (Array.getElem?_eq_some_iff.1 HB.out.1).1
      have HAA : Hid ((areN [x1] && areN []) = true) := by
        show _ = _
        rw [HA.out]; rfl
      clear cA cN k1 k1' hB1 hB2 hB3 hR1
      obtain ⟨WL, hWL⟩ : ∃ WL, WL = W2 := ⟨_, rfl⟩
      have HL : Hid (PK w W2 x1 (.slice none 0 0) ws (.int .i64 0) W2) := ⟨0, .slice none 0 0, Nat.zero_le _, rfl, fun x hx => by simp at hx, World.ownsRow_nil _ _ _ _, HB.out.1, fun _ _ _ => rfl, Nat.le_refl _, HB.out.2⟩
      clear hWL
      go_loopw [54] (fun i wr => PK w W2 x1 (.slice none 0 0) ws i wr) (fun i _ => ws.length - (intOf i).toNat)
      case atStart => exact HL.out
      case round =>
        obtain ⟨k, v, hk, rfl, hall, hO, hG, hK, hs, hBr⟩ := hrel
        obtain ⟨av, cv, rfl⟩ := own_slice hO
        have g0 := cellB (i := 0) hG rfl
        have g1 := cellB (i := 1) hG rfl
        have g2 := cellB (i := 2) hG rfl
        have f0 := frzB (i := 0) hG
        have f1 := frzB (i := 1) hG
        have f2 := frzB (i := 2) hG
        have hRr : w.heap.size < wr.heap.size := (Array.getElem?_eq_some_iff.1 hG).1
        have HH : Hid ((∀ x ∈ ws.take k, fdOk x = true) ∧ wr.ownsRow W2.heap.size 52 4 (.slice av k cv) k (cellsF ((ws.take k).map fdOf)) ∧ wr.heap[w.heap.size]? = some (.cells #[.string (bs x1), (.slice none 0 0), .slice av k cv] 55 (0, 0)) ∧ (∀ b, b < W2.heap.size → b ≠ w.heap.size → wr.heap[b]? = W2.heap[b]?) ∧ W2.heap.size ≤ wr.heap.size ∧ Below w.heap.size w wr) := ⟨hall, hO, hG, hK, hs, hBr⟩
        by_cases hlt : k < ws.length
        · obtain ⟨x, hx⟩ : ∃ x, ws[k]? = some x := ⟨ws[k], by simp [hlt]⟩
          have d0 := (hBr.cell (p := ⟨b, off + 2 + k, none⟩) hb).trans (HW.out k x hx)
          have cf := parseField_any x wr (HZ.out x (List.mem_of_getElem? hx)) (HE.out.on hBr)
          have HXk : Hid (ws[k]? = some x) := hx
          have hki : (k : Int) < (ws.length : Int) := by omega
          obtain ⟨f, hf⟩ : ∃ f, fdOf x = f := ⟨_, rfl⟩
          rw [hf] at cf
          have HF : Hid (fdOf x = f) := hf
          clear hall hO hG hK hs hBr hx hf
          obtain ⟨fn, ft, fm, fk⟩ := f
          cases hok : fdOk x
          · rw [hok] at cf
            have HN : Hid (ws.all fdOk = false) := all_no HXk.out hok
            clear hok
            go_wp2_with (first | (go_at_call 88; refine cf.mono ?_; rintro e W5 ⟨rfl, hB5⟩; have k0 := (hB5.cell (p := ⟨w.heap.size, 0, none⟩) hRr).trans g0; have k1 := (hB5.cell (p := ⟨w.heap.size, 1, none⟩) hRr).trans g1; have k2 := (hB5.cell (p := ⟨w.heap.size, 2, none⟩) hRr).trans g2; have q0 := (hB5.frozen (p := ⟨w.heap.size, 0, none⟩) hRr).trans f0; have q1 := (hB5.frozen (p := ⟨w.heap.size, 1, none⟩) hRr).trans f1; have q2 := (hB5.frozen (p := ⟨w.heap.size, 2, none⟩) hRr).trans f2; have hn5 : ¬ w.heap.size = W5.heap.size := fun h => absurd hB5.size (by omega); have y0 := ((b_alloc hB5 (Nat.le_refl _) (.cells #[.string (bs fn), .int .i64 ft, .bool fm, .bool fk] 52)).cell (p := ⟨w.heap.size, 0, none⟩) hRr).trans g0; have z0 := ((b_alloc hB5 (Nat.le_refl _) (.cells #[.string (bs fn), .int .i64 ft, .bool fm, .bool fk] 52)).frozen (p := ⟨w.heap.size, 0, none⟩) hRr).trans f0; have y1 := ((b_alloc hB5 (Nat.le_refl _) (.cells #[.string (bs fn), .int .i64 ft, .bool fm, .bool fk] 52)).cell (p := ⟨w.heap.size, 1, none⟩) hRr).trans g1; have z1 := ((b_alloc hB5 (Nat.le_refl _) (.cells #[.string (bs fn), .int .i64 ft, .bool fm, .bool fk] 52)).frozen (p := ⟨w.heap.size, 1, none⟩) hRr).trans f1; have y2 := ((b_alloc hB5 (Nat.le_refl _) (.cells #[.string (bs fn), .int .i64 ft, .bool fm, .bool fk] 52)).cell (p := ⟨w.heap.size, 2, none⟩) hRr).trans g2; have z2 := ((b_alloc hB5 (Nat.le_refl _) (.cells #[.string (bs fn), .int .i64 ft, .bool fm, .bool fk] 52)).frozen (p := ⟨w.heap.size, 2, none⟩) hRr).trans f2))
            (try simp only [Exit.inBlock, Exit.then])
            refine bodyPost_ret (v := .tuple #[kdZ, .bool false]) ?_ rfl ?_
            · rw [results_cell_tmp rfl]
              go_simp
            · exact kp_bad (by rw [HN.out, Bool.and_false]) (by first | exact b_set3 (b_alloc (on1 HH.out.2.2.2.2.2 hB5 (Nat.le_refl _)) (Nat.le_refl _) _) _ _ _ | exact b_alloc (b_set3 (on1 HH.out.2.2.2.2.2 hB5 (Nat.le_refl _)) _ _ _) (Nat.le_refl _) _)
          · rw [hok] at cf
            have HOK : Hid (fdOk x = true) := hok
            have HO5 : Hid (∀ W5, Below wr.heap.size wr W5 → (wF W5 ⟨fn, ft, fm, fk⟩).ownsRow W2.heap.size 52 4 (.slice av k cv) k (cellsF ((ws.take k).map fdOf)) ∧ W2.heap.size ≤ (wF W5 ⟨fn, ft, fm, fk⟩).heap.size) := fun W5 h5 => ⟨(own_bel HH.out.2.1 h5).alloc _ |>.alloc _, by have := h5.size; have := HH.out.2.2.2.2.1; simp [wF]; omega⟩
            have HK : Hid (∀ W5 w1, Below wr.heap.size wr W5 → (wF W5 ⟨fn, ft, fm, fk⟩).grownBy w1 (Value.slice av k cv).ownBlock → w1.cell? ⟨w.heap.size, 2, none⟩ = some (.slice av k cv) ∧ w1.frozen? ⟨w.heap.size, 2, none⟩ = false) := fun W5 w1 h5 hg1 => by
              have hne := row_apart HH.out.2.1 HH.out.2.2.1 (by decide)
              have hbk : w1.heap[w.heap.size]? = some (.cells #[.string (bs x1), (.slice none 0 0), .slice av k cv] 55 (0, 0)) := (hg1.block _ (Nat.lt_of_lt_of_le hRr (on1 h5 (bF W5 _) (Nat.le_refl _)).size) (fun h => hne h.symm)).trans (((on1 h5 (bF W5 _) (Nat.le_refl _)).block _ hRr).trans HH.out.2.2.1)
              exact ⟨cellB hbk rfl, frzB hbk⟩
            have HM : Hid (k + 1 ≤ maxLen ∧ (k + 1) * 32 ≤ 140737488355328) := by unfold maxLen; exact ⟨by omega, by omega⟩
            have HNA : Hid (∀ W5 : World, ∀ j u, [Value.string (bs fn), .int .i64 ft, .bool fm, .bool fk][j]? = some u → (wF W5 ⟨fn, ft, fm, fk⟩).cell? ((⟨W5.heap.size + 1, 0, none⟩ : Addr).add j) = some u) := fun W5 => by
              have := new_at (W5.alloc (.cells #[.string (bs fn), .int .i64 ft, .bool fm, .bool fk] 52)) [.string (bs fn), .int .i64 ft, .bool fm, .bool fk] 52
              rw [World.size_alloc] at this
              exact this
            have hwk : IntKind.i64.wrap ((k : Int) + 1) = (k : Int) + 1 := by rw [IntKind.wrap_i64]; omega
            clear hok
            go_wp2_with (first | (go_at_call 88; refine cf.mono ?_; rintro e W5 ⟨rfl, hB5⟩; have k2 := (hB5.cell (p := ⟨w.heap.size, 2, none⟩) hRr).trans g2; have hn5 : ¬ w.heap.size = W5.heap.size := fun h => absurd hB5.size (by omega); have y0 := ((b_alloc hB5 (Nat.le_refl _) (.cells #[.string (bs fn), .int .i64 ft, .bool fm, .bool fk] 52)).cell (p := ⟨w.heap.size, 0, none⟩) hRr).trans g0; have z0 := ((b_alloc hB5 (Nat.le_refl _) (.cells #[.string (bs fn), .int .i64 ft, .bool fm, .bool fk] 52)).frozen (p := ⟨w.heap.size, 0, none⟩) hRr).trans f0; have y1 := ((b_alloc hB5 (Nat.le_refl _) (.cells #[.string (bs fn), .int .i64 ft, .bool fm, .bool fk] 52)).cell (p := ⟨w.heap.size, 1, none⟩) hRr).trans g1; have z1 := ((b_alloc hB5 (Nat.le_refl _) (.cells #[.string (bs fn), .int .i64 ft, .bool fm, .bool fk] 52)).frozen (p := ⟨w.heap.size, 1, none⟩) hRr).trans f1; have y2 := ((b_alloc hB5 (Nat.le_refl _) (.cells #[.string (bs fn), .int .i64 ft, .bool fm, .bool fk] 52)).cell (p := ⟨w.heap.size, 2, none⟩) hRr).trans g2; have z2 := ((b_alloc hB5 (Nat.le_refl _) (.cells #[.string (bs fn), .int .i64 ft, .bool fm, .bool fk] 52)).frozen (p := ⟨w.heap.size, 2, none⟩) hRr).trans f2) | (at_builtin; refine wpList_append_own _ rfl (.tmp 67) (.tmp 69) 53 rfl W2.heap.size 52 i0 _ 4 32 Tryz.underlying53 hi0 hz0 hz1' hz2 rfl (by decide) (.slice av k cv) k (cellsF ((ws.take k).map fdOf)) rfl (HO5.out W5 hB5).1 ⟨W5.heap.size + 1, 0, none⟩ 1 1 [.string (bs fn), .int .i64 ft, .bool fm, .bool fk] (by simp [Act.eval]) rfl (HNA.out W5) (by simp [Value.oneCell']) HM.out.1 HM.out.2 (HO5.out W5 hB5).2 ?_; intro v1 w1 hown1 hgrow1 _; obtain ⟨q0, q1⟩ := HK.out W5 w1 hB5 hgrow1; obtain ⟨a1, c1, rfl⟩ := own_slice hown1))
            have HR2 : Hid (PK w W2 x1 (.slice none 0 0) ws (.int .i64 ((k : Int) + 1)) (w1.setCell ⟨w.heap.size, 2, none⟩ (.slice a1 (k + 1) c1))) := pk_step HXk.out HOK.out hRW HH.out.1 HH.out.2.1 HH.out.2.2.1 HH.out.2.2.2.1 HH.out.2.2.2.2.1 HH.out.2.2.2.2.2 hB5 (by rw [HF.out]; exact hown1) (by rw [HF.out]; exact hgrow1)
            refine ⟨?_, ?_⟩
            · first | exact HR2.out | ((repeat apply Exists.intro); refine ⟨?_, rfl⟩; exact HR2.out)
            · simp [intOf]
              try omega
        · obtain rfl : k = ws.length := by omega
          have HFin : Hid (KP w x1 [] ws (.returned (.tuple #[.agg #[.string (bs x1), (.slice none 0 0), .slice av ws.length cv], .bool true])) (((wr.setCell ⟨w.heap.size, 0, none⟩ (.string (bs x1))).setCell ⟨w.heap.size, 1, none⟩ (.slice none 0 0)).setCell ⟨w.heap.size, 2, none⟩ (.slice av ws.length cv))) := by
            have hne := row_apart hO hG (by decide)
            have hO' := own_set (own_set (own_set hO hne 0 (.string (bs x1))) hne 1 (.slice none 0 0)) hne 2 (.slice av ws.length cv)
            rw [List.take_length] at hO' hall
            refine ⟨?_, b_set3 hBr _ _ _⟩
            rw [if_pos (by rw [HAA.out, List.all_eq_true.2 hall]; rfl)]
            exact ⟨_, _, rfl, World.ownsRow_nil _ _ _ _, own_base hO' (Nat.le_of_lt hRW)⟩
          have hR3 : wr.heap[w.heap.size]? = some (.cells #[.string (bs x1), (.slice none 0 0), .slice av ws.length cv] 55 (0, 0)) := hG
          clear hall hO hG hK hs hBr
          go_wp2
          (try simp only [Exit.inBlock, Exit.then])
          refine bodyPost_ret (v := .tuple #[.agg #[.string (bs x1), (.slice none 0 0), .slice av ws.length cv], .bool true]) ?_ rfl HFin.out
          rw [results_cell_tmp rfl]
          go_simp
end Go.Proofs.YtgjlonilbhlneaaGreatDoor

/-
  The walk of schema.parseKind: two words or more behind the name, the first of which is not 'of'.
-/
namespace Go.Proofs.YtgjlonilbhlneaaGreatDoor
open Go.RowKit
set_option linter.unusedVariables false
set_option linter.unusedSimpArgs false

set_option maxHeartbeats 2000000 in
set_option maxRecDepth 100000 in
theorem parseKind_v3 (b off n c : Nat) (x1 x2 : Nm) (ws : List Nm) (w : World) (hb : b < w.heap.size) (c0 : w.cell? ⟨b, off, none⟩ = some (.string (bs wKind))) (c1 : w.cell? ⟨b, off + 1, none⟩ = some (.string (bs x1))) (hw : ∀ k x, ws[k]? = some x → w.cell? ⟨b, off + 2 + k, none⟩ = some (.string (bs x)))
    (hn : n = ws.length + 2) (hc : n ≤ c) (hm : c ≤ maxLen) (hwl : ws.length ≤ 1000000000) (hws : 1 < ws.length) (h2 : ws[0]? = some x2) (hof : (x2 == [111, 102]) = false) (hz : ∀ x ∈ ws, x.length < 4294967281) (hz1 : x1.length < 4294967281) (hE : EV w) :
    Calls Tryz.prog 59 #[.slice (some ⟨b, off, none⟩) n c] w (KP w x1 [] ws) := by
  obtain ⟨i0, hi0, hz0, hz1', hz2⟩ := info_parts infoFd
  have hB0 : Below w.heap.size w (resK w) := b_alloc (Below.refl _ _) (Nat.le_refl _) _
  have e0 := (hB0.cell (p := ⟨b, off, none⟩) hb).trans c0
  have e1 := (hB0.cell (p := ⟨b, off + 1, none⟩) hb).trans c1
  have HW : Hid (∀ k x, ws[k]? = some x → w.cell? ⟨b, off + 2 + k, none⟩ = some (.string (bs x))) := hw
  have HZ : Hid (∀ x ∈ ws, x.length < 4294967281) := hz
  have HE : Hid (EV w) := hE
  have hB1 : Below w.heap.size w (((w.alloc (.cells #[.string (bs x1), .slice none 0 0, .slice none 0 0] 55)).alloc (.cells #[.string (bs x1)] 9)).drew) := b_drew1 (b_alloc (b_alloc (Below.refl _ _) (Nat.le_refl _) _) (Nat.le_refl _) _)
  have hR1 : (((w.alloc (.cells #[.string (bs x1), .slice none 0 0, .slice none 0 0] 55)).alloc (.cells #[.string (bs x1)] 9)).drew).heap[w.heap.size]? = some (.cells #[.string (bs x1), .slice none 0 0, .slice none 0 0] 55 (0, 0)) := (Below.heap_alloc _ _ _ (by simp)).trans (heap_alloc_new w _)
  have hI : IsS (((w.alloc (.cells #[.string (bs x1), .slice none 0 0, .slice none 0 0] 55)).alloc (.cells #[.string (bs x1)] 9)).drew) (.slice (some ⟨w.heap.size + 1, 0, none⟩) 1 1) [x1] := by
    have := one_isS (w.alloc (.cells #[.string (bs x1), .slice none 0 0, .slice none 0 0] 55)) x1
    rw [World.size_alloc] at this
    exact isS_dr this 1
  have cA := areNames_any hI (by simp) (fun x hx => by obtain rfl : x = x1 := by simpa using hx
                                                       exact hz1)
  have cN := fun W => areNames_any (isS_nil W) (by simp) (fun x hx => by simp at hx)
  have hN0 : areN [] = true := rfl
  rw [hN0] at cN
  have hnm : n - 2 = ws.length := by omega
  have hbn : ¬ b = w.heap.size := by omega
  have hn2 : ¬ (n : Int) < 2 := by omega
  have hi : (0 : Int) < (n : Int) := by omega
  have hi1 : (1 : Int) < (n : Int) := by omega
  have hi2 : (2 : Int) ≤ (n : Int) := by omega
  have hi3 : (n : Int) ≤ (c : Int) := by omega
  have hgo : (1 : Int) < (ws.length : Int) := by omega
  have hgo0 : (0 : Int) < (ws.length : Int) := by omega
  have hc2 : ¬ c = 2 := by omega
  have hBd : Below w.heap.size w (w.alloc (.cells #[.string (bs x1), .slice none 0 0, .slice none 0 0] 55)) := b_alloc (Below.refl _ _) (Nat.le_refl _) _
  have e2 : (w.alloc (.cells #[.string (bs x1), .slice none 0 0, .slice none 0 0] 55)).cell? ⟨b, off + 2, none⟩ = some (.string (bs x2)) := (hBd.cell (p := ⟨b, off + 2, none⟩) hb).trans (by have := hw 0 x2 h2; rwa [Nat.add_zero] at this)
  have e2d : (w.alloc (.cells #[.string (bs x1), .slice none 0 0, .slice none 0 0] 55)).drew.cell? ⟨b, off + 2, none⟩ = some (.string (bs x2)) := e2
  clear hBd
  clear c0 c1 hw hz hE hI hn
  cases hA : areN [x1]
  · rw [hA] at cA
    have HN : Hid ((areN [x1] && areN [] && ws.all fdOk) = false) := by
      show _ = _
      rw [hA]; rfl
    clear hA
    go_enter Tryz.func59, Tryz.ntmps59
    go_wp2
    first | (go_region_with (fail)) | fail
    all_goals
      go_wp2_with (go_at_call 86; refine cA.mono ?_; rintro e W1 ⟨rfl, hB2⟩; have k1 := (hB2.block w.heap.size (by simp; omega)).trans hR1; have m0 := cellB (i := 0) k1 rfl; have m1 := cellB (i := 1) k1 rfl; have m2 := cellB (i := 2) k1 rfl; have f0 := frzB (i := 0) k1; have f1 := frzB (i := 1) k1; have f2 := frzB (i := 2) k1)
      (try simp only [Exit.inBlock, Exit.then])
      refine bodyPost_ret (v := .tuple #[kdZ, .bool false]) ?_ rfl ?_
      · rw [results_cell_tmp rfl]
        go_simp
      · exact kp_bad HN.out (b_set3 (on1 hB1 hB2 (Nat.le_refl _)) _ _ _)
  · rw [hA] at cA
    have HA : Hid (areN [x1] = true) := hA
    clear hA
    go_enter Tryz.func59, Tryz.ntmps59
    go_wp2
    first | (go_region_with (fail)) | fail
    all_goals
      go_wp2_with (go_at_call 86; refine cA.mono ?_; rintro e W1 ⟨rfl, hB2⟩; refine Hid.out ?_)
      refine Lib.hid ?_
      have k1 := (hB2.block w.heap.size (by simp; omega)).trans hR1
      have k1' := cellB (i := 1) k1 rfl
      go_wp2_with (go_at_call 86; refine (cN _).mono ?_; rintro e W2 ⟨rfl, hB3⟩)
      have HB : Hid (W2.heap[w.heap.size]? = some (.cells #[.string (bs x1), .slice none 0 0, .slice none 0 0] 55 (0, 0)) ∧ Below w.heap.size w W2) := ⟨(hB3.block _ (Array.getElem?_eq_some_iff.1 k1).1).trans k1, on1 (on1 hB1 hB2 (Nat.le_refl _)) hB3 (Nat.le_refl _)⟩
      have hRW : w.heap.size < W2.heap.size := (Array.getElem?_eq_some_iff.1 HB.out.1).1
      have HAA : Hid ((areN [x1] && areN []) = true) := by
        show _ = _
        rw [HA.out]; rfl
      clear cA cN k1 k1' hB1 hB2 hB3 hR1
      obtain ⟨WL, hWL⟩ : ∃ WL, WL = W2 := ⟨_, rfl⟩
      have HL : Hid (PK w W2 x1 (.slice none 0 0) ws (.int .i64 0) W2) := ⟨0, .slice none 0 0, Nat.zero_le _, rfl, fun x hx => by simp at hx, World.ownsRow_nil _ _ _ _, HB.out.1, fun _ _ _ => rfl, Nat.le_refl _, HB.out.2⟩
      clear hWL
      go_loopw [54] (fun i wr => PK w W2 x1 (.slice none 0 0) ws i wr) (fun i _ => ws.length - (intOf i).toNat)
      case atStart => exact HL.out
      case round =>
        obtain ⟨k, v, hk, rfl, hall, hO, hG, hK, hs, hBr⟩ := hrel
        obtain ⟨av, cv, rfl⟩ := own_slice hO
        have g0 := cellB (i := 0) hG rfl
        have g1 := cellB (i := 1) hG rfl
        have g2 := cellB (i := 2) hG rfl
        have f0 := frzB (i := 0) hG
        have f1 := frzB (i := 1) hG
        have f2 := frzB (i := 2) hG
        have hRr : w.heap.size < wr.heap.size := (Array.getElem?_eq_some_iff.1 hG).1
        have HH : Hid ((∀ x ∈ ws.take k, fdOk x = true) ∧ wr.ownsRow W2.heap.size 52 4 (.slice av k cv) k (cellsF ((ws.take k).map fdOf)) ∧ wr.heap[w.heap.size]? = some (.cells #[.string (bs x1), (.slice none 0 0), .slice av k cv] 55 (0, 0)) ∧ (∀ b, b < W2.heap.size → b ≠ w.heap.size → wr.heap[b]? = W2.heap[b]?) ∧ W2.heap.size ≤ wr.heap.size ∧ Below w.heap.size w wr) := ⟨hall, hO, hG, hK, hs, hBr⟩
        by_cases hlt : k < ws.length
        · obtain ⟨x, hx⟩ : ∃ x, ws[k]? = some x := ⟨ws[k], by simp [hlt]⟩
          have d0 := (hBr.cell (p := ⟨b, off + 2 + k, none⟩) hb).trans (HW.out k x hx)
          have cf := parseField_any x wr (HZ.out x (List.mem_of_getElem? hx)) (HE.out.on hBr)
          have HXk : Hid (ws[k]? = some x) := hx
          have hki : (k : Int) < (ws.length : Int) := by omega
          obtain ⟨f, hf⟩ : ∃ f, fdOf x = f := ⟨_, rfl⟩
          rw [hf] at cf
          have HF : Hid (fdOf x = f) := hf
          clear hall hO hG hK hs hBr hx hf
          obtain ⟨fn, ft, fm, fk⟩ := f
          cases hok : fdOk x
          · rw [hok] at cf
            have HN : Hid (ws.all fdOk = false) := all_no HXk.out hok
            clear hok
            go_wp2_with (first | (go_at_call 88; refine cf.mono ?_; rintro e W5 ⟨rfl, hB5⟩; have k0 := (hB5.cell (p := ⟨w.heap.size, 0, none⟩) hRr).trans g0; have k1 := (hB5.cell (p := ⟨w.heap.size, 1, none⟩) hRr).trans g1; have k2 := (hB5.cell (p := ⟨w.heap.size, 2, none⟩) hRr).trans g2; have q0 := (hB5.frozen (p := ⟨w.heap.size, 0, none⟩) hRr).trans f0; have q1 := (hB5.frozen (p := ⟨w.heap.size, 1, none⟩) hRr).trans f1; have q2 := (hB5.frozen (p := ⟨w.heap.size, 2, none⟩) hRr).trans f2; have hn5 : ¬ w.heap.size = W5.heap.size := fun h => absurd hB5.size (by omega); have y0 := ((b_alloc hB5 (Nat.le_refl _) (.cells #[.string (bs fn), .int .i64 ft, .bool fm, .bool fk] 52)).cell (p := ⟨w.heap.size, 0, none⟩) hRr).trans g0; have z0 := ((b_alloc hB5 (Nat.le_refl _) (.cells #[.string (bs fn), .int .i64 ft, .bool fm, .bool fk] 52)).frozen (p := ⟨w.heap.size, 0, none⟩) hRr).trans f0; have y1 := ((b_alloc hB5 (Nat.le_refl _) (.cells #[.string (bs fn), .int .i64 ft, .bool fm, .bool fk] 52)).cell (p := ⟨w.heap.size, 1, none⟩) hRr).trans g1; have z1 := ((b_alloc hB5 (Nat.le_refl _) (.cells #[.string (bs fn), .int .i64 ft, .bool fm, .bool fk] 52)).frozen (p := ⟨w.heap.size, 1, none⟩) hRr).trans f1; have y2 := ((b_alloc hB5 (Nat.le_refl _) (.cells #[.string (bs fn), .int .i64 ft, .bool fm, .bool fk] 52)).cell (p := ⟨w.heap.size, 2, none⟩) hRr).trans g2; have z2 := ((b_alloc hB5 (Nat.le_refl _) (.cells #[.string (bs fn), .int .i64 ft, .bool fm, .bool fk] 52)).frozen (p := ⟨w.heap.size, 2, none⟩) hRr).trans f2))
            (try simp only [Exit.inBlock, Exit.then])
            refine bodyPost_ret (v := .tuple #[kdZ, .bool false]) ?_ rfl ?_
            · rw [results_cell_tmp rfl]
              go_simp
            · exact kp_bad (by rw [HN.out, Bool.and_false]) (by first | exact b_set3 (b_alloc (on1 HH.out.2.2.2.2.2 hB5 (Nat.le_refl _)) (Nat.le_refl _) _) _ _ _ | exact b_alloc (b_set3 (on1 HH.out.2.2.2.2.2 hB5 (Nat.le_refl _)) _ _ _) (Nat.le_refl _) _)
          · rw [hok] at cf
            have HOK : Hid (fdOk x = true) := hok
            have HO5 : Hid (∀ W5, Below wr.heap.size wr W5 → (wF W5 ⟨fn, ft, fm, fk⟩).ownsRow W2.heap.size 52 4 (.slice av k cv) k (cellsF ((ws.take k).map fdOf)) ∧ W2.heap.size ≤ (wF W5 ⟨fn, ft, fm, fk⟩).heap.size) := fun W5 h5 => ⟨(own_bel HH.out.2.1 h5).alloc _ |>.alloc _, by have := h5.size; have := HH.out.2.2.2.2.1; simp [wF]; omega⟩
            have HK : Hid (∀ W5 w1, Below wr.heap.size wr W5 → (wF W5 ⟨fn, ft, fm, fk⟩).grownBy w1 (Value.slice av k cv).ownBlock → w1.cell? ⟨w.heap.size, 2, none⟩ = some (.slice av k cv) ∧ w1.frozen? ⟨w.heap.size, 2, none⟩ = false) := fun W5 w1 h5 hg1 => by
              have hne := row_apart HH.out.2.1 HH.out.2.2.1 (by decide)
              have hbk : w1.heap[w.heap.size]? = some (.cells #[.string (bs x1), (.slice none 0 0), .slice av k cv] 55 (0, 0)) := (hg1.block _ (Nat.lt_of_lt_of_le hRr (on1 h5 (bF W5 _) (Nat.le_refl _)).size) (fun h => hne h.symm)).trans (((on1 h5 (bF W5 _) (Nat.le_refl _)).block _ hRr).trans HH.out.2.2.1)
              exact ⟨cellB hbk rfl, frzB hbk⟩
            have HM : Hid (k + 1 ≤ maxLen ∧ (k + 1) * 32 ≤ 140737488355328) := by unfold maxLen; exact ⟨by omega, by omega⟩
            have HNA : Hid (∀ W5 : World, ∀ j u, [Value.string (bs fn), .int .i64 ft, .bool fm, .bool fk][j]? = some u → (wF W5 ⟨fn, ft, fm, fk⟩).cell? ((⟨W5.heap.size + 1, 0, none⟩ : Addr).add j) = some u) := fun W5 => by
              have := new_at (W5.alloc (.cells #[.string (bs fn), .int .i64 ft, .bool fm, .bool fk] 52)) [.string (bs fn), .int .i64 ft, .bool fm, .bool fk] 52
              rw [World.size_alloc] at this
              exact this
            have hwk : IntKind.i64.wrap ((k : Int) + 1) = (k : Int) + 1 := by rw [IntKind.wrap_i64]; omega
            clear hok
            go_wp2_with (first | (go_at_call 88; refine cf.mono ?_; rintro e W5 ⟨rfl, hB5⟩; have k2 := (hB5.cell (p := ⟨w.heap.size, 2, none⟩) hRr).trans g2; have hn5 : ¬ w.heap.size = W5.heap.size := fun h => absurd hB5.size (by omega); have y0 := ((b_alloc hB5 (Nat.le_refl _) (.cells #[.string (bs fn), .int .i64 ft, .bool fm, .bool fk] 52)).cell (p := ⟨w.heap.size, 0, none⟩) hRr).trans g0; have z0 := ((b_alloc hB5 (Nat.le_refl _) (.cells #[.string (bs fn), .int .i64 ft, .bool fm, .bool fk] 52)).frozen (p := ⟨w.heap.size, 0, none⟩) hRr).trans f0; have y1 := ((b_alloc hB5 (Nat.le_refl _) (.cells #[.string (bs fn), .int .i64 ft, .bool fm, .bool fk] 52)).cell (p := ⟨w.heap.size, 1, none⟩) hRr).trans g1; have z1 := ((b_alloc hB5 (Nat.le_refl _) (.cells #[.string (bs fn), .int .i64 ft, .bool fm, .bool fk] 52)).frozen (p := ⟨w.heap.size, 1, none⟩) hRr).trans f1; have y2 := ((b_alloc hB5 (Nat.le_refl _) (.cells #[.string (bs fn), .int .i64 ft, .bool fm, .bool fk] 52)).cell (p := ⟨w.heap.size, 2, none⟩) hRr).trans g2; have z2 := ((b_alloc hB5 (Nat.le_refl _) (.cells #[.string (bs fn), .int .i64 ft, .bool fm, .bool fk] 52)).frozen (p := ⟨w.heap.size, 2, none⟩) hRr).trans f2) | (at_builtin; refine wpList_append_own _ rfl (.tmp 67) (.tmp 69) 53 rfl W2.heap.size 52 i0 _ 4 32 Tryz.underlying53 hi0 hz0 hz1' hz2 rfl (by decide) (.slice av k cv) k (cellsF ((ws.take k).map fdOf)) rfl (HO5.out W5 hB5).1 ⟨W5.heap.size + 1, 0, none⟩ 1 1 [.string (bs fn), .int .i64 ft, .bool fm, .bool fk] (by simp [Act.eval]) rfl (HNA.out W5) (by simp [Value.oneCell']) HM.out.1 HM.out.2 (HO5.out W5 hB5).2 ?_; intro v1 w1 hown1 hgrow1 _; obtain ⟨q0, q1⟩ := HK.out W5 w1 hB5 hgrow1; obtain ⟨a1, c1, rfl⟩ := own_slice hown1))
            have HR2 : Hid (PK w W2 x1 (.slice none 0 0) ws (.int .i64 ((k : Int) + 1)) (w1.setCell ⟨w.heap.size, 2, none⟩ (.slice a1 (k + 1) c1))) := pk_step HXk.out HOK.out hRW HH.out.1 HH.out.2.1 HH.out.2.2.1 HH.out.2.2.2.1 HH.out.2.2.2.2.1 HH.out.2.2.2.2.2 hB5 (by rw [HF.out]; exact hown1) (by rw [HF.out]; exact hgrow1)
            refine ⟨?_, ?_⟩
            · first | exact HR2.out | ((repeat apply Exists.intro); refine ⟨?_, rfl⟩; exact HR2.out)
            · simp [intOf]
              try omega
        · obtain rfl : k = ws.length := by omega
          have HFin : Hid (KP w x1 [] ws (.returned (.tuple #[.agg #[.string (bs x1), (.slice none 0 0), .slice av ws.length cv], .bool true])) (((wr.setCell ⟨w.heap.size, 0, none⟩ (.string (bs x1))).setCell ⟨w.heap.size, 1, none⟩ (.slice none 0 0)).setCell ⟨w.heap.size, 2, none⟩ (.slice av ws.length cv))) := by
            have hne := row_apart hO hG (by decide)
            have hO' := own_set (own_set (own_set hO hne 0 (.string (bs x1))) hne 1 (.slice none 0 0)) hne 2 (.slice av ws.length cv)
            rw [List.take_length] at hO' hall
            refine ⟨?_, b_set3 hBr _ _ _⟩
            rw [if_pos (by rw [HAA.out, List.all_eq_true.2 hall]; rfl)]
            exact ⟨_, _, rfl, World.ownsRow_nil _ _ _ _, own_base hO' (Nat.le_of_lt hRW)⟩
          have hR3 : wr.heap[w.heap.size]? = some (.cells #[.string (bs x1), (.slice none 0 0), .slice av ws.length cv] 55 (0, 0)) := hG
          clear hall hO hG hK hs hBr
          go_wp2
          (try simp only [Exit.inBlock, Exit.then])
          refine bodyPost_ret (v := .tuple #[.agg #[.string (bs x1), (.slice none 0 0), .slice av ws.length cv], .bool true]) ?_ rfl HFin.out
          rw [results_cell_tmp rfl]
          go_simp
end Go.Proofs.YtgjlonilbhlneaaGreatDoor
