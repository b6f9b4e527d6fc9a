/-
  The walk of schema.parseKind: 'of' and names, and no word behind them.
-/
import Derived.Test.YtgjlonilbhlneaaGreatDoorM17
import Derived.Test.YtgjlonilbhlneaaGreatDoorM16
namespace Go.Proofs.YtgjlonilbhlneaaGreatDoor
open Go.RowKit
set_option linter.unusedVariables false
set_option linter.unusedSimpArgs false
set_option maxHeartbeats 4000000 in
set_option maxRecDepth 100000 in
theorem parseKind_v5 (b off n c : Nat) (x1 x3 : Nm) (ws : List Nm) (w : World) (hb : b < w.heap.size) (c0 : w.cell? ⟨b, off, none⟩ = some (.string (bs wKind))) (c1 : w.cell? ⟨b, off + 1, none⟩ = some (.string (bs x1))) (c2 : w.cell? ⟨b, off + 2, none⟩ = some (.string (bs wOf))) (c3 : w.cell? ⟨b, off + 2 + 1, none⟩ = some (.string (bs x3))) (hw : ∀ k x, ws[k]? = some x → w.cell? ⟨b, off + 2 + 2 + k, none⟩ = some (.string (bs x)))
    (hn : n = ws.length + 4) (hc : n ≤ c) (hm : c ≤ maxLen) (hc4 : c = 4) (hwl : ws.length ≤ 1000000000) (hz : ∀ x ∈ ws, x.length < 4294967281) (hz1 : x1.length < 4294967281) (hz3 : x3.length ≤ 1000000000) (hE : EV w) (ho : (ofL x3).length ≤ 100000000 ∧ ∀ x ∈ ofL x3, x.length < 4294967281) :
    Calls Tryz.prog 59 #[.slice (some ⟨b, off, none⟩) n c] w (KP w x1 (ofL x3) ws) := by
  obtain ⟨i0, hi0, hz0, hz1', hz2⟩ := info_parts infoFd
  have hB0 : Below w.heap.size w (resK w) := b_alloc (Below.refl _ _) (Nat.le_refl _) _
  have e0 := (hB0.cell (p := ⟨b, off, none⟩) hb).trans c0
  have e1 := (hB0.cell (p := ⟨b, off + 1, none⟩) hb).trans c1
  have HW : Hid (∀ k x, ws[k]? = some x → w.cell? ⟨b, off + 2 + 2 + k, none⟩ = some (.string (bs x))) := hw
  have HZ : Hid (∀ x ∈ ws, x.length < 4294967281) := hz
  have HZ1 : Hid (x1.length < 4294967281 ∧ ((ofL x3).length ≤ 100000000 ∧ ∀ x ∈ ofL x3, x.length < 4294967281)) := ⟨hz1, ho⟩
  have HE : Hid (EV w) := hE
  have hBd : Below w.heap.size w (w.alloc (.cells #[.string (bs x1), .slice none 0 0, .slice none 0 0] 55)).drew := b_drew1 (b_alloc (Below.refl _ _) (Nat.le_refl _) _)
  have e2 : (w.alloc (.cells #[.string (bs x1), .slice none 0 0, .slice none 0 0] 55)).cell? ⟨b, off + 2, none⟩ = some (.string (bs wOf)) := (hBd.cell (p := ⟨b, off + 2, none⟩) hb).trans c2
  have e2d : (w.alloc (.cells #[.string (bs x1), .slice none 0 0, .slice none 0 0] 55)).drew.cell? ⟨b, off + 2, none⟩ = some (.string (bs wOf)) := e2
  have e3 : (w.alloc (.cells #[.string (bs x1), .slice none 0 0, .slice none 0 0] 55)).cell? ⟨b, off + 2 + 1, none⟩ = some (.string (bs x3)) := (hBd.cell (p := ⟨b, off + 2 + 1, none⟩) hb).trans c3
  have e3d : (w.alloc (.cells #[.string (bs x1), .slice none 0 0, .slice none 0 0] 55)).drew.cell? ⟨b, off + 2 + 1, none⟩ = some (.string (bs x3)) := e3
  have HBd : Hid (Below w.heap.size w (w.alloc (.cells #[.string (bs x1), .slice none 0 0, .slice none 0 0] 55)).drew.drew ∧ (w.alloc (.cells #[.string (bs x1), .slice none 0 0, .slice none 0 0] 55)).drew.drew.heap[w.heap.size]? = some (.cells #[.string (bs x1), .slice none 0 0, .slice none 0 0] 55 (0, 0)) ∧ (w.alloc (.cells #[.string (bs x1), .slice none 0 0, .slice none 0 0] 55)).drew.drew.heap.size = w.heap.size + 1) := ⟨b_drew1 hBd, heap_alloc_new w _, by simp⟩
  have HCs : Hid (Calls Tryz.prog 56 #[.string (bs x3), .string ⟨#[44]⟩] (w.alloc (.cells #[.string (bs x1), .slice none 0 0, .slice none 0 0] 55)).drew.drew fun e w' => ∃ ao co, e = .returned (.slice ao (ofL x3).length co) ∧ w'.ownsRow w.heap.size 9 1 (.slice ao (ofL x3).length co) (ofL x3).length (cellsS (ofL x3)) ∧ Below (w.alloc (.cells #[.string (bs x1), .slice none 0 0, .slice none 0 0] 55)).drew.drew.heap.size (w.alloc (.cells #[.string (bs x1), .slice none 0 0, .slice none 0 0] 55)).drew.drew w') := by
    refine (split_own x3 [44] _ hz3 (HE.out.on HBd.out.1) rfl).mono ?_
    rintro e w' ⟨v, rfl, hv, hB⟩
    obtain ⟨ao, co, rfl⟩ := own_slice hv
    exact ⟨ao, co, rfl, own_base hv HBd.out.1.size, hB⟩
  have hof : (wOf == [111, 102]) = true := by decide
  have hi4 : (1 : Int) < (ws.length : Int) + 2 := by omega
  have hi5 : (2 : Int) ≤ (ws.length : Int) + 2 := by omega
  have hi6 : (ws.length : Int) + 2 ≤ ((c - 2 : Nat) : Int) := by omega
  have hc22 : c - 2 = 2 := by omega
  have HW0 : Hid (ws.length = 0) := by show _ = _; omega
  have hbn : ¬ b = w.heap.size := by omega
  have hn2 : ¬ (n : Int) < 2 := by omega
  have hi : (0 : Int) < (n : Int) := by omega
  have hi1 : (1 : Int) < (n : Int) := by omega
  have hi2 : (2 : Int) ≤ (n : Int) := by omega
  have hi3 : (n : Int) ≤ (c : Int) := by omega
  have hnm : n - 2 = ws.length + 2 := by omega
  have hc2 : ¬ c = 2 := by omega
  clear c0 c1 c2 c3 hw hz hE hn hBd
  go_enter Tryz.func59, Tryz.ntmps59
  go_wp2
  first | (go_region_with (fail)) | fail
  all_goals
    go_wp2
    first | (go_region_held_law (fun w' => w'.cell? ⟨b, off + 2 + 1, none⟩ = some (.string (bs x3))) (go_keep) (first | (go_simp; go_at_call 56; refine HCs.out.mono ?_; rintro e W2 ⟨ao, co, rfl, hS2, hB2⟩; have k3 := (hB2.cell (p := ⟨b, off + 2 + 1, none⟩) (by rw [HBd.out.2.2]; show b < _; omega)).trans e3d; have hR2 := (hB2.block w.heap.size (by rw [HBd.out.2.2]; omega)).trans HBd.out.2.1; have m1 := cellB (i := 1) hR2 rfl; have f1 := frzB (i := 1) hR2; have k4 : (W2.setCell ⟨w.heap.size, 1, none⟩ (.slice ao (ofL x3).length co)).cell? ⟨b, off + 2 + 1, none⟩ = some (.string (bs x3)) := (World.cell?_of_block (heap_setCell_other W2 ⟨w.heap.size, 1, none⟩ b _ hbn)).trans k3; have HS2 := Lib.hid hS2; have HB2 := Lib.hid hB2; have HR2 := Lib.hid hR2; clear hS2 hB2 hR2))) | fail
    all_goals
      obtain ⟨W3, hW3⟩ : ∃ W3, W3 = W2.setCell ⟨w.heap.size, 1, none⟩ (.slice ao (ofL x3).length co) := ⟨_, rfl⟩
      rw [← hW3]
      have hR3 : W3.heap[w.heap.size]? = some (.cells #[.string (bs x1), .slice ao (ofL x3).length co, .slice none 0 0] 55 (0, 0)) := by rw [hW3]; exact setR HR2.out _
      have hB3 : Below w.heap.size w W3 := by rw [hW3]; exact (on1 HBd.out.1 HB2.out (Nat.le_refl _)).setCell (Nat.le_refl _) _
      have hS3 : W3.ownsRow w.heap.size 9 1 (.slice ao (ofL x3).length co) (ofL x3).length (cellsS (ofL x3)) := by rw [hW3]; exact own_set HS2.out (row_apart HS2.out HR2.out (by decide)) _ _
      have hRs : w.heap.size < W3.heap.size := (Array.getElem?_eq_some_iff.1 hR3).1
      have r0 := cellB (i := 0) hR3 rfl
      have hB4 : Below W3.heap.size W3 (W3.alloc (.cells #[.string (bs x1)] 9)) := b_alloc (Below.refl _ _) (Nat.le_refl _) _
      have cA := areNames_any (one_isS W3 x1) (by simp) (fun x hx => by obtain rfl : x = x1 := by simpa using hx
                                                                        exact HZ1.out.1)
      have HR3 : Hid (W3.heap[w.heap.size]? = some (.cells #[.string (bs x1), .slice ao (ofL x3).length co, .slice none 0 0] 55 (0, 0)) ∧ Below w.heap.size w W3 ∧ W3.ownsRow w.heap.size 9 1 (.slice ao (ofL x3).length co) (ofL x3).length (cellsS (ofL x3)) ∧ Below W3.heap.size W3 (W3.alloc (.cells #[.string (bs x1)] 9))) := ⟨hR3, hB3, hS3, hB4⟩
      clear hW3 hR3 hB3 hS3 hB4 k3 k4 m1 f1
      cases hA : areN [x1]
      · rw [hA] at cA
        have HN : Hid ((areN [x1] && areN (ofL x3) && ws.all fdOk) = false) := by
          show _ = _
          rw [hA]; rfl
        clear hA
        go_wp2_with (go_at_call 86; refine cA.mono ?_; rintro e W5 ⟨rfl, hB5⟩; have HB5 := Lib.hid (on1 HR3.out.2.2.2 hB5 (Nat.le_refl _)); have k1 := (HB5.out.block w.heap.size hRs).trans HR3.out.1; have n0 := cellB (i := 0) k1 rfl; have n1 := cellB (i := 1) k1 rfl; have n2 := cellB (i := 2) k1 rfl; have q0 := frzB (i := 0) k1; have q1 := frzB (i := 1) k1; have q2 := frzB (i := 2) k1; clear hB5)
        (try simp only [Exit.inBlock, Exit.then])
        refine bodyPost_ret (v := .tuple #[kdZ, .bool false]) ?_ rfl ?_
        · rw [results_cell_tmp rfl]
          go_simp
        · exact kp_bad HN.out (b_set3 (on1 HR3.out.2.1 HB5.out (Nat.le_refl _)) _ _ _)
      · rw [hA] at cA
        have HA : Hid (areN [x1] = true) := hA
        clear hA
        go_wp2_with (go_at_call 86; refine cA.mono ?_; rintro e W5 ⟨rfl, hB5⟩; refine Hid.out ?_)
        refine Lib.hid ?_
        have HB5 : Hid (Below W3.heap.size W3 W5) := on1 HR3.out.2.2.2 hB5 (Nat.le_refl _)
        have hR5 := (HB5.out.block w.heap.size hRs).trans HR3.out.1
        have n1 := cellB (i := 1) hR5 rfl
        have HR5 : Hid (W5.heap[w.heap.size]? = some (.cells #[.string (bs x1), .slice ao (ofL x3).length co, .slice none 0 0] 55 (0, 0))) := hR5
        have cO := areNames_any (own_isS (own_bel HR3.out.2.2.1 HB5.out)) HZ1.out.2.1 HZ1.out.2.2
        clear cA hB5 hR5
        cases hO : areN (ofL x3)
        · rw [hO] at cO
          have HN : Hid ((areN [x1] && areN (ofL x3) && ws.all fdOk) = false) := by
            show _ = _
            rw [hO, Bool.and_false, Bool.false_and]
          clear hO
          go_wp2_with (go_at_call 86; refine cO.mono ?_; rintro e W6 ⟨rfl, hB6⟩; have HB6 := Lib.hid (on1 HB5.out hB6 (Nat.le_refl _)); have k1 := (HB6.out.block w.heap.size hRs).trans HR3.out.1; have n0 := cellB (i := 0) k1 rfl; have n1' := cellB (i := 1) k1 rfl; have n2 := cellB (i := 2) k1 rfl; have q0 := frzB (i := 0) k1; have q1 := frzB (i := 1) k1; have q2 := frzB (i := 2) k1; clear hB6)
          (try simp only [Exit.inBlock, Exit.then])
          refine bodyPost_ret (v := .tuple #[kdZ, .bool false]) ?_ rfl ?_
          · rw [results_cell_tmp rfl]
            go_simp
          · exact kp_bad HN.out (b_set3 (on1 HR3.out.2.1 HB6.out (Nat.le_refl _)) _ _ _)
        · rw [hO] at cO
          have HAA : Hid ((areN [x1] && areN (ofL x3)) = true) := by
            show _ = _
            rw [HA.out, hO]; rfl
          clear hO
          go_wp2_with (go_at_call 86; refine cO.mono ?_; rintro e W6 ⟨rfl, hB6⟩)
          have HB6 : Hid (Below W3.heap.size W3 W6) := on1 HB5.out hB6 (Nat.le_refl _)
          have HB : Hid (W6.heap[w.heap.size]? = some (.cells #[.string (bs x1), .slice ao (ofL x3).length co, .slice none 0 0] 55 (0, 0)) ∧ Below w.heap.size w W6) := ⟨(HB6.out.block w.heap.size hRs).trans HR3.out.1, on1 HR3.out.2.1 HB6.out (Nat.le_refl _)⟩
          have HO6 : Hid (W6.ownsRow w.heap.size 9 1 (.slice ao (ofL x3).length co) (ofL x3).length (cellsS (ofL x3))) := own_bel HR3.out.2.2.1 HB6.out
          have hRW : w.heap.size < W6.heap.size := (Array.getElem?_eq_some_iff.1 HB.out.1).1
          clear cO n1 hB6 r0
          obtain ⟨WL, hWL⟩ : ∃ WL, WL = W6 := ⟨_, rfl⟩
          have HL : Hid (PK w W6 x1 (.slice ao (ofL x3).length co) ws (.int .i64 0) W6) := ⟨0, .slice none 0 0, Nat.zero_le _, rfl, fun x hx => by simp at hx, World.ownsRow_nil _ _ _ _, HB.out.1, fun _ _ _ => rfl, Nat.le_refl _, HB.out.2⟩
          clear hWL
          go_loopw [54] (fun i wr => PK w W6 x1 (.slice ao (ofL x3).length co) ws i wr) (fun i _ => ws.length - (intOf i).toNat)
          case atStart => exact HL.out
          case round =>
            obtain ⟨k, v, hk, rfl, hall, hO, hG, hK, hs, hBr⟩ := hrel
            obtain ⟨av, cv, rfl⟩ := own_slice hO
            have g0 := cellB (i := 0) hG rfl
            have g1 := cellB (i := 1) hG rfl
            have g2 := cellB (i := 2) hG rfl
            have f0 := frzB (i := 0) hG
            have f1 := frzB (i := 1) hG
            have f2 := frzB (i := 2) hG
            have hRr : w.heap.size < wr.heap.size := (Array.getElem?_eq_some_iff.1 hG).1
            have HH : Hid ((∀ x ∈ ws.take k, fdOk x = true) ∧ wr.ownsRow W6.heap.size 52 4 (.slice av k cv) k (cellsF ((ws.take k).map fdOf)) ∧ wr.heap[w.heap.size]? = some (.cells #[.string (bs x1), (.slice ao (ofL x3).length co), .slice av k cv] 55 (0, 0)) ∧ (∀ b, b < W6.heap.size → b ≠ w.heap.size → wr.heap[b]? = W6.heap[b]?) ∧ W6.heap.size ≤ wr.heap.size ∧ Below w.heap.size w wr) := ⟨hall, hO, hG, hK, hs, hBr⟩
            by_cases hlt : k < ws.length
            · exact absurd hlt (by have := HW0.out; omega)
            · obtain rfl : k = ws.length := by omega
              have HFin : Hid (KP w x1 (ofL x3) ws (.returned (.tuple #[.agg #[.string (bs x1), (.slice ao (ofL x3).length co), .slice av ws.length cv], .bool true])) (((wr.setCell ⟨w.heap.size, 0, none⟩ (.string (bs x1))).setCell ⟨w.heap.size, 1, none⟩ (.slice ao (ofL x3).length co)).setCell ⟨w.heap.size, 2, none⟩ (.slice av ws.length cv))) := by
                have hne := row_apart hO hG (by decide)
                have hO' := own_set (own_set (own_set hO hne 0 (.string (bs x1))) hne 1 (.slice ao (ofL x3).length co)) hne 2 (.slice av ws.length cv)
                rw [List.take_length] at hO' hall
                refine ⟨?_, b_set3 hBr _ _ _⟩
                rw [if_pos (by rw [HAA.out, List.all_eq_true.2 hall]; rfl)]
                exact ⟨_, _, rfl, own_fin HO6.out HB.out.1 (by decide) (fun b hb hne => (oth3 hne).trans (hK b hb hne)), own_base hO' (Nat.le_of_lt hRW)⟩
              have hR3 : wr.heap[w.heap.size]? = some (.cells #[.string (bs x1), (.slice ao (ofL x3).length co), .slice av ws.length cv] 55 (0, 0)) := hG
              clear hall hO hG hK hs hBr
              go_wp2
              (try simp only [Exit.inBlock, Exit.then])
              refine bodyPost_ret (v := .tuple #[.agg #[.string (bs x1), (.slice ao (ofL x3).length co), .slice av ws.length cv], .bool true]) ?_ rfl HFin.out
              rw [results_cell_tmp rfl]
              go_simp
end Go.Proofs.YtgjlonilbhlneaaGreatDoor

/-
  The walk of schema.parseKind, at any words.
-/
namespace Go.Proofs.YtgjlonilbhlneaaGreatDoor
open Go.RowKit
set_option linter.unusedVariables false
set_option linter.unusedSimpArgs false

def kdOf : List Nm → Option (Nm × List Nm × List Nm)
  | k :: x1 :: o :: x3 :: r => if (k == wKind) = true then (if (o == wOf) = true then some (x1, ofL x3, r) else some (x1, [], o :: x3 :: r)) else none
  | k :: x1 :: ws => if (k == wKind) = true then some (x1, [], ws) else none
  | _ => none
theorem kdOf_no {k x1 : Nm} {ws : List Nm} (hk : (k == wKind) = false) : kdOf (k :: x1 :: ws) = none := by
  rcases ws with _ | ⟨o, _ | ⟨x3, r⟩⟩
  · show (if (k == wKind) = true then _ else none) = none
    rw [hk]; rfl
  · show (if (k == wKind) = true then _ else none) = none
    rw [hk]; rfl
  · show (if (k == wKind) = true then _ else none) = none
    rw [hk]; rfl
def KdPost (w : World) (L : List Nm) (e : Ending) (w' : World) : Prop := match kdOf L with
  | none => e = .returned (.tuple #[kdZ, .bool false]) ∧ Below w.heap.size w w'
  | some (x1, o, ws) => KP w x1 o ws e w'
def WdOk (L : List Nm) : Prop := L.length ≤ 1000000000 ∧ ∀ x ∈ L, x.length ≤ 1000000000 ∧ (ofL x).length ≤ 100000000 ∧ ∀ y ∈ ofL x, y.length < 4294967281
theorem parseKind_any {v : Value} {L : List Nm} {w : World} (h : IsS w v L) (hE : EV w) (hL : WdOk L) : Calls Tryz.prog 59 #[v] w (KdPost w L) := by
  rcases h with ⟨ao, c, rfl, rfl, _⟩ | ⟨b, off, cap, rfl, hcap, hm, hb, hl⟩
  · exact parseKind_no1 ao 0 c (by decide) w
  · have h64 : ∀ x ∈ L, x.length < 4294967281 := fun x hx => by have := (hL.2 x hx).1; omega
    match L, hcap, hl, hL, h64 with
    | [], _, _, _, _ => exact parseKind_no1 _ _ _ (by decide) w
    | [k], _, _, _, _ => exact parseKind_no1 _ _ _ (by simp) w
    | k :: x1 :: ws, hcap, hl, hL, h64 =>
      have c0 := hl 0 k rfl
      have c1 := hl 1 x1 rfl
      rw [Nat.add_zero] at c0
      have hln : ws.length ≤ 1000000000 := by have := hL.1; simp at this; omega
      have hz : ∀ x ∈ ws, x.length < 4294967281 := fun x hx => h64 x (by simp [hx])
      have hz1 : x1.length < 4294967281 := h64 x1 (by simp)
      have hw : ∀ i x, ws[i]? = some x → w.cell? ⟨b, off + 2 + i, none⟩ = some (.string (bs x)) := fun i x hx => by
        have := hl (i + 2) x (by simpa using hx)
        rw [show off + (i + 2) = off + 2 + i from by omega] at this
        exact this
      have hnn : (k :: x1 :: ws).length = ws.length + 2 := by simp
      cases hk : (k == wKind)
      · have hn2 : ¬ (((k :: x1 :: ws).length : Nat) : Int) < 2 := by rw [hnn]; omega
        have := parseKind_no2 b off (k :: x1 :: ws).length cap k w hb c0 hn2 (Nat.le_trans hcap hm) hk
        have e : kdOf (k :: x1 :: ws) = none := kdOf_no hk
        unfold KdPost
        rw [e]
        exact this
      · have hk' : k = wKind := by simpa using hk
        subst hk'
        match ws, hw, hz, hnn, hcap, hln, hL with
        | [], hw, hz, hnn, hcap, hln, hL =>
          have e : kdOf [wKind, x1] = some (x1, [], []) := by simp [kdOf]
          unfold KdPost
          rw [e]
          by_cases hc2 : cap = 2
          · exact parseKind_v1 b off _ cap x1 [] w hb c0 c1 hw hnn hcap hm hc2 hz hz1 hE
          · exact parseKind_v2 b off _ cap x1 [] w hb c0 c1 hw hnn hcap hm hc2 (by simp) hz hz1 hE
        | [o], hw, hz, hnn, hcap, hln, hL =>
          have e : kdOf [wKind, x1, o] = some (x1, [], [o]) := by simp [kdOf]
          unfold KdPost
          rw [e]
          exact parseKind_v2 b off _ cap x1 [o] w hb c0 c1 hw hnn hcap hm (by simp at hcap; omega) (by simp) hz hz1 hE
        | o :: x3 :: r, hw, hz, hnn, hcap, hln, hL =>
          cases ho : (o == wOf)
          · have e : kdOf (wKind :: x1 :: o :: x3 :: r) = some (x1, [], o :: x3 :: r) := by simp [kdOf, ho]
            unfold KdPost
            rw [e]
            exact parseKind_v3 b off _ cap x1 o (o :: x3 :: r) w hb c0 c1 hw hnn hcap hm hln (by simp) rfl ho hz hz1 hE
          · have ho' : o = wOf := by simpa using ho
            subst ho'
            have e : kdOf (wKind :: x1 :: wOf :: x3 :: r) = some (x1, ofL x3, r) := by simp [kdOf]
            unfold KdPost
            rw [e]
            have c2 := hw 0 wOf rfl
            have c3 := hw 1 x3 rfl
            rw [Nat.add_zero] at c2
            have hw' : ∀ i x, r[i]? = some x → w.cell? ⟨b, off + 2 + 2 + i, none⟩ = some (.string (bs x)) := fun i x hx => by
              have := hw (i + 2) x (by simpa using hx)
              rw [show off + 2 + (i + 2) = off + 2 + 2 + i from by omega] at this
              exact this
            have h3 := hL.2 x3 (by simp)
            have hn4 : (wKind :: x1 :: wOf :: x3 :: r).length = r.length + 4 := by simp
            have hrl : r.length ≤ 1000000000 := by simp at hln; omega
            have hzr : ∀ x ∈ r, x.length < 4294967281 := fun x hx => hz x (by simp [hx])
            by_cases hc4 : cap = 4
            · exact parseKind_v5 b off _ cap x1 x3 r w hb c0 c1 c2 c3 hw' hn4 hcap hm hc4 hrl hzr hz1 h3.1 hE h3.2
            · exact parseKind_v4 b off _ cap x1 x3 r w hb c0 c1 c2 c3 hw' hn4 hcap hm hc4 hrl hzr hz1 h3.1 hE h3.2
end Go.Proofs.YtgjlonilbhlneaaGreatDoor

/-
  The walks of schema.withOne, of bonds and of kinds.
-/
namespace Go.Proofs.YtgjlonilbhlneaaGreatDoor
open Go.RowKit
set_option linter.unusedVariables false
set_option linter.unusedSimpArgs false

theorem info40 : (Tryz.prog.info? 40).map (fun i => (i.zero, i.size, i.bytes)) = some (some (.agg #[.string ⟨#[]⟩, .string ⟨#[]⟩, .string ⟨#[]⟩, .int .i64 0, .int .i64 0]), 5, 64) := by kernel_rfl
def cellsB (L : List Bd) : List Value := L.flatMap Bd.cells
theorem cellsB_app (L M : List Bd) : cellsB (L ++ M) = cellsB L ++ cellsB M := by simp [cellsB]
def oneMore {α : Type} (l : List α) (x : α) : List α := if 12 < l.length then l else l ++ [x]
theorem oneMore_len {α : Type} (l : List α) (x : α) (h : l.length ≤ 13) : (oneMore l x).length ≤ 13 := by
  unfold oneMore
  split
  · exact h
  · simp; omega
set_option maxHeartbeats 4000000 in
set_option maxRecDepth 100000 in
theorem withOneB_any (base : Nat) (v : Value) (l : List Bd) (x : Bd) (w : World) (ho : w.ownsRow base 40 5 v l.length (cellsB l)) (hb : base ≤ w.heap.size) (hl : l.length ≤ 13) :
    Calls Tryz.prog 58 #[v, x.one] w fun e w' => ∃ v', e = .returned v' ∧ w'.ownsRow base 40 5 v' (oneMore l x).length (cellsB (oneMore l x)) ∧ w.grownBy w' v.ownBlock := by
  obtain ⟨i0, hi0, hz0, hz1, hz2⟩ := info_parts info40
  obtain ⟨ao, c, rfl⟩ := own_slice ho
  by_cases h12 : 12 < l.length
  · have HE : Hid (oneMore l x = l) := by show _ = _; unfold oneMore; rw [if_pos h12]
    have HO : Hid ((w.alloc (boxB x)).ownsRow base 40 5 (.slice ao l.length c) l.length (cellsB l)) := ho.alloc _
    clear ho
    go_enter Tryz.func58, Tryz.ntmps58
    go_wp2
    go_ret
    exact ⟨_, rfl, by rw [HE.out]; exact HO.out, World.grownBy_alloc _ _ _⟩
  · have HE : Hid (oneMore l x = l ++ [x]) := by show _ = _; unfold oneMore; rw [if_neg h12]
    have HO : Hid (((w.alloc (boxB x)).alloc (boxB x)).ownsRow base 40 5 (.slice ao l.length c) l.length (cellsB l)) := (ho.alloc _).alloc _
    have HM : Hid (l.length + 1 ≤ maxLen ∧ (l.length + 1) * 64 ≤ 140737488355328 ∧ base ≤ ((w.alloc (boxB x)).alloc (boxB x)).heap.size) := by unfold maxLen; exact ⟨by omega, by omega, by simp; omega⟩
    have hnw : ∀ j u, x.cells[j]? = some u → ((w.alloc (boxB x)).alloc (boxB x)).cell? ((⟨w.heap.size + 1, 0, none⟩ : Addr).add j) = some u := by
      have := new_at (w.alloc (boxB x)) x.cells 40
      rw [World.size_alloc] at this
      exact this
    have HNW : Hid (∀ j u, x.cells[j]? = some u → ((w.alloc (boxB x)).alloc (boxB x)).cell? ((⟨w.heap.size + 1, 0, none⟩ : Addr).add j) = some u) := hnw
    have HG : Hid (∀ w', ((w.alloc (boxB x)).alloc (boxB x)).grownBy w' (Value.slice ao l.length c).ownBlock → w.grownBy w' (Value.slice ao l.length c).ownBlock) := fun w' h => by
      have h1 := World.grownBy_alloc w (boxB x) (Value.slice ao l.length c).ownBlock
      have h2 := World.grownBy_alloc (w.alloc (boxB x)) (boxB x) (Value.slice ao l.length c).ownBlock
      exact ⟨h.os.trans (h2.os.trans h1.os), h.tape.trans (h2.tape.trans h1.tape), h.output.trans (h2.output.trans h1.output), Nat.le_trans h1.size (Nat.le_trans h2.size h.size), fun b hb hne => (h.block b (by simp; omega) hne).trans ((h2.block b (by simp; omega) hne).trans (h1.block b hb hne))⟩
    clear ho hnw
    go_enter Tryz.func58, Tryz.ntmps58
    go_wp2_with (at_builtin; refine wpList_append_own _ rfl (.tmp 9) (.tmp 11) 23 rfl base 40 i0 _ 5 64 Tryz.underlying23 hi0 hz0 hz1 hz2 rfl (by decide) (.slice ao l.length c) l.length (cellsB l) rfl HO.out ⟨w.heap.size + 1, 0, none⟩ 1 1 x.cells rfl rfl HNW.out (by simp [Bd.cells, Value.oneCell']) HM.out.1 HM.out.2.1 HM.out.2.2 ?_; intro v1 w1 hown1 hgrow1 _; refine Hid.out ?_)
    refine Lib.hid ?_
    have HF : Hid (w1.ownsRow base 40 5 v1 (oneMore l x).length (cellsB (oneMore l x)) ∧ w.grownBy w1 (Value.slice ao l.length c).ownBlock) := by
      refine ⟨?_, HG.out _ hgrow1⟩
      rw [HE.out, List.length_append, cellsB_app]
      simpa [cellsB] using hown1
    clear hown1 hgrow1
    go_wp2
    go_ret
    exact ⟨_, rfl, HF.out.1, HF.out.2⟩
def bxK (x : Kd) : Obj := .cells #[.string (bs x.nm), x.vo, x.vf] 55
set_option maxHeartbeats 4000000 in
set_option maxRecDepth 100000 in
theorem withOneK_any (base : Nat) (v : Value) (l : List Kd) (x : Kd) (a1 a2 : Option Addr) (n1 n2 c1 c2 : Nat) (e1 : x.vo = .slice a1 n1 c1) (e2 : x.vf = .slice a2 n2 c2) (w : World) (ho : w.ownsRow base 55 3 v l.length (cellsK l)) (hb : base ≤ w.heap.size) (hl : l.length ≤ 13) :
    Calls Tryz.prog 60 #[v, x.one] w fun e w' => ∃ v', e = .returned v' ∧ w'.ownsRow base 55 3 v' (oneMore l x).length (cellsK (oneMore l x)) ∧ w.grownBy w' v.ownBlock := by
  obtain ⟨i0, hi0, hz0, hz1, hz2⟩ := info_parts info61
  obtain ⟨ao, c, rfl⟩ := own_slice ho
  have HC1 : Hid (∀ u ∈ x.cells, u.oneCell' = true) := by
    intro u hu
    unfold Kd.cells at hu
    rw [e1, e2] at hu
    simp at hu
    rcases hu with rfl | rfl | rfl <;> rfl
  by_cases h12 : 12 < l.length
  · have HE : Hid (oneMore l x = l) := by show _ = _; unfold oneMore; rw [if_pos h12]
    have HO : Hid ((w.alloc (bxK x)).ownsRow base 55 3 (.slice ao l.length c) l.length (cellsK l)) := ho.alloc _
    clear ho
    unfold Kd.one
    simp only [bxK, e1, e2] at *
    go_enter Tryz.func60, Tryz.ntmps60
    go_wp2
    go_ret
    exact ⟨_, rfl, by rw [HE.out]; exact HO.out, World.grownBy_alloc _ _ _⟩
  · have HE : Hid (oneMore l x = l ++ [x]) := by show _ = _; unfold oneMore; rw [if_neg h12]
    have HO : Hid (((w.alloc (bxK x)).alloc (bxK x)).ownsRow base 55 3 (.slice ao l.length c) l.length (cellsK l)) := (ho.alloc _).alloc _
    have HM : Hid (l.length + 1 ≤ maxLen ∧ (l.length + 1) * 64 ≤ 140737488355328 ∧ base ≤ ((w.alloc (bxK x)).alloc (bxK x)).heap.size) := by unfold maxLen; exact ⟨by omega, by omega, by simp; omega⟩
    have hnw : ∀ j u, x.cells[j]? = some u → ((w.alloc (bxK x)).alloc (bxK x)).cell? ((⟨w.heap.size + 1, 0, none⟩ : Addr).add j) = some u := by
      have := new_at (w.alloc (bxK x)) x.cells 55
      rw [World.size_alloc] at this
      exact this
    have HNW : Hid (∀ j u, x.cells[j]? = some u → ((w.alloc (bxK x)).alloc (bxK x)).cell? ((⟨w.heap.size + 1, 0, none⟩ : Addr).add j) = some u) := hnw
    have HG : Hid (∀ w', ((w.alloc (bxK x)).alloc (bxK x)).grownBy w' (Value.slice ao l.length c).ownBlock → w.grownBy w' (Value.slice ao l.length c).ownBlock) := fun w' h => by
      have h1 := World.grownBy_alloc w (bxK x) (Value.slice ao l.length c).ownBlock
      have h2 := World.grownBy_alloc (w.alloc (bxK x)) (bxK x) (Value.slice ao l.length c).ownBlock
      exact ⟨h.os.trans (h2.os.trans h1.os), h.tape.trans (h2.tape.trans h1.tape), h.output.trans (h2.output.trans h1.output), Nat.le_trans h1.size (Nat.le_trans h2.size h.size), fun b hb hne => (h.block b (by simp; omega) hne).trans ((h2.block b (by simp; omega) hne).trans (h1.block b hb hne))⟩
    clear ho hnw
    unfold Kd.one
    simp only [bxK, Kd.cells, e1, e2] at HO HM HNW HG HC1 ⊢
    go_enter Tryz.func60, Tryz.ntmps60
    go_wp2_with (at_builtin; refine wpList_append_own _ rfl (.tmp 9) (.tmp 11) 22 rfl base 55 i0 _ 3 64 Tryz.underlying22 hi0 hz0 hz1 hz2 rfl (by decide) (.slice ao l.length c) l.length (cellsK l) rfl HO.out ⟨w.heap.size + 1, 0, none⟩ 1 1 [.string (bs x.nm), .slice a1 n1 c1, .slice a2 n2 c2] rfl rfl HNW.out HC1.out HM.out.1 HM.out.2.1 HM.out.2.2 ?_; intro v1 w1 hown1 hgrow1 _; refine Hid.out ?_)
    refine Lib.hid ?_
    have HF : Hid (w1.ownsRow base 55 3 v1 (oneMore l x).length (cellsK (oneMore l x)) ∧ w.grownBy w1 (Value.slice ao l.length c).ownBlock) := by
      refine ⟨?_, HG.out _ hgrow1⟩
      rw [HE.out, List.length_append, cellsK_app]
      simpa [cellsK, Kd.cells, e1, e2] using hown1
    clear hown1 hgrow1
    go_wp2
    go_ret
    exact ⟨_, rfl, HF.out.1, HF.out.2⟩
end Go.Proofs.YtgjlonilbhlneaaGreatDoor
