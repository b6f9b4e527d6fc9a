/-
  The walk of schema.parseKind: no word behind the name.
-/
import Derived.Test.YtlcpmdmpkfibdaaGreatDoorM21
import Derived.Test.YtlcpmdmpkfibdaaGreatDoorM19
namespace Go.Proofs.YtlcpmdmpkfibdaaGreatDoor
open Go.RowKit
set_option linter.unusedVariables false
set_option linter.unusedSimpArgs false

set_option maxHeartbeats 2000000 in
set_option maxRecDepth 100000 in
theorem parseKind_v1 (b off n c : Nat) (x1 : Nm) (ws : List Nm) (w : World) (hb : b < w.heap.size) (c0 : w.cell? ⟨b, off, none⟩ = some (.string (bs wKind))) (c1 : w.cell? ⟨b, off + 1, none⟩ = some (.string (bs x1))) (hw : ∀ k x, ws[k]? = some x → w.cell? ⟨b, off + 2 + k, none⟩ = some (.string (bs x)))
    (hn : n = ws.length + 2) (hc : n ≤ c) (hm : c ≤ maxLen) (hc2 : c = 2) (hz : ∀ x ∈ ws, x.length < 4294967281) (hz1 : x1.length < 4294967281) (hE : EV w) :
    Calls Tryz.prog 59 #[.slice (some ⟨b, off, none⟩) n c] w (KP w x1 [] ws) := by
  obtain ⟨i0, hi0, hz0, hz1', hz2⟩ := info_parts infoFd
  have hB0 : Below w.heap.size w (resK w) := b_alloc (Below.refl _ _) (Nat.le_refl _) _
  have e0 := (hB0.cell (p := ⟨b, off, none⟩) hb).trans c0
  have e1 := (hB0.cell (p := ⟨b, off + 1, none⟩) hb).trans c1
  have HW : Hid (∀ k x, ws[k]? = some x → w.cell? ⟨b, off + 2 + k, none⟩ = some (.string (bs x))) := hw
  have HZ : Hid (∀ x ∈ ws, x.length < 4294967281) := hz
  have HE : Hid (EV w) := hE
  have hB1 : Below w.heap.size w (((w.alloc (.cells #[.string (bs x1), .slice none 0 0, .slice none 0 0] 55)).alloc (.cells #[.string (bs x1)] 9)).drew) := b_drew1 (b_alloc (b_alloc (Below.refl _ _) (Nat.le_refl _) _) (Nat.le_refl _) _)
  have hR1 : (((w.alloc (.cells #[.string (bs x1), .slice none 0 0, .slice none 0 0] 55)).alloc (.cells #[.string (bs x1)] 9)).drew).heap[w.heap.size]? = some (.cells #[.string (bs x1), .slice none 0 0, .slice none 0 0] 55 (0, 0)) := (Below.heap_alloc _ _ _ (by simp)).trans (heap_alloc_new w _)
  have hI : IsS (((w.alloc (.cells #[.string (bs x1), .slice none 0 0, .slice none 0 0] 55)).alloc (.cells #[.string (bs x1)] 9)).drew) (.slice (some ⟨w.heap.size + 1, 0, none⟩) 1 1) [x1] := by
    have := one_isS (w.alloc (.cells #[.string (bs x1), .slice none 0 0, .slice none 0 0] 55)) x1
    rw [World.size_alloc] at this
    exact isS_dr this 1
  have cA := areNames_any hI (by simp) (fun x hx => by obtain rfl : x = x1 := by simpa using hx
                                                       exact hz1)
  have cN := fun W => areNames_any (isS_nil W) (by simp) (fun x hx => by simp at hx)
  have hN0 : areN [] = true := rfl
  rw [hN0] at cN
  have hnm : n - 2 = ws.length := by omega
  have hbn : ¬ b = w.heap.size := by omega
  have hn2 : ¬ (n : Int) < 2 := by omega
  have hi : (0 : Int) < (n : Int) := by omega
  have hi1 : (1 : Int) < (n : Int) := by omega
  have hi2 : (2 : Int) ≤ (n : Int) := by omega
  have hi3 : (n : Int) ≤ (c : Int) := by omega
  have hno' : ¬ (1 : Int) < (ws.length : Int) := by omega
  have HW0 : Hid (ws.length = 0) := by show _ = _; omega
  clear c0 c1 hw hz hE hI hn
  cases hA : areN [x1]
  · rw [hA] at cA
    have HN : Hid ((areN [x1] && areN [] && ws.all fdOk) = false) := by
      show _ = _
      rw [hA]; rfl
    clear hA
    go_enter Tryz.func59, Tryz.ntmps59
    go_wp2
    first | (go_region_with (fail)) | fail
    all_goals
      go_wp2_with (go_at_call 86; refine cA.mono ?_; rintro e W1 ⟨rfl, hB2⟩; have k1 := (hB2.block w.heap.size (by simp; omega)).trans hR1; have m0 := cellB (i := 0) k1 rfl; have m1 := cellB (i := 1) k1 rfl; have m2 := cellB (i := 2) k1 rfl; have f0 := frzB (i := 0) k1; have f1 := frzB (i := 1) k1; have f2 := frzB (i := 2) k1)
      (try simp only [Exit.inBlock, Exit.then])
      refine bodyPost_ret (v := .tuple #[kdZ, .bool false]) ?_ rfl ?_
      · rw [results_cell_tmp rfl]
        go_simp
      · exact kp_bad HN.out (b_set3 (on1 hB1 hB2 (Nat.le_refl _)) _ _ _)
  · rw [hA] at cA
    have HA : Hid (areN [x1] = true) := hA
    clear hA
    go_enter Tryz.func59, Tryz.ntmps59
    go_wp2
    first | (go_region_with (fail)) | fail
    all_goals
      go_wp2_with (go_at_call 86; refine cA.mono ?_; rintro e W1 ⟨rfl, hB2⟩; refine Hid.out ?_)
      refine Lib.hid ?_
      have k1 := (hB2.block w.heap.size (by simp; omega)).trans hR1
      have k1' := cellB (i := 1) k1 rfl
      go_wp2_with (go_at_call 86; refine (cN _).mono ?_; rintro e W2 ⟨rfl, hB3⟩)
      have HB : Hid (W2.heap[w.heap.size]? = some (.cells #[.string (bs x1), .slice none 0 0, .slice none 0 0] 55 (0, 0)) ∧ Below w.heap.size w W2) := ⟨(hB3.block _ (Array.getElem?_eq_some_iff.1 k1).1).trans k1, on1 (on1 hB1 hB2 (Nat.le_refl _)) hB3 (Nat.le_refl _)⟩
      have hRW : w.heap.size < W2.heap.size := (Array.getElem?_eq_some_iff.1 HB.out.1).1
      have HAA : Hid ((areN [x1] && areN []) = true) := by
        show _ = _
        rw [HA.out]; rfl
      clear cA cN k1 k1' hB1 hB2 hB3 hR1
      obtain ⟨WL, hWL⟩ : ∃ WL, WL = W2 := ⟨_, rfl⟩
      have HL : Hid (PK w W2 x1 (.slice none 0 0) ws (.int .i64 0) W2) := ⟨0, .slice none 0 0, Nat.zero_le _, rfl, fun x hx => by simp at hx, World.ownsRow_nil _ _ _ _, HB.out.1, fun _ _ _ => rfl, Nat.le_refl _, HB.out.2⟩
      clear hWL
      go_loopw [54] (fun i wr => PK w W2 x1 (.slice none 0 0) ws i wr) (fun i _ => ws.length - (intOf i).toNat)
      case atStart => exact HL.out
      case round =>
        obtain ⟨k, v, hk, rfl, hall, hO, hG, hK, hs, hBr⟩ := hrel
        obtain ⟨av, cv, rfl⟩ := own_slice hO
        have g0 := cellB (i := 0) hG rfl
        have g1 := cellB (i := 1) hG rfl
        have g2 := cellB (i := 2) hG rfl
        have f0 := frzB (i := 0) hG
        have f1 := frzB (i := 1) hG
        have f2 := frzB (i := 2) hG
        have hRr : w.heap.size < wr.heap.size := (Array.getElem?_eq_some_iff.1 hG).1
        have HH : Hid ((∀ x ∈ ws.take k, fdOk x = true) ∧ wr.ownsRow W2.heap.size 52 4 (.slice av k cv) k (cellsF ((ws.take k).map fdOf)) ∧ wr.heap[w.heap.size]? = some (.cells #[.string (bs x1), (.slice none 0 0), .slice av k cv] 55 (0, 0)) ∧ (∀ b, b < W2.heap.size → b ≠ w.heap.size → wr.heap[b]? = W2.heap[b]?) ∧ W2.heap.size ≤ wr.heap.size ∧ Below w.heap.size w wr) := ⟨hall, hO, hG, hK, hs, hBr⟩
        by_cases hlt : k < ws.length
        · exact absurd hlt (by have := HW0.out; omega)
        · obtain rfl : k = ws.length := by omega
          have HFin : Hid (KP w x1 [] ws (.returned (.tuple #[.agg #[.string (bs x1), (.slice none 0 0), .slice av ws.length cv], .bool true])) (((wr.setCell ⟨w.heap.size, 0, none⟩ (.string (bs x1))).setCell ⟨w.heap.size, 1, none⟩ (.slice none 0 0)).setCell ⟨w.heap.size, 2, none⟩ (.slice av ws.length cv))) := by
            have hne := row_apart hO hG (by decide)
            have hO' := own_set (own_set (own_set hO hne 0 (.string (bs x1))) hne 1 (.slice none 0 0)) hne 2 (.slice av ws.length cv)
            rw [List.take_length] at hO' hall
            refine ⟨?_, b_set3 hBr _ _ _⟩
            rw [if_pos (by rw [HAA.out, List.all_eq_true.2 hall]; rfl)]
            exact ⟨_, _, rfl, World.ownsRow_nil _ _ _ _, own_base hO' (Nat.le_of_lt hRW)⟩
          have hR3 : wr.heap[w.heap.size]? = some (.cells #[.string (bs x1), (.slice none 0 0), .slice av ws.length cv] 55 (0, 0)) := hG
          clear hall hO hG hK hs hBr
          go_wp2
          (try simp only [Exit.inBlock, Exit.then])
          refine bodyPost_ret (v := .tuple #[.agg #[.string (bs x1), (.slice none 0 0), .slice av ws.length cv], .bool true]) ?_ rfl HFin.out
          rw [results_cell_tmp rfl]
          go_simp
end Go.Proofs.YtlcpmdmpkfibdaaGreatDoor

/-
  The walks of schema.wordsOf and schema.withOne.
-/
namespace Go.Proofs.YtlcpmdmpkfibdaaGreatDoor
open Go.RowKit
set_option linter.unusedVariables false
set_option linter.unusedSimpArgs false

/-- The words of a line, blanks between. -/
def wordsL (l : Nm) : List Nm := (Lib.splitB ⟨#[32]⟩ 0 (Lib.countB (bs l) ⟨#[32]⟩) (bs l)).map (·.data.toList)
theorem split_isS (w : World) (xs : List ByteArray) (n : Nat) (hn : xs.length = n) (hm : n ≤ maxLen) : IsS (w.alloc (.cells (xs.map Value.string).toArray 9)) (.slice (some ⟨w.heap.size, 0, none⟩) n n) (xs.map (·.data.toList)) := by
  refine .inr ⟨w.heap.size, 0, n, by simp [hn], by simp [hn], hm, by simp, ?_⟩
  intro k y hy
  rw [List.getElem?_map] at hy
  obtain ⟨x, hx, rfl⟩ := Option.map_eq_some_iff.1 hy
  have h1 : (xs.map Value.string)[k]? = some (.string x) := by rw [List.getElem?_map, hx]; rfl
  have := new_at w (xs.map Value.string) 9 k _ h1
  rw [Addr.add_lit] at this
  rw [this]
  have : bs x.data.toList = x := by cases x; simp [bs]
  rw [this]
theorem split_any (l sp : Nm) (w : World) (hl : l.length ≤ 1000000000) (hE : EV w) (h1 : sp.length = 1) :
    Calls Tryz.prog 56 #[.string (bs l), .string (bs sp)] w fun e w' => ∃ v, e = .returned v ∧ IsS w' v ((Lib.splitB (bs sp) 0 (Lib.countB (bs l) (bs sp)) (bs l)).map (·.data.toList)) ∧ Below w.heap.size w w' := by
  obtain ⟨m, hm⟩ := hE.mx
  have hs1 : 1 ≤ (bs sp).size := by rw [bs_size]; omega
  refine (Tryz.strings_Split (bs l) (bs sp) m w (by rw [bs_size]; omega) hm hs1).mono ?_
  rintro e w' ⟨rfl, rfl⟩
  have hle := Lib.countB_le (bs sp) hs1 (bs l).size (bs l) (Nat.le_refl _)
  have hlen := Lib.splitB_all (bs sp) hs1 0 _ (bs l) rfl
  have hz : (bs l).size = l.length := bs_size l
  exact ⟨_, rfl, split_isS w _ _ hlen (by unfold maxLen; omega), b_alloc (Below.refl _ _) (Nat.le_refl _) _⟩
set_option maxHeartbeats 2000000 in
theorem wordsOf_any (l : Nm) (w : World) (hl : l.length ≤ 1000000000) (hE : EV w) :
    Calls Tryz.prog 35 #[.string (bs l)] w fun e w' => ∃ v, e = .returned (.tuple #[v, .bool (Lib.hasSuffix l [10])]) ∧ IsS w' v (wordsL (Lib.trimSuffix l [10])) ∧ Below w.heap.size w w' := by
  have cS : ∀ W, Calls Tryz.prog 55 #[.string (bs l), .string ⟨#[10]⟩] W fun e w' => e = .returned (.tuple #[.string (bs (Lib.trimSuffix l [10])), .bool (Lib.hasSuffix l [10])]) ∧ w' = W := fun W => by
    have := Tryz.strings_CutSuffix (bs l) ⟨#[10]⟩ W (by rw [bs_size]; omega)
    rw [bs_data] at this
    exact this
  have htl : (Lib.trimSuffix l [10]).length ≤ l.length := by
    unfold Lib.trimSuffix
    split
    · simp only [List.length_take]; omega
    · exact Nat.le_refl _
  have cP : Calls Tryz.prog 56 #[.string (bs (Lib.trimSuffix l [10])), .string ⟨#[32]⟩] w fun e w' => ∃ v, e = .returned v ∧ IsS w' v (wordsL (Lib.trimSuffix l [10])) ∧ Below w.heap.size w w' := split_any _ [32] w (by omega) hE rfl
  generalize Lib.trimSuffix l [10] = t at cS cP ⊢
  generalize Lib.hasSuffix l [10] = b at cS ⊢
  clear htl hl hE
  go_enter Tryz.func35, Tryz.ntmps35
  go_wp2_with (first | (go_at_call 55; refine (cS _).mono ?_; rintro e w' ⟨rfl, rfl⟩) | (go_at_call 56; refine cP.mono ?_; rintro e W2 ⟨v2, rfl, hi2, hB2⟩))
  go_ret2
  exact ⟨_, rfl, hi2, hB2⟩
end Go.Proofs.YtlcpmdmpkfibdaaGreatDoor
