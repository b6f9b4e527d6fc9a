/-
  The walk of schema.parseKind: no word behind the name.
-/
import Derived.Test.YtgjlonilbhlneaaGreatDoorM16
import Derived.Test.YtgjlonilbhlneaaGreatDoorM14
import Derived.Deep.RegionHeldLaw
import Derived.Laws.OwnMore
namespace Go.Proofs.YtgjlonilbhlneaaGreatDoor
open Go.RowKit
set_option linter.unusedVariables false
set_option linter.unusedSimpArgs false

set_option maxHeartbeats 2000000 in
set_option maxRecDepth 100000 in
theorem parseKind_v1 (b off n c : Nat) (x1 : Nm) (ws : List Nm) (w : World) (hb : b < w.heap.size) (c0 : w.cell? ⟨b, off, none⟩ = some (.string (bs wKind))) (c1 : w.cell? ⟨b, off + 1, none⟩ = some (.string (bs x1))) (hw : ∀ k x, ws[k]? = some x → w.cell? ⟨b, off + 2 + k, none⟩ = some (.string (bs x)))
    (hn : n = ws.length + 2) (hc : n ≤ c) (hm : c ≤ maxLen) (hc2 : c = 2) (hz : ∀ x ∈ ws, x.length < 4294967281) (hz1 : x1.length < 4294967281) (hE : EV w) :
    Calls Tryz.prog 59 #[.slice (some ⟨b, off, none⟩) n c] w (KP w x1 [] ws) := by
  obtain ⟨i0, hi0, hz0, hz1', hz2⟩ := info_parts infoFd
  have hB0 : Below w.heap.size w (resK w) := b_alloc (Below.refl _ _) (Nat.le_refl _) _
  have e0 := (hB0.cell (p := ⟨b, off, none⟩) hb).trans c0
  have e1 := (hB0.cell (p := ⟨b, off + 1, none⟩) hb).trans c1
  have HW : Hid (∀ k x, ws[k]? = some x → w.cell? ⟨b, off + 2 + k, none⟩ = some (.string (bs x))) := hw
  have HZ : Hid (∀ x ∈ ws, x.length < 4294967281) := hz
  have HE : Hid (EV w) := hE
  have hB1 : Below w.heap.size w (((w.alloc (.cells #[.string (bs x1), .slice none 0 0, .slice none 0 0] 55)).alloc (.cells #[.string (bs x1)] 9)).drew) := b_drew1 (b_alloc (b_alloc (Below.refl _ _) (Nat.le_refl _) _) (Nat.le_refl _) _)
  have hR1 : (((w.alloc (.cells #[.string (bs x1), .slice none 0 0, .slice none 0 0] 55)).alloc (.cells #[.string (bs x1)] 9)).drew).heap[w.heap.size]? = some (.cells #[.string (bs x1), .slice none 0 0, .slice none 0 0] 55 (0, 0)) := (Below.heap_alloc _ _ _ (by simp)).trans (heap_alloc_new w _)
  have hI : IsS (((w.alloc (.cells #[.string (bs x1), .slice none 0 0, .slice none 0 0] 55)).alloc (.cells #[.string (bs x1)] 9)).drew) (.slice (some ⟨w.heap.size + 1, 0, none⟩) 1 1) [x1] := by
    have := one_isS (w.alloc (.cells #[.string (bs x1), .slice none 0 0, .slice none 0 0] 55)) x1
    rw [World.size_alloc] at this
    exact isS_dr this 1
  have cA := areNames_any hI (by simp) (fun x hx => by obtain rfl : x = x1 := by simpa using hx
                                                       exact hz1)
  have cN := fun W => areNames_any (isS_nil W) (by simp) (fun x hx => by simp at hx)
  have hN0 : areN [] = true := rfl
  rw [hN0] at cN
  have hnm : n - 2 = ws.length := by omega
  have hbn : ¬ b = w.heap.size := by omega
  have hn2 : ¬ (n : Int) < 2 := by omega
  have hi : (0 : Int) < (n : Int) := by omega
  have hi1 : (1 : Int) < (n : Int) := by omega
  have hi2 : (2 : Int) ≤ (n : Int) := by omega
  have hi3 : (n : Int) ≤ (c : Int) := by omega
  have hno' : ¬ (1 : Int) < (ws.length : Int) := by omega
  have HW0 : Hid (ws.length = 0) := by show _ = _; omega
  clear c0 c1 hw hz hE hI hn
  cases hA : areN [x1]
  · rw [hA] at cA
    have HN : Hid ((areN [x1] && areN [] && ws.all fdOk) = false) := by
      show _ = _
      rw [hA]; rfl
    clear hA
    go_enter Tryz.func59, Tryz.ntmps59
    go_wp2
    first | (go_region_with (fail)) | fail
    all_goals
      go_wp2_with (go_at_call 86; refine cA.mono ?_; rintro e W1 ⟨rfl, hB2⟩; have k1 := (hB2.block w.heap.size (by simp; omega)).trans hR1; have m0 := cellB (i := 0) k1 rfl; have m1 := cellB (i := 1) k1 rfl; have m2 := cellB (i := 2) k1 rfl; have f0 := frzB (i := 0) k1; have f1 := frzB (i := 1) k1; have f2 := frzB (i := 2) k1)
      (try simp only [Exit.inBlock, Exit.then])
      refine bodyPost_ret (v := .tuple #[kdZ, .bool false]) ?_ rfl ?_
      · rw [results_cell_tmp rfl]
        go_simp
      · exact kp_bad HN.out (b_set3 (on1 hB1 hB2 (Nat.le_refl _)) _ _ _)
  · rw [hA] at cA
    have HA : Hid (areN [x1] = true) := hA
    clear hA
    go_enter Tryz.func59, Tryz.ntmps59
    go_wp2
    first | (go_region_with (fail)) | fail
    all_goals
      go_wp2_with (go_at_call 86; refine cA.mono ?_; rintro e W1 ⟨rfl, hB2⟩; refine Hid.out ?_)
      refine Lib.hid ?_
      have k1 := (hB2.block w.heap.size (by simp; omega)).trans hR1
      have k1' := cellB (i := 1) k1 rfl
      go_wp2_with (go_at_call 86; refine (cN _).mono ?_; rintro e W2 ⟨rfl, hB3⟩)
      have HB : Hid (W2.heap[w.heap.size]? = some (.cells #[.string (bs x1), .slice none 0 0, .slice none 0 0] 55 (0, 0)) ∧ Below w.heap.size w W2) := ⟨(hB3.block _ (Array.getElem?_eq_some_iff.1 k1).1).trans k1, on1 (on1 hB1 hB2 (Nat.le_refl _)) hB3 (Nat.le_refl _)⟩
      have hRW : w.heap.size < W2.heap.size := (Array.getElem?_eq_some_iff.1 HB.out.1).1
      have HAA : Hid ((areN [x1] && areN []) = true) := by
        show _ = _
        rw [HA.out]; rfl
      clear cA cN k1 k1' hB1 hB2 hB3 hR1
      obtain ⟨WL, hWL⟩ : ∃ WL, WL = W2 := ⟨_, rfl⟩
      have HL : Hid (PK w W2 x1 (.slice none 0 0) ws (.int .i64 0) W2) := ⟨0, .slice none 0 0, Nat.zero_le _, rfl, fun x hx => by simp at hx, World.ownsRow_nil _ _ _ _, HB.out.1, fun _ _ _ => rfl, Nat.le_refl _, HB.out.2⟩
      clear hWL
      go_loopw [54] (fun i wr => PK w W2 x1 (.slice none 0 0) ws i wr) (fun i _ => ws.length - (intOf i).toNat)
      case atStart => exact HL.out
      case round =>
        obtain ⟨k, v, hk, rfl, hall, hO, hG, hK, hs, hBr⟩ := hrel
        obtain ⟨av, cv, rfl⟩ := own_slice hO
        have g0 := cellB (i := 0) hG rfl
        have g1 := cellB (i := 1) hG rfl
        have g2 := cellB (i := 2) hG rfl
        have f0 := frzB (i := 0) hG
        have f1 := frzB (i := 1) hG
        have f2 := frzB (i := 2) hG
        have hRr : w.heap.size < wr.heap.size := (Array.getElem?_eq_some_iff.1 hG).1
        have HH : Hid ((∀ x ∈ ws.take k, fdOk x = true) ∧ wr.ownsRow W2.heap.size 52 4 (.slice av k cv) k (cellsF ((ws.take k).map fdOf)) ∧ wr.heap[w.heap.size]? = some (.cells #[.string (bs x1), (.slice none 0 0), .slice av k cv] 55 (0, 0)) ∧ (∀ b, b < W2.heap.size → b ≠ w.heap.size → wr.heap[b]? = W2.heap[b]?) ∧ W2.heap.size ≤ wr.heap.size ∧ Below w.heap.size w wr) := ⟨hall, hO, hG, hK, hs, hBr⟩
        by_cases hlt : k < ws.length
        · exact absurd hlt (by have := HW0.out; omega)
        · obtain rfl : k = ws.length := by omega
          have HFin : Hid (KP w x1 [] ws (.returned (.tuple #[.agg #[.string (bs x1), (.slice none 0 0), .slice av ws.length cv], .bool true])) (((wr.setCell ⟨w.heap.size, 0, none⟩ (.string (bs x1))).setCell ⟨w.heap.size, 1, none⟩ (.slice none 0 0)).setCell ⟨w.heap.size, 2, none⟩ (.slice av ws.length cv))) := by
            have hne := row_apart hO hG (by decide)
            have hO' := own_set (own_set (own_set hO hne 0 (.string (bs x1))) hne 1 (.slice none 0 0)) hne 2 (.slice av ws.length cv)
            rw [List.take_length] at hO' hall
            refine ⟨?_, b_set3 hBr _ _ _⟩
            rw [if_pos (by rw [HAA.out, List.all_eq_true.2 hall]; rfl)]
            exact ⟨_, _, rfl, World.ownsRow_nil _ _ _ _, own_base hO' (Nat.le_of_lt hRW)⟩
          have hR3 : wr.heap[w.heap.size]? = some (.cells #[.string (bs x1), (.slice none 0 0), .slice av ws.length cv] 55 (0, 0)) := hG
          clear hall hO hG hK hs hBr
          go_wp2
          (try simp only [Exit.inBlock, Exit.then])
          refine bodyPost_ret (v := .tuple #[.agg #[.string (bs x1), (.slice none 0 0), .slice av ws.length cv], .bool true]) ?_ rfl HFin.out
          rw [results_cell_tmp rfl]
          go_simp
end Go.Proofs.YtgjlonilbhlneaaGreatDoor

/-
  The walks of schema.wordsOf and schema.withOne.
-/
namespace Go.Proofs.YtgjlonilbhlneaaGreatDoor
open Go.RowKit
set_option linter.unusedVariables false
set_option linter.unusedSimpArgs false

def wordsL (l : Nm) : List Nm := (Lib.splitB ⟨#[32]⟩ 0 (Lib.countB (bs l) ⟨#[32]⟩) (bs l)).map (·.data.toList)
theorem split_isS (w : World) (xs : List ByteArray) (n : Nat) (hn : xs.length = n) (hm : n ≤ maxLen) : IsS (w.alloc (.cells (xs.map Value.string).toArray 9)) (.slice (some ⟨w.heap.size, 0, none⟩) n n) (xs.map (·.data.toList)) := by
  refine .inr ⟨w.heap.size, 0, n, by simp [hn], by simp [hn], hm, by simp, ?_⟩
  intro k y hy
  rw [List.getElem?_map] at hy
  obtain ⟨x, hx, rfl⟩ := Option.map_eq_some_iff.1 hy
  have h1 : (xs.map Value.string)[k]? = some (.string x) := by rw [List.getElem?_map, hx]; rfl
  have := new_at w (xs.map Value.string) 9 k _ h1
  rw [Addr.add_lit] at this
  rw [this]
  have : bs x.data.toList = x := by cases x; simp [bs]
  rw [this]
theorem split_any (l sp : Nm) (w : World) (hl : l.length ≤ 1000000000) (hE : EV w) (h1 : sp.length = 1) :
    Calls Tryz.prog 56 #[.string (bs l), .string (bs sp)] w fun e w' => ∃ v, e = .returned v ∧ IsS w' v ((Lib.splitB (bs sp) 0 (Lib.countB (bs l) (bs sp)) (bs l)).map (·.data.toList)) ∧ Below w.heap.size w w' := by
  obtain ⟨m, hm⟩ := hE.mx
  have hs1 : 1 ≤ (bs sp).size := by rw [bs_size]; omega
  refine (Tryz.strings_Split (bs l) (bs sp) m w (by rw [bs_size]; omega) hm hs1).mono ?_
  rintro e w' ⟨rfl, rfl⟩
  have hle := Lib.countB_le (bs sp) hs1 (bs l).size (bs l) (Nat.le_refl _)
  have hlen := Lib.splitB_all (bs sp) hs1 0 _ (bs l) rfl
  have hz : (bs l).size = l.length := bs_size l
  exact ⟨_, rfl, split_isS w _ _ hlen (by unfold maxLen; omega), b_alloc (Below.refl _ _) (Nat.le_refl _) _⟩
set_option maxHeartbeats 2000000 in
theorem wordsOf_any (l : Nm) (w : World) (hl : l.length ≤ 1000000000) (hE : EV w) :
    Calls Tryz.prog 35 #[.string (bs l)] w fun e w' => ∃ v, e = .returned (.tuple #[v, .bool (Lib.hasSuffix l [10])]) ∧ IsS w' v (wordsL (Lib.trimSuffix l [10])) ∧ Below w.heap.size w w' := by
  have cS : ∀ W, Calls Tryz.prog 55 #[.string (bs l), .string ⟨#[10]⟩] W fun e w' => e = .returned (.tuple #[.string (bs (Lib.trimSuffix l [10])), .bool (Lib.hasSuffix l [10])]) ∧ w' = W := fun W => by
    have := Tryz.strings_CutSuffix (bs l) ⟨#[10]⟩ W (by rw [bs_size]; omega)
    rw [bs_data] at this
    exact this
  have htl : (Lib.trimSuffix l [10]).length ≤ l.length := by
    unfold Lib.trimSuffix
    split
    · simp only [List.length_take]; omega
    · exact Nat.le_refl _
  have cP : Calls Tryz.prog 56 #[.string (bs (Lib.trimSuffix l [10])), .string ⟨#[32]⟩] w fun e w' => ∃ v, e = .returned v ∧ IsS w' v (wordsL (Lib.trimSuffix l [10])) ∧ Below w.heap.size w w' := split_any _ [32] w (by omega) hE rfl
  generalize Lib.trimSuffix l [10] = t at cS cP ⊢
  generalize Lib.hasSuffix l [10] = b at cS ⊢
  clear htl hl hE
  go_enter Tryz.func35, Tryz.ntmps35
  go_wp2_with (first | (go_at_call 55; refine (cS _).mono ?_; rintro e w' ⟨rfl, rfl⟩) | (go_at_call 56; refine cP.mono ?_; rintro e W2 ⟨v2, rfl, hi2, hB2⟩))
  go_ret2
  exact ⟨_, rfl, hi2, hB2⟩
end Go.Proofs.YtgjlonilbhlneaaGreatDoor

/-
  The walk of schema.parseKind: the word behind the name is 'of'.
-/
namespace Go.Proofs.YtgjlonilbhlneaaGreatDoor
open Go.RowKit
set_option linter.unusedVariables false
set_option linter.unusedSimpArgs false

theorem isS_sl {w : World} {v : Value} {l : List Nm} (h : IsS w v l) : ∃ ao c, v = .slice ao l.length c := by
  rcases h with ⟨ao, c, rfl, rfl, _⟩ | ⟨b, off, cap, rfl, _⟩
  · exact ⟨_, _, rfl⟩
  · exact ⟨_, _, rfl⟩
theorem own_fin {w w' : World} {base R : Nat} {e t : TypeId} {size : Nat} {v : Value} {n : Nat} {xs : List Value} {cs : Array Value} (h : w.ownsRow base e size v n xs) (hR : w.heap[R]? = some (.cells cs t (0, 0))) (hne : t ≠ e) (hk : ∀ b, b < w.heap.size → b ≠ R → w'.heap[b]? = w.heap[b]?) : w'.ownsRow base e size v n xs := by
  have ha := row_apart h hR hne
  refine ⟨h.1, ?_⟩
  rcases h.2 with h | ⟨g, cap, cur, rfl, hg0, hg, rest⟩
  · exact .inl h
  · exact .inr ⟨g, cap, cur, rfl, hg0, (hk g (Array.getElem?_eq_some_iff.1 hg).1 (fun e => ha (by rw [e]; rfl))).trans hg, rest⟩
theorem split_own (l sp : Nm) (w : World) (hl : l.length ≤ 1000000000) (hE : EV w) (h1 : sp.length = 1) :
    Calls Tryz.prog 56 #[.string (bs l), .string (bs sp)] w fun e w' => ∃ v, e = .returned v ∧ w'.ownsRow w.heap.size 9 1 v ((Lib.splitB (bs sp) 0 (Lib.countB (bs l) (bs sp)) (bs l)).map (·.data.toList)).length (cellsS ((Lib.splitB (bs sp) 0 (Lib.countB (bs l) (bs sp)) (bs l)).map (·.data.toList))) ∧ Below w.heap.size w w' := by
  obtain ⟨m, hm⟩ := hE.mx
  have hs1 : 1 ≤ (bs sp).size := by rw [bs_size]; omega
  refine (Tryz.strings_Split (bs l) (bs sp) m w (by rw [bs_size]; omega) hm hs1).mono ?_
  rintro e w' ⟨rfl, rfl⟩
  have hle := Lib.countB_le (bs sp) hs1 (bs l).size (bs l) (Nat.le_refl _)
  have hlen := Lib.splitB_all (bs sp) hs1 0 _ (bs l) rfl
  have hz : (bs l).size = l.length := bs_size l
  refine ⟨_, rfl, ?_, b_alloc (Below.refl _ _) (Nat.le_refl _) _⟩
  have hc : cellsS ((Lib.splitB (bs sp) 0 (Lib.countB (bs l) (bs sp)) (bs l)).map (·.data.toList)) = (Lib.splitB (bs sp) 0 (Lib.countB (bs l) (bs sp)) (bs l)).map Value.string := by
    unfold cellsS
    rw [List.map_map]
    refine List.map_congr_left (fun x _ => ?_)
    show Value.string (bs x.data.toList) = Value.string x
    have : bs x.data.toList = x := by cases x; simp [bs]
    rw [this]
  rw [hc, List.length_map]
  have := World.ownsRow_lit (e := 9) (size := 1) (base := w.heap.size) w ((Lib.splitB (bs sp) 0 (Lib.countB (bs l) (bs sp)) (bs l)).map Value.string).toArray (Lib.splitB (bs sp) 0 (Lib.countB (bs l) (bs sp)) (bs l)).length (Nat.le_refl _) (by rw [hlen]; unfold maxLen; omega) (by simp)
  rw [hlen] at this ⊢
  exact this
theorem oth3 {w : World} {G b : Nat} {x y z : Value} (hne : b ≠ G) : (((w.setCell ⟨G, 0, none⟩ x).setCell ⟨G, 1, none⟩ y).setCell ⟨G, 2, none⟩ z).heap[b]? = w.heap[b]? :=
  (heap_setCell_other ((w.setCell ⟨G, 0, none⟩ x).setCell ⟨G, 1, none⟩ y) ⟨G, 2, none⟩ b z hne).trans ((heap_setCell_other (w.setCell ⟨G, 0, none⟩ x) ⟨G, 1, none⟩ b y hne).trans (heap_setCell_other w ⟨G, 0, none⟩ b x hne))
def ofL (l : Nm) : List Nm := (Lib.splitB (bs [44]) 0 (Lib.countB (bs l) (bs [44])) (bs l)).map (·.data.toList)
theorem setR {w W : World} {x1 : Nm} (h : W.heap[w.heap.size]? = some (.cells #[.string (bs x1), .slice none 0 0, .slice none 0 0] 55 (0, 0))) (v : Value) : (W.setCell ⟨w.heap.size, 1, none⟩ v).heap[w.heap.size]? = some (.cells #[.string (bs x1), v, .slice none 0 0] 55 (0, 0)) := (heap_setCell_same W w.heap.size 1 _ 55 v h).trans rfl
set_option maxHeartbeats 4000000 in
set_option maxRecDepth 100000 in
theorem parseKind_v4 (b off n c : Nat) (x1 x3 : Nm) (ws : List Nm) (w : World) (hb : b < w.heap.size) (c0 : w.cell? ⟨b, off, none⟩ = some (.string (bs wKind))) (c1 : w.cell? ⟨b, off + 1, none⟩ = some (.string (bs x1))) (c2 : w.cell? ⟨b, off + 2, none⟩ = some (.string (bs wOf))) (c3 : w.cell? ⟨b, off + 2 + 1, none⟩ = some (.string (bs x3))) (hw : ∀ k x, ws[k]? = some x → w.cell? ⟨b, off + 2 + 2 + k, none⟩ = some (.string (bs x)))
    (hn : n = ws.length + 4) (hc : n ≤ c) (hm : c ≤ maxLen) (hc4 : ¬ c = 4) (hwl : ws.length ≤ 1000000000) (hz : ∀ x ∈ ws, x.length < 4294967281) (hz1 : x1.length < 4294967281) (hz3 : x3.length ≤ 1000000000) (hE : EV w) (ho : (ofL x3).length ≤ 100000000 ∧ ∀ x ∈ ofL x3, x.length < 4294967281) :
    Calls Tryz.prog 59 #[.slice (some ⟨b, off, none⟩) n c] w (KP w x1 (ofL x3) ws) := by
  obtain ⟨i0, hi0, hz0, hz1', hz2⟩ := info_parts infoFd
  have hB0 : Below w.heap.size w (resK w) := b_alloc (Below.refl _ _) (Nat.le_refl _) _
  have e0 := (hB0.cell (p := ⟨b, off, none⟩) hb).trans c0
  have e1 := (hB0.cell (p := ⟨b, off + 1, none⟩) hb).trans c1
  have HW : Hid (∀ k x, ws[k]? = some x → w.cell? ⟨b, off + 2 + 2 + k, none⟩ = some (.string (bs x))) := hw
  have HZ : Hid (∀ x ∈ ws, x.length < 4294967281) := hz
  have HZ1 : Hid (x1.length < 4294967281 ∧ ((ofL x3).length ≤ 100000000 ∧ ∀ x ∈ ofL x3, x.length < 4294967281)) := ⟨hz1, ho⟩
  have HE : Hid (EV w) := hE
  have hBd : Below w.heap.size w (w.alloc (.cells #[.string (bs x1), .slice none 0 0, .slice none 0 0] 55)).drew := b_drew1 (b_alloc (Below.refl _ _) (Nat.le_refl _) _)
  have e2 : (w.alloc (.cells #[.string (bs x1), .slice none 0 0, .slice none 0 0] 55)).cell? ⟨b, off + 2, none⟩ = some (.string (bs wOf)) := (hBd.cell (p := ⟨b, off + 2, none⟩) hb).trans c2
  have e2d : (w.alloc (.cells #[.string (bs x1), .slice none 0 0, .slice none 0 0] 55)).drew.cell? ⟨b, off + 2, none⟩ = some (.string (bs wOf)) := e2
  have e3 : (w.alloc (.cells #[.string (bs x1), .slice none 0 0, .slice none 0 0] 55)).cell? ⟨b, off + 2 + 1, none⟩ = some (.string (bs x3)) := (hBd.cell (p := ⟨b, off + 2 + 1, none⟩) hb).trans c3
  have e3d : (w.alloc (.cells #[.string (bs x1), .slice none 0 0, .slice none 0 0] 55)).drew.cell? ⟨b, off + 2 + 1, none⟩ = some (.string (bs x3)) := e3
  have HBd : Hid (Below w.heap.size w (w.alloc (.cells #[.string (bs x1), .slice none 0 0, .slice none 0 0] 55)).drew.drew ∧ (w.alloc (.cells #[.string (bs x1), .slice none 0 0, .slice none 0 0] 55)).drew.drew.heap[w.heap.size]? = some (.cells #[.string (bs x1), .slice none 0 0, .slice none 0 0] 55 (0, 0)) ∧ (w.alloc (.cells #[.string (bs x1), .slice none 0 0, .slice none 0 0] 55)).drew.drew.heap.size = w.heap.size + 1) := ⟨b_drew1 hBd, heap_alloc_new w _, by simp⟩
  have HCs : Hid (Calls Tryz.prog 56 #[.string (bs x3), .string ⟨#[44]⟩] (w.alloc (.cells #[.string (bs x1), .slice none 0 0, .slice none 0 0] 55)).drew.drew fun e w' => ∃ ao co, e = .returned (.slice ao (ofL x3).length co) ∧ w'.ownsRow w.heap.size 9 1 (.slice ao (ofL x3).length co) (ofL x3).length (cellsS (ofL x3)) ∧ Below (w.alloc (.cells #[.string (bs x1), .slice none 0 0, .slice none 0 0] 55)).drew.drew.heap.size (w.alloc (.cells #[.string (bs x1), .slice none 0 0, .slice none 0 0] 55)).drew.drew w') := by
    refine (split_own x3 [44] _ hz3 (HE.out.on HBd.out.1) rfl).mono ?_
    rintro e w' ⟨v, rfl, hv, hB⟩
    obtain ⟨ao, co, rfl⟩ := own_slice hv
    exact ⟨ao, co, rfl, own_base hv HBd.out.1.size, hB⟩
  have hof : (wOf == [111, 102]) = true := by decide
  have hi4 : (1 : Int) < (ws.length : Int) + 2 := by omega
  have hi5 : (2 : Int) ≤ (ws.length : Int) + 2 := by omega
  have hi6 : (ws.length : Int) + 2 ≤ ((c - 2 : Nat) : Int) := by omega
  have hc22 : ¬ c - 2 = 2 := by omega
  have hc22' : c - 2 - 2 = c - 4 := by omega
  have hbn : ¬ b = w.heap.size := by omega
  have hn2 : ¬ (n : Int) < 2 := by omega
  have hi : (0 : Int) < (n : Int) := by omega
  have hi1 : (1 : Int) < (n : Int) := by omega
  have hi2 : (2 : Int) ≤ (n : Int) := by omega
  have hi3 : (n : Int) ≤ (c : Int) := by omega
  have hnm : n - 2 = ws.length + 2 := by omega
  have hc2 : ¬ c = 2 := by omega
  clear c0 c1 c2 c3 hw hz hE hn hBd
  go_enter Tryz.func59, Tryz.ntmps59
  go_wp2
  first | (go_region_with (fail)) | fail
  all_goals
    go_wp2
    first | (go_region_held_law (fun w' => w'.cell? ⟨b, off + 2 + 1, none⟩ = some (.string (bs x3))) (go_keep) (first | (go_simp; go_at_call 56; refine HCs.out.mono ?_; rintro e W2 ⟨ao, co, rfl, hS2, hB2⟩; have k3 := (hB2.cell (p := ⟨b, off + 2 + 1, none⟩) (by rw [HBd.out.2.2]; show b < _; omega)).trans e3d; have hR2 := (hB2.block w.heap.size (by rw [HBd.out.2.2]; omega)).trans HBd.out.2.1; have m1 := cellB (i := 1) hR2 rfl; have f1 := frzB (i := 1) hR2; have k4 : (W2.setCell ⟨w.heap.size, 1, none⟩ (.slice ao (ofL x3).length co)).cell? ⟨b, off + 2 + 1, none⟩ = some (.string (bs x3)) := (World.cell?_of_block (heap_setCell_other W2 ⟨w.heap.size, 1, none⟩ b _ hbn)).trans k3; have HS2 := Lib.hid hS2; have HB2 := Lib.hid hB2; have HR2 := Lib.hid hR2; clear hS2 hB2 hR2))) | fail
    all_goals
      obtain ⟨W3, hW3⟩ : ∃ W3, W3 = W2.setCell ⟨w.heap.size, 1, none⟩ (.slice ao (ofL x3).length co) := ⟨_, rfl⟩
      rw [← hW3]
      have hR3 : W3.heap[w.heap.size]? = some (.cells #[.string (bs x1), .slice ao (ofL x3).length co, .slice none 0 0] 55 (0, 0)) := by rw [hW3]; exact setR HR2.out _
      have hB3 : Below w.heap.size w W3 := by rw [hW3]; exact (on1 HBd.out.1 HB2.out (Nat.le_refl _)).setCell (Nat.le_refl _) _
      have hS3 : W3.ownsRow w.heap.size 9 1 (.slice ao (ofL x3).length co) (ofL x3).length (cellsS (ofL x3)) := by rw [hW3]; exact own_set HS2.out (row_apart HS2.out HR2.out (by decide)) _ _
      have hRs : w.heap.size < W3.heap.size := (Array.getElem?_eq_some_iff.1 hR3).1
      have r0 := cellB (i := 0) hR3 rfl
      have hB4 : Below W3.heap.size W3 (W3.alloc (.cells #[.string (bs x1)] 9)) := b_alloc (Below.refl _ _) (Nat.le_refl _) _
      have cA := areNames_any (one_isS W3 x1) (by simp) (fun x hx => by obtain rfl : x = x1 := by simpa using hx
                                                                        exact HZ1.out.1)
      have HR3 : Hid (W3.heap[w.heap.size]? = some (.cells #[.string (bs x1), .slice ao (ofL x3).length co, .slice none 0 0] 55 (0, 0)) ∧ Below w.heap.size w W3 ∧ W3.ownsRow w.heap.size 9 1 (.slice ao (ofL x3).length co) (ofL x3).length (cellsS (ofL x3)) ∧ Below W3.heap.size W3 (W3.alloc (.cells #[.string (bs x1)] 9))) := ⟨hR3, hB3, hS3, hB4⟩
      clear hW3 hR3 hB3 hS3 hB4 k3 k4 m1 f1
      cases hA : areN [x1]
      · rw [hA] at cA
        have HN : Hid ((areN [x1] && areN (ofL x3) && ws.all fdOk) = false) := by
          show _ = _
          rw [hA]; rfl
        clear hA
        go_wp2_with (go_at_call 86; refine cA.mono ?_; rintro e W5 ⟨rfl, hB5⟩; have HB5 := Lib.hid (on1 HR3.out.2.2.2 hB5 (Nat.le_refl _)); have k1 := (HB5.out.block w.heap.size hRs).trans HR3.out.1; have n0 := cellB (i := 0) k1 rfl; have n1 := cellB (i := 1) k1 rfl; have n2 := cellB (i := 2) k1 rfl; have q0 := frzB (i := 0) k1; have q1 := frzB (i := 1) k1; have q2 := frzB (i := 2) k1; clear hB5)
        (try simp only [Exit.inBlock, Exit.then])
        refine bodyPost_ret (v := .tuple #[kdZ, .bool false]) ?_ rfl ?_
        · rw [results_cell_tmp rfl]
          go_simp
        · exact kp_bad HN.out (b_set3 (on1 HR3.out.2.1 HB5.out (Nat.le_refl _)) _ _ _)
      · rw [hA] at cA
        have HA : Hid (areN [x1] = true) := hA
        clear hA
        go_wp2_with (go_at_call 86; refine cA.mono ?_; rintro e W5 ⟨rfl, hB5⟩; refine Hid.out ?_)
        refine Lib.hid ?_
        have HB5 : Hid (Below W3.heap.size W3 W5) := on1 HR3.out.2.2.2 hB5 (Nat.le_refl _)
        have hR5 := (HB5.out.block w.heap.size hRs).trans HR3.out.1
        have n1 := cellB (i := 1) hR5 rfl
        have HR5 : Hid (W5.heap[w.heap.size]? = some (.cells #[.string (bs x1), .slice ao (ofL x3).length co, .slice none 0 0] 55 (0, 0))) := hR5
        have cO := areNames_any (own_isS (own_bel HR3.out.2.2.1 HB5.out)) HZ1.out.2.1 HZ1.out.2.2
        clear cA hB5 hR5
        cases hO : areN (ofL x3)
        · rw [hO] at cO
          have HN : Hid ((areN [x1] && areN (ofL x3) && ws.all fdOk) = false) := by
            show _ = _
            rw [hO, Bool.and_false, Bool.false_and]
          clear hO
          go_wp2_with (go_at_call 86; refine cO.mono ?_; rintro e W6 ⟨rfl, hB6⟩; have HB6 := Lib.hid (on1 HB5.out hB6 (Nat.le_refl _)); have k1 := (HB6.out.block w.heap.size hRs).trans HR3.out.1; have n0 := cellB (i := 0) k1 rfl; have n1' := cellB (i := 1) k1 rfl; have n2 := cellB (i := 2) k1 rfl; have q0 := frzB (i := 0) k1; have q1 := frzB (i := 1) k1; have q2 := frzB (i := 2) k1; clear hB6)
          (try simp only [Exit.inBlock, Exit.then])
          refine bodyPost_ret (v := .tuple #[kdZ, .bool false]) ?_ rfl ?_
          · rw [results_cell_tmp rfl]
            go_simp
          · exact kp_bad HN.out (b_set3 (on1 HR3.out.2.1 HB6.out (Nat.le_refl _)) _ _ _)
        · rw [hO] at cO
          have HAA : Hid ((areN [x1] && areN (ofL x3)) = true) := by
            show _ = _
            rw [HA.out, hO]; rfl
          clear hO
          go_wp2_with (go_at_call 86; refine cO.mono ?_; rintro e W6 ⟨rfl, hB6⟩)
          have HB6 : Hid (Below W3.heap.size W3 W6) := on1 HB5.out hB6 (Nat.le_refl _)
          have HB : Hid (W6.heap[w.heap.size]? = some (.cells #[.string (bs x1), .slice ao (ofL x3).length co, .slice none 0 0] 55 (0, 0)) ∧ Below w.heap.size w W6) := ⟨(HB6.out.block w.heap.size hRs).trans HR3.out.1, on1 HR3.out.2.1 HB6.out (Nat.le_refl _)⟩
          have HO6 : Hid (W6.ownsRow w.heap.size 9 1 (.slice ao (ofL x3).length co) (ofL x3).length (cellsS (ofL x3))) := own_bel HR3.out.2.2.1 HB6.out
          have hRW : w.heap.size < W6.heap.size := (Array.getElem?_eq_some_iff.1 HB.out.1).1
          clear cO n1 hB6 r0
          obtain ⟨WL, hWL⟩ : ∃ WL, WL = W6 := ⟨_, rfl⟩
          have HL : Hid (PK w W6 x1 (.slice ao (ofL x3).length co) ws (.int .i64 0) W6) := ⟨0, .slice none 0 0, Nat.zero_le _, rfl, fun x hx => by simp at hx, World.ownsRow_nil _ _ _ _, HB.out.1, fun _ _ _ => rfl, Nat.le_refl _, HB.out.2⟩
          clear hWL
          go_loopw [54] (fun i wr => PK w W6 x1 (.slice ao (ofL x3).length co) ws i wr) (fun i _ => ws.length - (intOf i).toNat)
          case atStart => exact HL.out
          case round =>
            obtain ⟨k, v, hk, rfl, hall, hO, hG, hK, hs, hBr⟩ := hrel
            obtain ⟨av, cv, rfl⟩ := own_slice hO
            have g0 := cellB (i := 0) hG rfl
            have g1 := cellB (i := 1) hG rfl
            have g2 := cellB (i := 2) hG rfl
            have f0 := frzB (i := 0) hG
            have f1 := frzB (i := 1) hG
            have f2 := frzB (i := 2) hG
            have hRr : w.heap.size < wr.heap.size := (Array.getElem?_eq_some_iff.1 hG).1
            have HH : Hid ((∀ x ∈ ws.take k, fdOk x = true) ∧ wr.ownsRow W6.heap.size 52 4 (.slice av k cv) k (cellsF ((ws.take k).map fdOf)) ∧ wr.heap[w.heap.size]? = some (.cells #[.string (bs x1), (.slice ao (ofL x3).length co), .slice av k cv] 55 (0, 0)) ∧ (∀ b, b < W6.heap.size → b ≠ w.heap.size → wr.heap[b]? = W6.heap[b]?) ∧ W6.heap.size ≤ wr.heap.size ∧ Below w.heap.size w wr) := ⟨hall, hO, hG, hK, hs, hBr⟩
            by_cases hlt : k < ws.length
            · obtain ⟨x, hx⟩ : ∃ x, ws[k]? = some x := ⟨ws[k], by simp [hlt]⟩
              have d0 := (hBr.cell (p := ⟨b, off + 2 + 2 + k, none⟩) hb).trans (HW.out k x hx)
              have cf := parseField_any x wr (HZ.out x (List.mem_of_getElem? hx)) (HE.out.on hBr)
              have HXk : Hid (ws[k]? = some x) := hx
              have hki : (k : Int) < (ws.length : Int) := by omega
              obtain ⟨f, hf⟩ : ∃ f, fdOf x = f := ⟨_, rfl⟩
              rw [hf] at cf
              have HF : Hid (fdOf x = f) := hf
              clear hall hO hG hK hs hBr hx hf
              obtain ⟨fn, ft, fm, fk⟩ := f
              cases hok : fdOk x
              · rw [hok] at cf
                have HN : Hid (ws.all fdOk = false) := all_no HXk.out hok
                clear hok
                go_wp2_with (first | (go_at_call 88; refine cf.mono ?_; rintro e W5 ⟨rfl, hB5⟩; have k0 := (hB5.cell (p := ⟨w.heap.size, 0, none⟩) hRr).trans g0; have k1 := (hB5.cell (p := ⟨w.heap.size, 1, none⟩) hRr).trans g1; have k2 := (hB5.cell (p := ⟨w.heap.size, 2, none⟩) hRr).trans g2; have q0 := (hB5.frozen (p := ⟨w.heap.size, 0, none⟩) hRr).trans f0; have q1 := (hB5.frozen (p := ⟨w.heap.size, 1, none⟩) hRr).trans f1; have q2 := (hB5.frozen (p := ⟨w.heap.size, 2, none⟩) hRr).trans f2; have hn5 : ¬ w.heap.size = W5.heap.size := fun h => absurd hB5.size (by omega); have y0 := ((b_alloc hB5 (Nat.le_refl _) (.cells #[.string (bs fn), .int .i64 ft, .bool fm, .bool fk] 52)).cell (p := ⟨w.heap.size, 0, none⟩) hRr).trans g0; have z0 := ((b_alloc hB5 (Nat.le_refl _) (.cells #[.string (bs fn), .int .i64 ft, .bool fm, .bool fk] 52)).frozen (p := ⟨w.heap.size, 0, none⟩) hRr).trans f0; have y1 := ((b_alloc hB5 (Nat.le_refl _) (.cells #[.string (bs fn), .int .i64 ft, .bool fm, .bool fk] 52)).cell (p := ⟨w.heap.size, 1, none⟩) hRr).trans g1; have z1 := ((b_alloc hB5 (Nat.le_refl _) (.cells #[.string (bs fn), .int .i64 ft, .bool fm, .bool fk] 52)).frozen (p := ⟨w.heap.size, 1, none⟩) hRr).trans f1; have y2 := ((b_alloc hB5 (Nat.le_refl _) (.cells #[.string (bs fn), .int .i64 ft, .bool fm, .bool fk] 52)).cell (p := ⟨w.heap.size, 2, none⟩) hRr).trans g2; have z2 := ((b_alloc hB5 (Nat.le_refl _) (.cells #[.string (bs fn), .int .i64 ft, .bool fm, .bool fk] 52)).frozen (p := ⟨w.heap.size, 2, none⟩) hRr).trans f2))
                (try simp only [Exit.inBlock, Exit.then])
                refine bodyPost_ret (v := .tuple #[kdZ, .bool false]) ?_ rfl ?_
                · rw [results_cell_tmp rfl]
                  go_simp
                · exact kp_bad (by rw [HN.out, Bool.and_false]) (by first | exact b_set3 (b_alloc (on1 HH.out.2.2.2.2.2 hB5 (Nat.le_refl _)) (Nat.le_refl _) _) _ _ _ | exact b_alloc (b_set3 (on1 HH.out.2.2.2.2.2 hB5 (Nat.le_refl _)) _ _ _) (Nat.le_refl _) _)
              · rw [hok] at cf
                have HOK : Hid (fdOk x = true) := hok
                have HO5 : Hid (∀ W5, Below wr.heap.size wr W5 → (wF W5 ⟨fn, ft, fm, fk⟩).ownsRow W6.heap.size 52 4 (.slice av k cv) k (cellsF ((ws.take k).map fdOf)) ∧ W6.heap.size ≤ (wF W5 ⟨fn, ft, fm, fk⟩).heap.size) := fun W5 h5 => ⟨(own_bel HH.out.2.1 h5).alloc _ |>.alloc _, by have := h5.size; have := HH.out.2.2.2.2.1; simp [wF]; omega⟩
                have HK : Hid (∀ W5 w1, Below wr.heap.size wr W5 → (wF W5 ⟨fn, ft, fm, fk⟩).grownBy w1 (Value.slice av k cv).ownBlock → w1.cell? ⟨w.heap.size, 2, none⟩ = some (.slice av k cv) ∧ w1.frozen? ⟨w.heap.size, 2, none⟩ = false) := fun W5 w1 h5 hg1 => by
                  have hne := row_apart HH.out.2.1 HH.out.2.2.1 (by decide)
                  have hbk : w1.heap[w.heap.size]? = some (.cells #[.string (bs x1), (.slice ao (ofL x3).length co), .slice av k cv] 55 (0, 0)) := (hg1.block _ (Nat.lt_of_lt_of_le hRr (on1 h5 (bF W5 _) (Nat.le_refl _)).size) (fun h => hne h.symm)).trans (((on1 h5 (bF W5 _) (Nat.le_refl _)).block _ hRr).trans HH.out.2.2.1)
                  exact ⟨cellB hbk rfl, frzB hbk⟩
                have HM : Hid (k + 1 ≤ maxLen ∧ (k + 1) * 32 ≤ 140737488355328) := by unfold maxLen; exact ⟨by omega, by omega⟩
                have HNA : Hid (∀ W5 : World, ∀ j u, [Value.string (bs fn), .int .i64 ft, .bool fm, .bool fk][j]? = some u → (wF W5 ⟨fn, ft, fm, fk⟩).cell? ((⟨W5.heap.size + 1, 0, none⟩ : Addr).add j) = some u) := fun W5 => by
                  have := new_at (W5.alloc (.cells #[.string (bs fn), .int .i64 ft, .bool fm, .bool fk] 52)) [.string (bs fn), .int .i64 ft, .bool fm, .bool fk] 52
                  rw [World.size_alloc] at this
                  exact this
                have hwk : IntKind.i64.wrap ((k : Int) + 1) = (k : Int) + 1 := by rw [IntKind.wrap_i64]; omega
                clear hok
                go_wp2_with (first | (go_at_call 88; refine cf.mono ?_; rintro e W5 ⟨rfl, hB5⟩; have k2 := (hB5.cell (p := ⟨w.heap.size, 2, none⟩) hRr).trans g2; have hn5 : ¬ w.heap.size = W5.heap.size := fun h => absurd hB5.size (by omega); have y0 := ((b_alloc hB5 (Nat.le_refl _) (.cells #[.string (bs fn), .int .i64 ft, .bool fm, .bool fk] 52)).cell (p := ⟨w.heap.size, 0, none⟩) hRr).trans g0; have z0 := ((b_alloc hB5 (Nat.le_refl _) (.cells #[.string (bs fn), .int .i64 ft, .bool fm, .bool fk] 52)).frozen (p := ⟨w.heap.size, 0, none⟩) hRr).trans f0; have y1 := ((b_alloc hB5 (Nat.le_refl _) (.cells #[.string (bs fn), .int .i64 ft, .bool fm, .bool fk] 52)).cell (p := ⟨w.heap.size, 1, none⟩) hRr).trans g1; have z1 := ((b_alloc hB5 (Nat.le_refl _) (.cells #[.string (bs fn), .int .i64 ft, .bool fm, .bool fk] 52)).frozen (p := ⟨w.heap.size, 1, none⟩) hRr).trans f1; have y2 := ((b_alloc hB5 (Nat.le_refl _) (.cells #[.string (bs fn), .int .i64 ft, .bool fm, .bool fk] 52)).cell (p := ⟨w.heap.size, 2, none⟩) hRr).trans g2; have z2 := ((b_alloc hB5 (Nat.le_refl _) (.cells #[.string (bs fn), .int .i64 ft, .bool fm, .bool fk] 52)).frozen (p := ⟨w.heap.size, 2, none⟩) hRr).trans f2) | (at_builtin; refine wpList_append_own _ rfl (.tmp 67) (.tmp 69) 53 rfl W6.heap.size 52 i0 _ 4 32 Tryz.underlying53 hi0 hz0 hz1' hz2 rfl (by decide) (.slice av k cv) k (cellsF ((ws.take k).map fdOf)) rfl (HO5.out W5 hB5).1 ⟨W5.heap.size + 1, 0, none⟩ 1 1 [.string (bs fn), .int .i64 ft, .bool fm, .bool fk] (by simp [Act.eval]) rfl (HNA.out W5) (by simp [Value.oneCell']) HM.out.1 HM.out.2 (HO5.out W5 hB5).2 ?_; intro v1 w1 hown1 hgrow1 _; obtain ⟨q0, q1⟩ := HK.out W5 w1 hB5 hgrow1; obtain ⟨a1, c1, rfl⟩ := own_slice hown1))
                have HR2 : Hid (PK w W6 x1 (.slice ao (ofL x3).length co) ws (.int .i64 ((k : Int) + 1)) (w1.setCell ⟨w.heap.size, 2, none⟩ (.slice a1 (k + 1) c1))) := pk_step HXk.out HOK.out hRW HH.out.1 HH.out.2.1 HH.out.2.2.1 HH.out.2.2.2.1 HH.out.2.2.2.2.1 HH.out.2.2.2.2.2 hB5 (by rw [HF.out]; exact hown1) (by rw [HF.out]; exact hgrow1)
                refine ⟨?_, ?_⟩
                · first | exact HR2.out | ((repeat apply Exists.intro); refine ⟨?_, rfl⟩; exact HR2.out)
                · simp [intOf]
                  try omega
            · obtain rfl : k = ws.length := by omega
              have HFin : Hid (KP w x1 (ofL x3) ws (.returned (.tuple #[.agg #[.string (bs x1), (.slice ao (ofL x3).length co), .slice av ws.length cv], .bool true])) (((wr.setCell ⟨w.heap.size, 0, none⟩ (.string (bs x1))).setCell ⟨w.heap.size, 1, none⟩ (.slice ao (ofL x3).length co)).setCell ⟨w.heap.size, 2, none⟩ (.slice av ws.length cv))) := by
                have hne := row_apart hO hG (by decide)
                have hO' := own_set (own_set (own_set hO hne 0 (.string (bs x1))) hne 1 (.slice ao (ofL x3).length co)) hne 2 (.slice av ws.length cv)
                rw [List.take_length] at hO' hall
                refine ⟨?_, b_set3 hBr _ _ _⟩
                rw [if_pos (by rw [HAA.out, List.all_eq_true.2 hall]; rfl)]
                exact ⟨_, _, rfl, own_fin HO6.out HB.out.1 (by decide) (fun b hb hne => (oth3 hne).trans (hK b hb hne)), own_base hO' (Nat.le_of_lt hRW)⟩
              have hR3 : wr.heap[w.heap.size]? = some (.cells #[.string (bs x1), (.slice ao (ofL x3).length co), .slice av ws.length cv] 55 (0, 0)) := hG
              clear hall hO hG hK hs hBr
              go_wp2
              (try simp only [Exit.inBlock, Exit.then])
              refine bodyPost_ret (v := .tuple #[.agg #[.string (bs x1), (.slice ao (ofL x3).length co), .slice av ws.length cv], .bool true]) ?_ rfl HFin.out
              rw [results_cell_tmp rfl]
              go_simp
end Go.Proofs.YtgjlonilbhlneaaGreatDoor
