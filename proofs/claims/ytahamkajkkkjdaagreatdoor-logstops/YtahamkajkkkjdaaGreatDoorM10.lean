import Derived.Test.YtahamkajkkkjdaaGreatDoorM09
import Derived.Test.YtahamkajkkkjdaaGreatDoorM03
import Derived.Deep.QuietTactic
import Derived.BigQuiet
import Derived.Laws.Cover1
namespace Go.Proofs.YtahamkajkkkjdaaGreatDoor
open Go.RowKit
set_option linter.unusedVariables false
set_option linter.unusedSimpArgs false
set_option maxHeartbeats 1000000 in
theorem bname_any (k : Bd) (b : Nat) (s : Nm) (w : World) (hc : w.cell? ⟨b, 0, none⟩ = some (.string (bs s))) (hb : b < w.heap.size) :
    Calls Tryz.prog 47 #[k.one, .pointer (some ⟨b, 0, none⟩)] w fun e w' => e = .returned (.bool (k.nm == s)) ∧ w' = w.alloc (.cells #[.string (bs k.nm), .string (bs k.fr), .string (bs k.tt), .int .i64 k.mn, .int .i64 k.mx] 54) := by
  go_enter Tryz.func47, Tryz.ntmps47
  go_wp2
  go_ret
  exact ⟨by simp, rfl⟩
set_option maxHeartbeats 4000000 in
set_option maxRecDepth 100000 in
theorem idxFB_some (b off cap : Nat) (L : List Bd) (bn : Nat) (s : Nm) (w : World) (hb : b < w.heap.size) (hL : LiesB w b off L) (hn : L.length ≤ 12) (hbn : bn < w.heap.size) (hc : w.cell? ⟨bn, 0, none⟩ = some (.string (bs s))) :
    Calls Tryz.prog 46 #[.slice (some ⟨b, off, none⟩) L.length cap, .func (.func 47) #[] #[.pointer (some ⟨bn, 0, none⟩)]] w fun e w' => e = .returned (.int .i64 (idxB s L 0)) ∧ Below w.heap.size w w' := by
  go_enter Tryz.func46, Tryz.ntmps46
  go_wp2
  go_loopw [8] (fun i wr => ∃ k : Nat, k ≤ L.length ∧ i = .int .i64 k ∧ idxB s L 0 = idxB s (L.drop k) k ∧ Below w.heap.size w wr) (fun i _ => L.length - (intOf i).toNat)
  case atStart => exact ⟨0, Nat.zero_le _, rfl, rfl, Below.refl _ _⟩
  case round =>
    obtain ⟨k, hk, rfl, hi, hB⟩ := hrel
    have HI : Hid (idxB s L 0 = idxB s (L.drop k) k) := hi
    clear hi
    by_cases hlt : k < L.length
    · obtain ⟨p, hp⟩ : ∃ p, L[k]? = some p := ⟨L[k], by simp [hlt]⟩
      obtain ⟨c0, c1, c2, c3, c4⟩ := hL k p hp
      have d0 := (hB.cell (p := ⟨b, off + k * 5, none⟩) hb).trans c0
      have d1 := (hB.cell (p := ⟨b, off + k * 5 + 1, none⟩) hb).trans c1
      have d2 := (hB.cell (p := ⟨b, off + k * 5 + 2, none⟩) hb).trans c2
      have d3 := (hB.cell (p := ⟨b, off + k * 5 + 3, none⟩) hb).trans c3
      have d4 := (hB.cell (p := ⟨b, off + k * 5 + 4, none⟩) hb).trans c4
      have HD : Hid (L.drop k = p :: L.drop (k + 1)) := dropK hp
      have cn := bname_any p bn s wr ((hB.cell (p := ⟨bn, 0, none⟩) hbn).trans hc) (Nat.lt_of_lt_of_le hbn hB.size)
      clear c0 c1 c2 c3 c4 hp hL hc
      by_cases hq : (p.nm == s) = true
      · have H : Hid (idxB s L 0 = k) := by
          show _ = _
          rw [HI.out, HD.out]; unfold idxB; rw [if_pos hq]
        rw [hq] at cn
        clear HI HD hq
        go_wp2_with (go_at_call 47; refine cn.mono ?_; rintro e w' ⟨rfl, rfl⟩)
        go_ret
        exact ⟨ret_v (by rw [H.out]; rfl), b_allocKC hB (Nat.le_refl _) _⟩
      · have H : Hid (idxB s L 0 = idxB s (L.drop (k + 1)) (k + 1)) := by
          show _ = _
          rw [HI.out, HD.out]; conv => lhs; unfold idxB
          rw [if_neg hq]
        have hq' : (p.nm == s) = false := by simpa using hq
        rw [hq'] at cn
        clear HI HD hq hq'
        go_wp2_with (go_at_call 47; refine cn.mono ?_; rintro e w' ⟨rfl, rfl⟩)
        go_roundw
        case rel => exact ⟨k + 1, by omega, by go_num, H.out, b_allocKC hB (Nat.le_refl _) _⟩
        case measure => simp [intOf]; omega
    · have hd : L.drop k = [] := List.drop_eq_nil_of_le (by omega)
      have H : Hid (idxB s L 0 = -1) := by
        show _ = _
        rw [HI.out, hd]; rfl
      clear HI hd hL hc
      go_wp2
      go_ret
      exact ⟨ret_v (by rw [H.out]; rfl), hB⟩
set_option maxHeartbeats 1000000 in
theorem idxFB_nil (f : Value) (w : World) :
    Calls Tryz.prog 46 #[.slice none 0 0, f] w fun e w' => e = .returned (.int .i64 (-1)) ∧ Below w.heap.size w w' := by
  go_enter Tryz.func46, Tryz.ntmps46
  go_wp2
  go_loopw [8] (fun i wr => i = .int .i64 0 ∧ wr = w) (fun i _ => 0)
  case atStart => exact ⟨rfl, rfl⟩
  case round =>
    obtain ⟨rfl, rfl⟩ := hrel
    go_wp2
    go_ret
    exact ⟨rfl, Below.refl _ _⟩
theorem idxFB_any {v : Value} {L : List Bd} {w : World} (h : IsB w v L) (hn : L.length ≤ 12) (bn : Nat) (s : Nm) (hbn : bn < w.heap.size) (hc : w.cell? ⟨bn, 0, none⟩ = some (.string (bs s))) :
    Calls Tryz.prog 46 #[v, .func (.func 47) #[] #[.pointer (some ⟨bn, 0, none⟩)]] w fun e w' => e = .returned (.int .i64 (idxB s L 0)) ∧ Below w.heap.size w w' := by
  rcases h with ⟨rfl, rfl⟩ | ⟨b, off, cap, rfl, hcap, hm, hb, hl⟩
  · exact idxFB_nil _ w
  · exact idxFB_some b off cap L bn s w hb hl hn hbn hc
set_option maxHeartbeats 1000000 in
theorem bondIndex_any {v : Value} {L : List Bd} {w : World} (h : IsB w v L) (hn : L.length ≤ 12) (s : Nm) :
    Calls Tryz.prog 26 #[v, .string (bs s)] w fun e w' => e = .returned (.int .i64 (idxB s L 0)) ∧ Below w.heap.size w w' := by
  have hB0 : Below w.heap.size w (w.alloc (.cells #[.string (bs s)] 9)) := b_allocKC (Below.refl _ _) (Nat.le_refl _) _
  have c := idxFB_any (h.on hB0) hn w.heap.size s (by simp) (by simp)
  generalize idxB s L 0 = r at c ⊢
  clear h hn
  go_enter Tryz.func26, Tryz.ntmps26
  go_wp2_with (go_at_call 46; refine c.mono ?_; rintro e w' ⟨rfl, hB1⟩)
  go_ret
  exact ⟨rfl, on1KC hB0 hB1 (Nat.le_refl _)⟩
set_option maxHeartbeats 1000000 in
theorem kname_any (k : Kd) (b : Nat) (s : Nm) (w : World) (hc : w.cell? ⟨b, 0, none⟩ = some (.string (bs s))) (hb : b < w.heap.size) :
    Calls Tryz.prog 49 #[k.one, .pointer (some ⟨b, 0, none⟩)] w fun e w' => e = .returned (.bool (k.nm == s)) ∧ w' = w.alloc (.cells #[.string (bs k.nm), k.vo, k.vf] 30) := by
  go_enter Tryz.func49, Tryz.ntmps49
  go_wp2
  go_ret
  exact ⟨by simp, rfl⟩
set_option maxHeartbeats 4000000 in
set_option maxRecDepth 100000 in
theorem idxH_some (b off cap : Nat) (L : List Kd) (bn : Nat) (s : Nm) (w : World) (hb : b < w.heap.size) (hL : LiesK w b off L) (hn : L.length ≤ 12) (hbn : bn < w.heap.size) (hc : w.cell? ⟨bn, 0, none⟩ = some (.string (bs s))) :
    Calls Tryz.prog 64 #[.slice (some ⟨b, off, none⟩) L.length cap, .func (.func 49) #[] #[.pointer (some ⟨bn, 0, none⟩)]] w fun e w' => e = .returned (.int .i64 (idxK s L 0)) ∧ Below w.heap.size w w' := by
  go_enter Tryz.func64, Tryz.ntmps64
  go_wp2
  go_loopw [8] (fun i wr => ∃ k : Nat, k ≤ L.length ∧ i = .int .i64 k ∧ idxK s L 0 = idxK s (L.drop k) k ∧ Below w.heap.size w wr) (fun i _ => L.length - (intOf i).toNat)
  case atStart => exact ⟨0, Nat.zero_le _, rfl, rfl, Below.refl _ _⟩
  case round =>
    obtain ⟨k, hk, rfl, hi, hB⟩ := hrel
    have HI : Hid (idxK s L 0 = idxK s (L.drop k) k) := hi
    clear hi
    by_cases hlt : k < L.length
    · obtain ⟨p, hp⟩ : ∃ p, L[k]? = some p := ⟨L[k], by simp [hlt]⟩
      obtain ⟨c0, c1, c2⟩ := hL k p hp
      have d0 := (hB.cell (p := ⟨b, off + k * 3, none⟩) hb).trans c0
      have d1 := (hB.cell (p := ⟨b, off + k * 3 + 1, none⟩) hb).trans c1
      have d2 := (hB.cell (p := ⟨b, off + k * 3 + 2, none⟩) hb).trans c2
      have HD : Hid (L.drop k = p :: L.drop (k + 1)) := dropK hp
      have cn := kname_any p bn s wr ((hB.cell (p := ⟨bn, 0, none⟩) hbn).trans hc) (Nat.lt_of_lt_of_le hbn hB.size)
      clear c0 c1 c2 hp hL hc
      by_cases hq : (p.nm == s) = true
      · have H : Hid (idxK s L 0 = k) := by
          show _ = _
          rw [HI.out, HD.out]; unfold idxK; rw [if_pos hq]
        rw [hq] at cn
        clear HI HD hq
        go_wp2_with (go_at_call 49; refine cn.mono ?_; rintro e w' ⟨rfl, rfl⟩)
        go_ret
        exact ⟨ret_v (by rw [H.out]; rfl), b_allocKC hB (Nat.le_refl _) _⟩
      · have H : Hid (idxK s L 0 = idxK s (L.drop (k + 1)) (k + 1)) := by
          show _ = _
          rw [HI.out, HD.out]; conv => lhs; unfold idxK
          rw [if_neg hq]
        have hq' : (p.nm == s) = false := by simpa using hq
        rw [hq'] at cn
        clear HI HD hq hq'
        go_wp2_with (go_at_call 49; refine cn.mono ?_; rintro e w' ⟨rfl, rfl⟩)
        go_roundw
        case rel => exact ⟨k + 1, by omega, by go_num, H.out, b_allocKC hB (Nat.le_refl _) _⟩
        case measure => simp [intOf]; omega
    · have hd : L.drop k = [] := List.drop_eq_nil_of_le (by omega)
      have H : Hid (idxK s L 0 = -1) := by
        show _ = _
        rw [HI.out, hd]; rfl
      clear HI hd hL hc
      go_wp2
      go_ret
      exact ⟨ret_v (by rw [H.out]; rfl), hB⟩
theorem idxH_any {v : Value} {L : List Kd} {w : World} (h : IsK w v L) (hn : L.length ≤ 12) (bn : Nat) (s : Nm) (hbn : bn < w.heap.size) (hc : w.cell? ⟨bn, 0, none⟩ = some (.string (bs s))) :
    Calls Tryz.prog 64 #[v, .func (.func 49) #[] #[.pointer (some ⟨bn, 0, none⟩)]] w fun e w' => e = .returned (.int .i64 (idxK s L 0)) ∧ Below w.heap.size w w' := by
  rcases h with ⟨rfl, rfl⟩ | ⟨b, off, cap, rfl, hcap, hm, hb, hl⟩
  · exact idxF_nil _ w
  · exact idxH_some b off cap L bn s w hb hl hn hbn hc
set_option maxHeartbeats 1000000 in
theorem hasKind_any {v : Value} {L : List Kd} {w : World} (h : IsK w v L) (hn : L.length ≤ 12) (s : Nm) :
    Calls Tryz.prog 27 #[v, .string (bs s)] w fun e w' => e = .returned (.bool (hasK L s)) ∧ Below w.heap.size w w' := by
  have hB0 : Below w.heap.size w (w.alloc (.cells #[.string (bs s)] 9)) := b_allocKC (Below.refl _ _) (Nat.le_refl _) _
  have c := idxH_any (h.on hB0) hn w.heap.size s (by simp) (by simp)
  have H : Hid (decide (0 ≤ idxK s L 0) = hasK L s) := rfl
  generalize idxK s L 0 = r at c H
  have c2 : Calls Tryz.prog 48 #[v, .func (.func 49) #[] #[.pointer (some ⟨w.heap.size, 0, none⟩)]] (w.alloc (.cells #[.string (bs s)] 9)) fun e w' => e = .returned (.bool (decide (0 ≤ r))) ∧ Below (w.alloc (.cells #[.string (bs s)] 9)).heap.size (w.alloc (.cells #[.string (bs s)] 9)) w' := by
    generalize w.alloc (.cells #[.string (bs s)] 9) = W at c ⊢
    go_enter Tryz.func48, Tryz.ntmps48
    go_wp2_with (go_at_call 64; refine c.mono ?_; rintro e w' ⟨rfl, hB1⟩)
    go_ret
    exact ⟨rfl, hB1⟩
  rw [H.out] at c2
  clear h hn c H
  go_enter Tryz.func27, Tryz.ntmps27
  go_wp2_with (go_at_call 48; refine c2.mono ?_; rintro e w' ⟨rfl, hB1⟩)
  go_ret
  exact ⟨rfl, on1KC hB0 hB1 (Nat.le_refl _)⟩
set_option maxHeartbeats 2000000 in
theorem inRangeB_any (mn mx : Int) (w : World) : Calls Tryz.prog 28 #[.int .i64 mn, .int .i64 mx] w fun e w' => e = .returned (.bool (inRB mn mx)) ∧ w' = w := by
  have key : (mn < 0) ∨ (¬ mn < 0 ∧ 20 < mn) ∨ (0 ≤ mn ∧ mn ≤ 20 ∧ mx = -1) ∨ (0 ≤ mn ∧ mn ≤ 20 ∧ ¬ mx = -1 ∧ ¬ mn ≤ mx) ∨ (0 ≤ mn ∧ mn ≤ 20 ∧ ¬ mx = -1 ∧ mn ≤ mx ∧ mx ≤ 20) ∨ (0 ≤ mn ∧ mn ≤ 20 ∧ ¬ mx = -1 ∧ mn ≤ mx ∧ ¬ mx ≤ 20) := by omega
  have HI : Hid (∀ c : Bool, (c = true ↔ (0 ≤ mn ∧ mn ≤ 20 ∧ (mx = -1 ∨ (mn ≤ mx ∧ mx ≤ 20)))) → c = inRB mn mx) := fun c h => by
    rw [Bool.eq_iff_iff, inR_iff]; exact h
  rcases key with h | ⟨h, h2⟩ | ⟨h, h2, rfl⟩ | ⟨h, h2, h3, h4⟩ | ⟨h, h2, h3, h4, h5⟩ | ⟨h, h2, h3, h4, h5⟩
  · go_enter Tryz.func28, Tryz.ntmps28
    go_wp2
    go_ret
    exact ⟨ret_bool (HI.out false (by simp; omega)), rfl⟩
  · go_enter Tryz.func28, Tryz.ntmps28
    go_wp2
    go_ret
    exact ⟨ret_bool (HI.out false (by simp; omega)), rfl⟩
  · have g1 : ¬ mn < 0 := by omega
    have g2 : ¬ 20 < mn := by omega
    go_enter Tryz.func28, Tryz.ntmps28
    go_wp2
    go_ret
    exact ⟨ret_bool (HI.out true (by simp; omega)), rfl⟩
  all_goals
    have g1 : ¬ mn < 0 := by omega
    have g2 : ¬ 20 < mn := by omega
    have g3 : (mx == -1) = false := by simpa using h3
    go_enter Tryz.func28, Tryz.ntmps28
    go_wp2
    go_ret
    first | exact ⟨ret_bool (HI.out false (by simp; omega)), rfl⟩ | exact ⟨ret_bool (HI.out true (by simp; omega)), rfl⟩
abbrev boxB (x : Bd) : Obj := .cells #[.string (bs x.nm), .string (bs x.fr), .string (bs x.tt), .int .i64 x.mn, .int .i64 x.mx] 54
set_option maxHeartbeats 8000000 in
set_option maxRecDepth 100000 in
theorem checkBond_any {vk va : Value} {L : List Kd} {A : List Bd} (x : Bd) {w : World} (hK : IsK w vk L) (hL12 : L.length ≤ 12) (hA : IsB w va A) (hA12 : A.length ≤ 12) (hx : x.nm.length ≤ maxLen) :
    Calls Tryz.prog 19 #[vk, va, x.one] w fun e w' => e = .returned (errV (bErr L A x)) ∧ Below w.heap.size w w' := by
  have hB0 : Below w.heap.size w (w.alloc (boxB x)) := b_allocKC (Below.refl _ _) (Nat.le_refl _) _
  have HB0 : Hid (Below w.heap.size w (w.alloc (boxB x))) := hB0
  have nm := fun w => name_any (bs x.nm) w (by rw [bs_size]; exact hx)
  simp only [bs_data] at nm
  have HK : Hid (IsK w vk L ∧ L.length ≤ 12) := ⟨hK, hL12⟩
  have c1 := bondIndex_any (hA.on hB0) hA12 x.nm
  clear hK hL12 hA hA12 hx hB0
  by_cases h1 : nErr x.nm = 0
  · have nm' : ∀ w, Calls Tryz.prog 25 #[.string (bs x.nm)] w fun e w' => e = .returned .nilIface ∧ w' = w := fun w => by
      have := nm w; rw [h1] at this; exact this
    clear nm
    rcases idxB_spec x.nm A 0 with hx1 | ⟨j, q, hx1, _, _⟩
    · rw [hx1] at c1
      go_enter Tryz.func19, Tryz.ntmps19
      go_wp2_with (first | (go_at_call 25; refine (nm' _).mono ?_; rintro e w' ⟨rfl, rfl⟩) | (go_at_call 26; refine c1.mono ?_; rintro e W1 ⟨rfl, hB1⟩; refine Hid.out ?_))
      refine Lib.hid ?_
      have g1 := hB1.cell (p := ⟨w.heap.size, 1, none⟩) (by simp)
      have g2 := hB1.cell (p := ⟨w.heap.size, 2, none⟩) (by simp)
      have g3 := hB1.cell (p := ⟨w.heap.size, 3, none⟩) (by simp)
      have g4 := hB1.cell (p := ⟨w.heap.size, 4, none⟩) (by simp)
      simp at g1 g2 g3 g4
      have hsz1 : w.heap.size < W1.heap.size := Nat.lt_of_lt_of_le (by simp) hB1.size
      have hBw1 := on1KC HB0.out hB1 (Nat.le_refl _)
      have c2 := hasKind_any (HK.out.1.on hBw1) HK.out.2 x.fr
      clear c1 nm'
      by_cases hf : hasK L x.fr = true
      · rw [hf] at c2
        go_wp2_with (go_at_call 27; refine c2.mono ?_; rintro e W2 ⟨rfl, hB2⟩; refine Hid.out ?_)
        refine Lib.hid ?_
        have f2 := (hB2.cell (p := ⟨w.heap.size, 2, none⟩) hsz1).trans g2
        have f3 := (hB2.cell (p := ⟨w.heap.size, 3, none⟩) hsz1).trans g3
        have f4 := (hB2.cell (p := ⟨w.heap.size, 4, none⟩) hsz1).trans g4
        have hsz2 : w.heap.size < W2.heap.size := Nat.lt_of_lt_of_le hsz1 hB2.size
        have hBw2 := on1KC hBw1 hB2 (Nat.le_refl _)
        have c3 := hasKind_any (HK.out.1.on hBw2) HK.out.2 x.tt
        clear c2 g1 g2 g3 g4 hsz1
        by_cases ht : hasK L x.tt = true
        · rw [ht] at c3
          go_wp2_with (go_at_call 27; refine c3.mono ?_; rintro e W3 ⟨rfl, hB3⟩; refine Hid.out ?_)
          refine Lib.hid ?_
          have e3 := (hB3.cell (p := ⟨w.heap.size, 3, none⟩) hsz2).trans f3
          have e4 := (hB3.cell (p := ⟨w.heap.size, 4, none⟩) hsz2).trans f4
          have hBw3 := on1KC hBw2 hB3 (Nat.le_refl _)
          have c4 := inRangeB_any x.mn x.mx W3
          clear c3 f2 f3 f4 hsz2
          by_cases hr : inRB x.mn x.mx = true
          · have H : Hid (bErr L A x = 0) := by
              show _ = _
              unfold bErr; rw [if_pos h1, if_pos hx1, if_pos hf, if_pos ht, if_pos hr]
            rw [hr] at c4
            clear h1 hx1 hf ht hr
            go_wp2_with (go_at_call 28; refine c4.mono ?_; rintro e W4 ⟨rfl, rfl⟩)
            go_ret
            exact ⟨ret_v (by rw [H.out]; rfl), hBw3⟩
          · have H : Hid (bErr L A x = 1) := by
              show _ = _
              unfold bErr; rw [if_pos h1, if_pos hx1, if_pos hf, if_pos ht, if_neg hr]
            have hr' : inRB x.mn x.mx = false := by simpa using hr
            rw [hr'] at c4
            clear h1 hx1 hf ht hr hr'
            go_wp2_with (go_at_call 28; refine c4.mono ?_; rintro e W4 ⟨rfl, rfl⟩)
            go_ret
            exact ⟨ret_v (by rw [H.out]; rfl), hBw3⟩
        · have H : Hid (bErr L A x = 5) := by
            show _ = _
            unfold bErr; rw [if_pos h1, if_pos hx1, if_pos hf, if_neg ht]
          have ht' : hasK L x.tt = false := by simpa using ht
          rw [ht'] at c3
          clear h1 hx1 hf ht ht'
          go_wp2_with (go_at_call 27; refine c3.mono ?_; rintro e W3 ⟨rfl, hB3⟩)
          go_ret
          exact ⟨ret_v (by rw [H.out]; rfl), on1KC hBw2 hB3 (Nat.le_refl _)⟩
      · have H : Hid (bErr L A x = 5) := by
          show _ = _
          unfold bErr; rw [if_pos h1, if_pos hx1, if_neg hf]
        have hf' : hasK L x.fr = false := by simpa using hf
        rw [hf'] at c2
        clear h1 hx1 hf hf'
        go_wp2_with (go_at_call 27; refine c2.mono ?_; rintro e W2 ⟨rfl, hB2⟩)
        go_ret
        exact ⟨ret_v (by rw [H.out]; rfl), on1KC hBw1 hB2 (Nat.le_refl _)⟩
    · have H : Hid (bErr L A x = 7) := by
        show _ = _
        unfold bErr; rw [if_pos h1, if_neg (by omega)]
      rw [hx1, Nat.zero_add] at c1
      clear h1 hx1
      go_enter Tryz.func19, Tryz.ntmps19
      go_wp2_with (first | (go_at_call 25; refine (nm' _).mono ?_; rintro e w' ⟨rfl, rfl⟩) | (go_at_call 26; refine c1.mono ?_; rintro e W1 ⟨rfl, hB1⟩))
      go_ret
      exact ⟨ret_v (by rw [H.out]; rfl), on1KC HB0.out hB1 (Nat.le_refl _)⟩
  · have nm' : ∀ w, Calls Tryz.prog 25 #[.string (bs x.nm)] w fun e w' => e = .returned (.iface 76 (.int .i64 (nErr x.nm))) ∧ w' = w := fun w => by
      have := nm w; rw [errV_ne h1] at this; exact this
    have H : Hid (bErr L A x = nErr x.nm ∧ ¬ nErr x.nm = 0) := by
      refine ⟨?_, h1⟩
      unfold bErr; rw [if_neg h1]
    clear nm h1 c1
    go_enter Tryz.func19, Tryz.ntmps19
    go_wp2_with (go_at_call 25; refine (nm' _).mono ?_; rintro e w' ⟨rfl, rfl⟩)
    go_ret
    exact ⟨ret_v (by rw [H.out.1, errV_ne H.out.2]; rfl), HB0.out⟩
theorem isB_view {w : World} {v : Value} {l : List Bd} (h : IsB w v l) : ∃ ao c, v = .slice ao l.length c ∧ (l.length ≤ c ∨ l = []) ∧ c ≤ maxLen ∧ ∀ (j : Nat) g, l[j]? = some g → ∃ b o, ao = some ⟨b, o, none⟩ ∧ b < w.heap.size ∧ LiesB w b o l := by
  rcases h with ⟨rfl, rfl⟩ | ⟨b, off, cap, rfl, h1, h2, hb, hl⟩
  · exact ⟨none, 0, rfl, .inr rfl, by unfold maxLen; omega, fun j g hg => by simp at hg⟩
  · exact ⟨_, _, rfl, .inl h1, h2, fun j g hg => ⟨b, off, rfl, hb, hl⟩⟩
set_option maxHeartbeats 8000000 in
set_option maxRecDepth 100000 in
theorem scheck_any {vk vb : Value} {L : List Kd} {B : List Bd} {w : World} (hK : IsK w vk L) (hP : Parts w L) (hz : SzK L) (hb : IsB w vb B) (hzb : SzB B) :
    Calls Tryz.prog 12 #[.agg #[vk, vb]] w fun e w' => e = .returned (.tuple #[.string (bs (sErr L B).1), errV (sErr L B).2]) ∧ Below w.heap.size w w' := by
  obtain ⟨ak, ck, evk, hkl⟩ := hK.sln
  obtain ⟨ab, cb, evb, hbc, hbm, hvb⟩ := isB_view hb
  obtain ⟨_, _, _, hbl⟩ := hb.sln
  subst evk
  subst evb
  have hB0 : Below w.heap.size w (w.alloc (.cells #[.slice ak L.length ck, .slice ab B.length cb] 34)) := b_allocKC (Below.refl _ _) (Nat.le_refl _) _
  have ck1 := kcheck_any (hK.on hB0) (hP.on hB0) hz
  have HH : Hid (IsK w (.slice ak L.length ck) L ∧ SzB B ∧ (B.length ≤ cb ∨ B = []) ∧ (∀ (j : Nat) g, B[j]? = some g → ∃ b o, ab = some ⟨b, o, none⟩ ∧ b < w.heap.size ∧ LiesB w b o B) ∧ cb ≤ maxLen) := ⟨hK, hzb, hbc, hvb, hbm⟩
  have HB0 : Hid (Below w.heap.size w (w.alloc (.cells #[.slice ak L.length ck, .slice ab B.length cb] 34))) := hB0
  unfold maxLen at hkl hbl hbm
  clear hK hP hz hb hzb hvb hbc hB0
  by_cases h1 : (ksErr L).2 = 0
  · have HL12 : Hid (L.length ≤ 12) := (ksErr_good.1 h1).2
    have HE : Hid (sErr L B = if 12 < B.length then ([], 4) else bsGo L [] B) := by
      show _ = _
      unfold sErr; rw [if_pos h1]
    rw [h1, errV_0] at ck1
    clear h1
    go_enter Tryz.func12, Tryz.ntmps12
    go_wp2_with (go_at_call 18; refine ck1.mono ?_; rintro e W1 ⟨rfl, hB1⟩; refine Hid.out ?_)
    refine Lib.hid ?_
    have g0 := hB1.cell (p := ⟨w.heap.size, 0, none⟩) (by simp)
    have g1 := hB1.cell (p := ⟨w.heap.size, 1, none⟩) (by simp)
    simp at g0 g1
    have hsz1 : w.heap.size < W1.heap.size := Nat.lt_of_lt_of_le (by simp) hB1.size
    have HBw1 : Hid (Below w.heap.size w W1) := on1KC HB0.out hB1 (Nat.le_refl _)
    clear ck1 hB1
    by_cases h12 : 12 < B.length
    · have HE2 : Hid (sErr L B = ([], 4)) := by
        show _ = _
        rw [HE.out, if_pos h12]
      clear HE
      go_wp2
      go_ret2
      exact ⟨ret_v (by rw [HE2.out]; rfl), HBw1.out⟩
    · have HE2 : Hid (sErr L B = bsGo L [] B) := by
        show _ = _
        rw [HE.out, if_neg h12]
      clear HE
      go_wp2
      go_loopw [27] (fun i wr => ∃ k : Nat, k ≤ B.length ∧ i = .int .i64 k ∧ sErr L B = bsGo L (B.take k) (B.drop k) ∧ Below W1.heap.size W1 wr) (fun i _ => B.length - (intOf i).toNat)
      case atStart => exact ⟨0, Nat.zero_le _, rfl, by rw [HE2.out]; rfl, Below.refl _ _⟩
      case round =>
        obtain ⟨k, hk, rfl, hg, hB⟩ := hrel
        have HG : Hid (sErr L B = bsGo L (B.take k) (B.drop k)) := hg
        have hBw := on1KC HBw1.out hB (Nat.le_refl _)
        clear hg
        by_cases hlt : k < B.length
        · obtain ⟨p, hp⟩ : ∃ p, B[k]? = some p := ⟨B[k], by simp [hlt]⟩
          obtain ⟨bx, ox, rfl, hbx, hlx⟩ := HH.out.2.2.2.1 k p hp
          obtain ⟨c0, c1, c2, c3, c4⟩ := hlx k p hp
          have d0 := (hBw.cell (p := ⟨bx, ox + k * 5, none⟩) hbx).trans c0
          have d1 := (hBw.cell (p := ⟨bx, ox + k * 5 + 1, none⟩) hbx).trans c1
          have d2 := (hBw.cell (p := ⟨bx, ox + k * 5 + 2, none⟩) hbx).trans c2
          have d3 := (hBw.cell (p := ⟨bx, ox + k * 5 + 3, none⟩) hbx).trans c3
          have d4 := (hBw.cell (p := ⟨bx, ox + k * 5 + 4, none⟩) hbx).trans c4
          have r0 := (hB.cell (p := ⟨w.heap.size, 0, none⟩) hsz1).trans g0
          have r1 := (hB.cell (p := ⟨w.heap.size, 1, none⟩) hsz1).trans g1
          have hszr : w.heap.size < wr.heap.size := Nat.lt_of_lt_of_le hsz1 hB.size
          have hsn : ¬ w.heap.size = wr.heap.size := by omega
          have hbr : bx < wr.heap.size := Nat.lt_of_lt_of_le hbx hBw.size
          have hcb : B.length ≤ cb := by
            rcases HH.out.2.2.1 with h | h
            · exact h
            · rw [h] at hlt; simp at hlt
          have hkc : (k : Int) ≤ (cb : Int) := by omega
          have hlen : (B.take k).length = k := List.length_take_of_le hk
          have HBx : Hid (Below w.heap.size w (wr.alloc (boxB p))) := b_allocKC hBw (Nat.le_refl _) _
          have cc : ∀ n, Calls Tryz.prog 19 #[.slice ak L.length ck, .slice (some ⟨bx, ox, none⟩) k cb, p.one] ((wr.alloc (boxB p)).drewN n) fun e w' => e = .returned (errV (bErr L (B.take k) p)) ∧ Below (wr.alloc (boxB p)).heap.size ((wr.alloc (boxB p)).drewN n) w' := fun n => by
            have hBn : Below w.heap.size w ((wr.alloc (boxB p)).drewN n) := b_drewKC HBx.out n
            have hI : IsB ((wr.alloc (boxB p)).drewN n) (.slice (some ⟨bx, ox, none⟩) k cb) (B.take k) := .inr ⟨bx, ox, cb, by rw [hlen], by rw [hlen]; omega, HH.out.2.2.2.2, Nat.lt_of_lt_of_le hbx hBn.size, (hlx.on hbx hBn).take k⟩
            exact checkBond_any p (HH.out.1.on hBn) HL12.out hI (by omega) (HH.out.2.1 p (List.mem_of_getElem? hp))
          have HD : Hid (B.drop k = p :: B.drop (k + 1) ∧ B.take (k + 1) = B.take k ++ [p]) := ⟨dropK hp, takeK hp⟩
          clear c0 c1 c2 c3 c4 hp hlx hlen g0 g1
          by_cases he : bErr L (B.take k) p = 0
          · rw [he, errV_0] at cc
            have HS : Hid (sErr L B = bsGo L (B.take (k + 1)) (B.drop (k + 1))) := by
              show _ = _
              rw [HG.out, HD.out.1, HD.out.2]
              conv => lhs; unfold bsGo
              rw [if_pos he]
            clear HG he
            go_wp2_with fail
            go_region_with (go_at_call 19; refine (cc 1).mono ?_; rintro e W2 ⟨rfl, hB2⟩)
            all_goals
              go_wp2
              go_roundw
              case rel => exact ⟨k + 1, by omega, by go_num, HS.out, on1KC (b_drewKC (b_allocKC hB (Nat.le_refl _) (boxB p)) 1) hB2 (Nat.le_refl _)⟩
              case measure => simp [intOf]; omega
          · rw [errV_ne he] at cc
            have HS : Hid (sErr L B = (p.nm, bErr L (B.take k) p) ∧ ¬ bErr L (B.take k) p = 0) := by
              refine ⟨?_, he⟩
              rw [HG.out, HD.out.1]
              conv => lhs; unfold bsGo
              rw [if_neg he]
            clear HG he
            go_wp2_with fail
            go_region_with (go_at_call 19; refine (cc 1).mono ?_; rintro e W2 ⟨rfl, hB2⟩)
            all_goals
              have q0 := hB2.cell (p := ⟨wr.heap.size, 0, none⟩) (by simp)
              simp at q0
              go_wp2
              go_ret2
              exact ⟨ret_v (by rw [HS.out.1, errV_ne HS.out.2]; rfl), on1KC (b_drewKC HBx.out 1) hB2 (Nat.le_refl _)⟩
        · have hd : B.drop k = [] := List.drop_eq_nil_of_le (by omega)
          have H : Hid (sErr L B = ([], 0)) := by
            show _ = _
            rw [HG.out, hd]; rfl
          clear HG hd
          go_wp2
          go_ret2
          exact ⟨ret_v (by rw [H.out]; rfl), hBw⟩
  · have HE : Hid (sErr L B = ksErr L ∧ ¬ (ksErr L).2 = 0) := by
      refine ⟨?_, h1⟩
      unfold sErr; rw [if_neg h1]
    rw [errV_ne h1] at ck1
    clear h1
    go_enter Tryz.func12, Tryz.ntmps12
    go_wp2_with (go_at_call 18; refine ck1.mono ?_; rintro e W1 ⟨rfl, hB1⟩)
    go_ret2
    exact ⟨ret_v (by rw [HE.out.1, errV_ne HE.out.2]; rfl), on1KC HB0.out hB1 (Nat.le_refl _)⟩
structure Pr where
  nm : ByteArray
  t : Int
  n : Int
  s : ByteArray
def Pr.cells (p : Pr) : List Value := [.string p.nm, .int .i64 p.t, .int .i64 p.n, .string p.s]
abbrev Pr.one (p : Pr) : Value := .agg #[.string p.nm, .int .i64 p.t, .int .i64 p.n, .string p.s]
def Pr.l (p : Pr) : List UInt8 := p.nm.data.toList
def Pr.bad (p : Pr) : Int := vErr p.t p.n p.s.data.toList
def Pr.lt (p q : Pr) : Bool := Op.bytesLess p.nm.toList q.nm.toList
def Pr.low (p q : Pr) : Bool := Op.bytesLess p.nm.toList q.nm.toList || p.nm.toList == q.nm.toList
def chk : Option Pr → List Pr → Int
  | _, [] => 0
  | none, p :: r => if nErr p.l = 0 then (if p.bad = 0 then chk (some p) r else p.bad) else nErr p.l
  | some q, p :: r => if nErr p.l = 0 then (if p.bad = 0 then (if p.low q = true then 7 else chk (some p) r) else p.bad) else nErr p.l
def rErr (L : List Pr) : Int := if 8 < L.length then 4 else chk none L
def prv (L : List Pr) (k : Nat) : Option Pr := if k = 0 then none else L[k - 1]?
def Sz (L : List Pr) : Prop := ∀ p ∈ L, p.nm.size ≤ maxLen ∧ p.s.size ≤ maxLen
def Lies (w : World) (b off : Nat) (L : List Pr) : Prop :=
  ∀ k p, L[k]? = some p → w.cell? ⟨b, off + k * 4, none⟩ = some (.string p.nm) ∧ w.cell? ⟨b, off + k * 4 + 1, none⟩ = some (.int .i64 p.t) ∧ w.cell? ⟨b, off + k * 4 + 2, none⟩ = some (.int .i64 p.n) ∧ w.cell? ⟨b, off + k * 4 + 3, none⟩ = some (.string p.s)
theorem chk_end (o : Option Pr) : chk o [] = 0 := by cases o <;> rfl
theorem drop_at {L : List Pr} {k : Nat} {p : Pr} (h : L[k]? = some p) : L.drop k = p :: L.drop (k + 1) := by
  obtain ⟨hk, rfl⟩ := List.getElem?_eq_some_iff.1 h
  exact List.drop_eq_getElem_cons hk
theorem chk_name {o : Option Pr} {p : Pr} {r : List Pr} (h : ¬ nErr p.l = 0) : chk o (p :: r) = nErr p.l := by cases o <;> simp [chk, h]
theorem chk_bad {o : Option Pr} {p : Pr} {r : List Pr} (h : nErr p.l = 0) (h2 : ¬ p.bad = 0) : chk o (p :: r) = p.bad := by cases o <;> simp [chk, h, h2]
theorem chk_first {p : Pr} {r : List Pr} (h : nErr p.l = 0) (h2 : p.bad = 0) : chk none (p :: r) = chk (some p) r := by simp [chk, h, h2]
theorem chk_low {q p : Pr} {r : List Pr} (h : nErr p.l = 0) (h2 : p.bad = 0) (h3 : p.low q = true) : chk (some q) (p :: r) = 7 := by simp [chk, h, h2, h3]
theorem chk_up {q p : Pr} {r : List Pr} (h : nErr p.l = 0) (h2 : p.bad = 0) (h3 : p.low q = false) : chk (some q) (p :: r) = chk (some p) r := by simp [chk, h, h2, h3]
theorem low_parts {p q : Pr} (h : p.low q = true) : Op.bytesLess p.nm.toList q.nm.toList = true ∨ (Op.bytesLess p.nm.toList q.nm.toList = false ∧ (p.nm.toList == q.nm.toList) = true) := by
  unfold Pr.low at h
  cases h1 : Op.bytesLess p.nm.toList q.nm.toList
  · right; rw [h1, Bool.false_or] at h; exact ⟨rfl, h⟩
  · left; rfl
theorem up_parts {p q : Pr} (h : ¬ p.low q = true) : Op.bytesLess p.nm.toList q.nm.toList = false ∧ (p.nm.toList == q.nm.toList) = false := by
  unfold Pr.low at h
  cases h1 : Op.bytesLess p.nm.toList q.nm.toList
  · refine ⟨rfl, ?_⟩
    cases h2 : (p.nm.toList == q.nm.toList)
    · rfl
    · rw [h1, h2] at h; exact absurd rfl h
  · rw [h1] at h; exact absurd rfl h
end Go.Proofs.YtahamkajkkkjdaaGreatDoor
