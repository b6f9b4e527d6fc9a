/-
  The walks of change.findKind and change.findBond.
-/
import Derived.Test.YtkmkhadacppdnaaGreatDoorM11
import Derived.Test.YtkmkhadacppdnaaGreatDoorM12
namespace Go.Proofs.YtkmkhadacppdnaaGreatDoor
open Go.RowKit
set_option linter.unusedVariables false
set_option linter.unusedSimpArgs false

set_option maxHeartbeats 1000000 in
theorem fkName_any (k : Kd) (b : Nat) (s : Nm) (w : World) (hc : w.cell? ⟨b, 0, none⟩ = some (.string (bs s))) (hb : b < w.heap.size) :
    Calls Tryz.prog 88 #[k.one, .pointer (some ⟨b, 0, none⟩)] w fun e w' => e = .returned (.bool (k.nm == s)) ∧ w' = w.alloc (.cells #[.string (bs k.nm), k.vo, k.vf] 29) := by
  go_enter Tryz.func88, Tryz.ntmps88
  go_wp2
  go_ret
  exact ⟨by simp, rfl⟩
set_option maxHeartbeats 4000000 in
set_option maxRecDepth 100000 in
theorem idxG_some (b off cap : Nat) (L : List Kd) (bn : Nat) (s : Nm) (w : World) (hb : b < w.heap.size) (hL : LiesK w b off L) (hn : L.length ≤ 12) (hbn : bn < w.heap.size) (hc : w.cell? ⟨bn, 0, none⟩ = some (.string (bs s))) :
    Calls Tryz.prog 44 #[.slice (some ⟨b, off, none⟩) L.length cap, .func (.func 88) #[] #[.pointer (some ⟨bn, 0, none⟩)]] w fun e w' => e = .returned (.int .i64 (idxK s L 0)) ∧ Below w.heap.size w w' := by
  go_enter Tryz.func44, Tryz.ntmps44
  go_wp2
  go_loopw [8] (fun i wr => ∃ k : Nat, k ≤ L.length ∧ i = .int .i64 k ∧ idxK s L 0 = idxK s (L.drop k) k ∧ Below w.heap.size w wr) (fun i _ => L.length - (intOf i).toNat)
  case atStart => exact ⟨0, Nat.zero_le _, rfl, rfl, Below.refl _ _⟩
  case round =>
    obtain ⟨k, hk, rfl, hi, hB⟩ := hrel
    have HI : Hid (idxK s L 0 = idxK s (L.drop k) k) := hi
    clear hi
    by_cases hlt : k < L.length
    · obtain ⟨p, hp⟩ : ∃ p, L[k]? = some p := ⟨L[k], by simp [hlt]⟩
      obtain ⟨c0, c1, c2⟩ := hL k p hp
      have d0 := (hB.cell (p := ⟨b, off + k * 3, none⟩) hb).trans c0
      have d1 := (hB.cell (p := ⟨b, off + k * 3 + 1, none⟩) hb).trans c1
      have d2 := (hB.cell (p := ⟨b, off + k * 3 + 2, none⟩) hb).trans c2
      have HD : Hid (L.drop k = p :: L.drop (k + 1)) := dropK hp
      have cn := fkName_any p bn s wr ((hB.cell (p := ⟨bn, 0, none⟩) hbn).trans hc) (Nat.lt_of_lt_of_le hbn hB.size)
      clear c0 c1 c2 hp hL hc
      by_cases hq : (p.nm == s) = true
      · have H : Hid (idxK s L 0 = k) := by
          show _ = _
          rw [HI.out, HD.out]; unfold idxK; rw [if_pos hq]
        rw [hq] at cn
        clear HI HD hq
        go_wp2_with (go_at_call 88; refine cn.mono ?_; rintro e w' ⟨rfl, rfl⟩)
        go_ret
        exact ⟨ret_v (by rw [H.out]; rfl), b_allocK hB (Nat.le_refl _) _⟩
      · have H : Hid (idxK s L 0 = idxK s (L.drop (k + 1)) (k + 1)) := by
          show _ = _
          rw [HI.out, HD.out]; conv => lhs; unfold idxK
          rw [if_neg hq]
        have hq' : (p.nm == s) = false := by simpa using hq
        rw [hq'] at cn
        clear HI HD hq hq'
        go_wp2_with (go_at_call 88; refine cn.mono ?_; rintro e w' ⟨rfl, rfl⟩)
        go_roundw
        case rel => exact ⟨k + 1, by omega, by go_num, H.out, b_allocK hB (Nat.le_refl _) _⟩
        case measure => simp [intOf]; omega
    · have hd : L.drop k = [] := List.drop_eq_nil_of_le (by omega)
      have H : Hid (idxK s L 0 = -1) := by
        show _ = _
        rw [HI.out, hd]; rfl
      clear HI hd hL hc
      go_wp2
      go_ret
      exact ⟨ret_v (by rw [H.out]; rfl), hB⟩
theorem idxG_any {v : Value} {L : List Kd} {w : World} (h : IsK w v L) (hn : L.length ≤ 12) (bn : Nat) (s : Nm) (hbn : bn < w.heap.size) (hc : w.cell? ⟨bn, 0, none⟩ = some (.string (bs s))) :
    Calls Tryz.prog 44 #[v, .func (.func 88) #[] #[.pointer (some ⟨bn, 0, none⟩)]] w fun e w' => e = .returned (.int .i64 (idxK s L 0)) ∧ Below w.heap.size w w' := by
  rcases h with ⟨rfl, rfl⟩ | ⟨b, off, cap, rfl, hcap, hm, hb, hl⟩
  · exact idxF_nil _ w
  · exact idxG_some b off cap L bn s w hb hl hn hbn hc
set_option maxHeartbeats 1000000 in
theorem findKind_any {v : Value} {L : List Kd} {w : World} (h : IsK w v L) (hn : L.length ≤ 12) (s : Nm) :
    Calls Tryz.prog 73 #[v, .string (bs s)] w fun e w' => e = .returned (.int .i64 (idxK s L 0)) ∧ Below w.heap.size w w' := by
  have hB0 : Below w.heap.size w (w.alloc (.cells #[.string (bs s)] 9)) := b_allocK (Below.refl _ _) (Nat.le_refl _) _
  have c := idxG_any (h.on hB0) hn w.heap.size s (by simp) (by simp)
  generalize idxK s L 0 = r at c ⊢
  clear h hn
  go_enter Tryz.func73, Tryz.ntmps73
  go_wp2_with (go_at_call 44; refine c.mono ?_; rintro e w' ⟨rfl, hB1⟩)
  go_ret
  exact ⟨rfl, on1K hB0 hB1 (Nat.le_refl _)⟩


set_option maxHeartbeats 1000000 in
theorem fbName_any (k : Bd) (b : Nat) (s : Nm) (w : World) (hc : w.cell? ⟨b, 0, none⟩ = some (.string (bs s))) (hb : b < w.heap.size) :
    Calls Tryz.prog 94 #[k.one, .pointer (some ⟨b, 0, none⟩)] w fun e w' => e = .returned (.bool (k.nm == s)) ∧ w' = w.alloc (.cells #[.string (bs k.nm), .string (bs k.fr), .string (bs k.tt), .int .i64 k.mn, .int .i64 k.mx] 31) := by
  go_enter Tryz.func94, Tryz.ntmps94
  go_wp2
  go_ret
  exact ⟨by simp, rfl⟩
set_option maxHeartbeats 4000000 in
set_option maxRecDepth 100000 in
theorem idxGB_some (b off cap : Nat) (L : List Bd) (bn : Nat) (s : Nm) (w : World) (hb : b < w.heap.size) (hL : LiesB w b off L) (hn : L.length ≤ 12) (hbn : bn < w.heap.size) (hc : w.cell? ⟨bn, 0, none⟩ = some (.string (bs s))) :
    Calls Tryz.prog 69 #[.slice (some ⟨b, off, none⟩) L.length cap, .func (.func 94) #[] #[.pointer (some ⟨bn, 0, none⟩)]] w fun e w' => e = .returned (.int .i64 (idxB s L 0)) ∧ Below w.heap.size w w' := by
  go_enter Tryz.func69, Tryz.ntmps69
  go_wp2
  go_loopw [8] (fun i wr => ∃ k : Nat, k ≤ L.length ∧ i = .int .i64 k ∧ idxB s L 0 = idxB s (L.drop k) k ∧ Below w.heap.size w wr) (fun i _ => L.length - (intOf i).toNat)
  case atStart => exact ⟨0, Nat.zero_le _, rfl, rfl, Below.refl _ _⟩
  case round =>
    obtain ⟨k, hk, rfl, hi, hB⟩ := hrel
    have HI : Hid (idxB s L 0 = idxB s (L.drop k) k) := hi
    clear hi
    by_cases hlt : k < L.length
    · obtain ⟨p, hp⟩ : ∃ p, L[k]? = some p := ⟨L[k], by simp [hlt]⟩
      obtain ⟨c0, c1, c2, c3, c4⟩ := hL k p hp
      have d0 := (hB.cell (p := ⟨b, off + k * 5, none⟩) hb).trans c0
      have d1 := (hB.cell (p := ⟨b, off + k * 5 + 1, none⟩) hb).trans c1
      have d2 := (hB.cell (p := ⟨b, off + k * 5 + 2, none⟩) hb).trans c2
      have d3 := (hB.cell (p := ⟨b, off + k * 5 + 3, none⟩) hb).trans c3
      have d4 := (hB.cell (p := ⟨b, off + k * 5 + 4, none⟩) hb).trans c4
      have HD : Hid (L.drop k = p :: L.drop (k + 1)) := dropK hp
      have cn := fbName_any p bn s wr ((hB.cell (p := ⟨bn, 0, none⟩) hbn).trans hc) (Nat.lt_of_lt_of_le hbn hB.size)
      clear c0 c1 c2 c3 c4 hp hL hc
      by_cases hq : (p.nm == s) = true
      · have H : Hid (idxB s L 0 = k) := by
          show _ = _
          rw [HI.out, HD.out]; unfold idxB; rw [if_pos hq]
        rw [hq] at cn
        clear HI HD hq
        go_wp2_with (go_at_call 94; refine cn.mono ?_; rintro e w' ⟨rfl, rfl⟩)
        go_ret
        exact ⟨ret_v (by rw [H.out]; rfl), b_allocK hB (Nat.le_refl _) _⟩
      · have H : Hid (idxB s L 0 = idxB s (L.drop (k + 1)) (k + 1)) := by
          show _ = _
          rw [HI.out, HD.out]; conv => lhs; unfold idxB
          rw [if_neg hq]
        have hq' : (p.nm == s) = false := by simpa using hq
        rw [hq'] at cn
        clear HI HD hq hq'
        go_wp2_with (go_at_call 94; refine cn.mono ?_; rintro e w' ⟨rfl, rfl⟩)
        go_roundw
        case rel => exact ⟨k + 1, by omega, by go_num, H.out, b_allocK hB (Nat.le_refl _) _⟩
        case measure => simp [intOf]; omega
    · have hd : L.drop k = [] := List.drop_eq_nil_of_le (by omega)
      have H : Hid (idxB s L 0 = -1) := by
        show _ = _
        rw [HI.out, hd]; rfl
      clear HI hd hL hc
      go_wp2
      go_ret
      exact ⟨ret_v (by rw [H.out]; rfl), hB⟩
theorem idxGB_any {v : Value} {L : List Bd} {w : World} (h : IsB w v L) (hn : L.length ≤ 12) (bn : Nat) (s : Nm) (hbn : bn < w.heap.size) (hc : w.cell? ⟨bn, 0, none⟩ = some (.string (bs s))) :
    Calls Tryz.prog 69 #[v, .func (.func 94) #[] #[.pointer (some ⟨bn, 0, none⟩)]] w fun e w' => e = .returned (.int .i64 (idxB s L 0)) ∧ Below w.heap.size w w' := by
  rcases h with ⟨rfl, rfl⟩ | ⟨b, off, cap, rfl, hcap, hm, hb, hl⟩
  · exact idxFB_nil _ w
  · exact idxGB_some b off cap L bn s w hb hl hn hbn hc
set_option maxHeartbeats 1000000 in
theorem findBond_any {v : Value} {L : List Bd} {w : World} (h : IsB w v L) (hn : L.length ≤ 12) (s : Nm) :
    Calls Tryz.prog 83 #[v, .string (bs s)] w fun e w' => e = .returned (.int .i64 (idxB s L 0)) ∧ Below w.heap.size w w' := by
  have hB0 : Below w.heap.size w (w.alloc (.cells #[.string (bs s)] 9)) := b_allocK (Below.refl _ _) (Nat.le_refl _) _
  have c := idxGB_any (h.on hB0) hn w.heap.size s (by simp) (by simp)
  generalize idxB s L 0 = r at c ⊢
  clear h hn
  go_enter Tryz.func83, Tryz.ntmps83
  go_wp2_with (go_at_call 69; refine c.mono ?_; rintro e w' ⟨rfl, hB1⟩)
  go_ret
  exact ⟨rfl, on1K hB0 hB1 (Nat.le_refl _)⟩
end Go.Proofs.YtkmkhadacppdnaaGreatDoor

/-
  The walks of slices.Delete of one element: of kinds, of fields and of bonds.
-/
namespace Go.Proofs.YtkmkhadacppdnaaGreatDoor
open Go.RowKit
set_option linter.unusedVariables false
set_option linter.unusedSimpArgs false

theorem zeroB_one (n : Nat) : ∀ u ∈ (Builtin.zeroCells #[.string ⟨#[]⟩, .string ⟨#[]⟩, .string ⟨#[]⟩, .int .i64 0, .int .i64 0] n).toList, u.oneCell' = true := by
  intro u hu
  simp [Builtin.zeroCells] at hu
  obtain ⟨i, _, rfl⟩ := hu
  have h3 : i % 5 = 0 ∨ i % 5 = 1 ∨ i % 5 = 2 ∨ i % 5 = 3 ∨ i % 5 = 4 := by omega
  rcases h3 with h | h | h | h | h <;> simp [h, Value.oneCell']
set_option maxHeartbeats 2000000 in
set_option maxRecDepth 100000 in
theorem deleteB_row {w : World} {g cap i m : Nat} {cur : Array Value} {xs ys zs : List Value} (hg : w.heap[g]? = some (.cells cur 31 (0, 0))) (hs : cur.size = cap * 5) (hcm : cap ≤ maxLen) (hnc : i + 1 + m ≤ cap)
    (ht : cur.toList.take ((i + 1 + m) * 5) = xs ++ ys ++ zs) (hx : xs.length = i * 5) (hy : ys.length = 5) (hz : zs.length = m * 5) (h1 : ∀ u ∈ zs, u.oneCell' = true) (hn : i + 1 + m ≤ 1000) :
    Calls Tryz.prog 84 #[.slice (some ⟨g, 0, none⟩) (i + 1 + m) cap, .int .i64 i, .int .i64 ((i : Int) + 1)] w fun e w' => e = .returned (.slice (some ⟨g, 0, none⟩) (i + m) cap) ∧ ∃ row : List Value, w'.heap[g]? = some (.cells row.toArray 31 (0, 0)) ∧ row.length = cap * 5 ∧ row.take ((i + m) * 5) = xs ++ zs ∧ w.grownBy w' (some g) := by
  obtain ⟨i0, hi0, hz0, hz1, hz2⟩ := info_parts infoBdI
  have hcl : cur.toList.length = cap * 5 := by simpa using hs
  have hgl : g < w.heap.size := (Array.getElem?_eq_some_iff.1 hg).1
  have hcur : cur.toList = xs ++ ys ++ zs ++ cur.toList.drop ((i + 1 + m) * 5) := by rw [← ht, List.take_append_drop]
  have hxt : cur.toList.take (i * 5) = xs := by rw [hcur]; simp [List.take_append, hx]
  have hzc : ∀ j u, zs[j]? = some u → cur.toList[(i + 1) * 5 + j]? = some u := fun j u hu => by
    have hj := (List.getElem?_eq_some_iff.1 hu).1
    have : (cur.toList.take ((i + 1 + m) * 5))[(i + 1) * 5 + j]? = some u := by
      rw [ht, List.getElem?_append_right (by simp; omega)]
      simpa [hx, hy, show (i + 1) * 5 + j - (i * 5 + 5) = j by omega] using hu
    rw [List.getElem?_take] at this
    split at this
    · exact this
    · cases this
  obtain ⟨R1, hR1⟩ : ∃ R1, R1 = cur.toList.take (i * 5) ++ zs ++ cur.toList.drop (i * 5 + zs.length) := ⟨_, rfl⟩
  have hR1l : R1.length = cap * 5 := by rw [hR1]; simp [hz, hs]; omega
  have hR1t : R1.take ((i + m) * 5) = xs ++ zs := by rw [hR1, hxt, List.take_append_of_le_length (by simp [hx, hz]; omega), List.take_of_length_le (by simp [hx, hz]; omega)]
  obtain ⟨W1, hW1⟩ : ∃ W1, W1 = w.drew.setRow g R1.toArray := ⟨_, rfl⟩
  have happ : ∀ ty (A : Option Addr) c, (A = some ⟨g, (i + 1) * 5, none⟩ ∨ (m = 0 ∧ ∃ a, A = some a)) → (Builtin.append_ #[23, 23] ty #[.slice (some ⟨g, 0, none⟩) i cap, .slice A m c]).run Tryz.prog w.drew = .ok (.slice (some ⟨g, 0, none⟩) (i + m) cap) W1 := fun ty A c hA => by
    obtain ⟨a, rfl, ha⟩ : ∃ a, A = some a ∧ ∀ j u, zs[j]? = some u → w.drew.cell? (a.add j) = some u := by
      rcases hA with rfl | ⟨rfl, a, rfl⟩
      · refine ⟨_, rfl, fun j u hu => ?_⟩
        rw [Addr.add_lit, cell_of_row w.drew g _ cur 31 (0, 0) hg]
        simpa using hzc j u hu
      · refine ⟨a, rfl, fun j u hu => ?_⟩
        have : zs = [] := List.eq_nil_of_length_eq_zero (by omega)
        rw [this] at hu; simp at hu
    have := run_append_room (P := Tryz.prog) w.drew 23 ty 31 i0 Tryz.underlying23 hi0 g i cap cur hg a m c zs (by rw [hz1]; exact hz) ha h1 (by omega) (by rw [hz1, hz]; omega)
    rw [hz1] at this
    rw [hW1, hR1]
    exact this
  have hg1 : W1.heap[g]? = some (.cells R1.toArray 31 (0, 0)) := by rw [hW1]; exact setRow_heap w.drew g cur _ 31 _ hg
  obtain ⟨R2, hR2⟩ : ∃ R2, R2 = R1.take ((i + m) * 5) ++ (Builtin.zeroCells #[.string ⟨#[]⟩, .string ⟨#[]⟩, .string ⟨#[]⟩, .int .i64 0, .int .i64 0] 1).toList ++ R1.drop ((i + m) * 5 + 1 * 5) := ⟨_, rfl⟩
  have hz5 : (Builtin.zeroCells #[.string ⟨#[]⟩, .string ⟨#[]⟩, .string ⟨#[]⟩, .int .i64 0, .int .i64 0] 1).toList.length = 5 := by simp [Builtin.zeroCells]
  have hR2l : R2.length = cap * 5 := by rw [hR2]; simp [hz5, hR1l]; omega
  have hR2t : R2.take ((i + m) * 5) = xs ++ zs := by rw [hR2, List.append_assoc, List.take_append_of_le_length (by simp [hR1l]; omega), List.take_of_length_le (List.length_take_le _ _), hR1t]
  obtain ⟨W2, hW2⟩ : ∃ W2, W2 = W1.setRow g R2.toArray := ⟨_, rfl⟩
  have hclr : ∀ ty c, (Builtin.clear_ #[23] ty #[.slice (some ⟨g, (i + m) * 5, none⟩) 1 c]).run Tryz.prog W1 = .ok (.tuple #[]) W2 := fun ty c => by
    have := run_clear_row W1 23 31 ty (.agg #[.string ⟨#[]⟩, .string ⟨#[]⟩, .string ⟨#[]⟩, .int .i64 0, .int .i64 0]) Tryz.underlying23 Tryz.zeroValue31 g ((i + m) * 5) 1 c (by omega) R1.toArray hg1 (by simp [Value.cells, hR1l]; omega) (zeroB_one 1)
    rw [hW2, hR2]
    exact this
  have HE : Hid (W2.heap[g]? = some (.cells R2.toArray 31 (0, 0)) ∧ R2.length = cap * 5 ∧ R2.take ((i + m) * 5) = xs ++ zs ∧ w.grownBy W2 (some g)) := by
    refine ⟨by rw [hW2]; exact setRow_heap W1 g _ _ 31 _ hg1, hR2l, hR2t, ?_⟩
    rw [hW2, hW1]
    exact grown_trans (b := w.drew) ⟨rfl, rfl, rfl, Nat.le_refl _, fun _ _ _ => rfl⟩ (grown_trans (setRow_grown w.drew g _) (setRow_grown _ g _))
  have HA : Hid (∀ ty (A : Option Addr) c, (A = some ⟨g, (i + 1) * 5, none⟩ ∨ (m = 0 ∧ ∃ a, A = some a)) → (Builtin.append_ #[23, 23] ty #[.slice (some ⟨g, 0, none⟩) i cap, .slice A m c]).run Tryz.prog w.drew = .ok (.slice (some ⟨g, 0, none⟩) (i + m) cap) W1) := happ
  unfold maxLen at hcm
  clear hg ht hzc hcur hR1 hR1l hR1t hW1 hg1 hR2 hz5 hR2l hR2t hW2 hxt hcl hgl happ hi0 hz0 hz1 hz2 hx hy hz h1 hs
  have hii : IntKind.i64.wrap ((i : Int) + 1) = (i : Int) + 1 := by rw [IntKind.wrap_i64]; omega
  have hi1 : (i : Int) + 1 ≤ (i : Int) + 1 + (m : Int) := by omega
  have hi2 : (i : Int) + 1 + (m : Int) ≤ (cap : Int) := by omega
  have hi3 : (i : Int) ≤ (cap : Int) := by omega
  have hi4 : (i : Int) + 1 ≤ (cap : Int) := by omega
  have htn : ((i : Int) + 1).toNat = i + 1 := by omega
  have hne : ¬ (i : Int) = (i : Int) + 1 := by omega
  have hp0 : (0 : Int) ≤ (i : Int) + 1 := by omega
  have hp1 : (i : Int) ≤ (i : Int) + 1 := by omega
  have hs1 : ((i + 1 + m : Nat) : Int) - ((i + m : Nat) : Int) = 1 := by omega
  have hs2 : i + 1 + m - (i + m) = 1 := by omega
  have hs3 : i + 1 + m - (i + 1) = m := by omega
  have hc2 : ¬ cap = i + m := by omega
  by_cases hcap : cap = i + 1
  · obtain rfl : m = 0 := by omega
    subst hcap
    simp only [Nat.add_zero] at *
    go_enter Tryz.func84, Tryz.ntmps84
    go_wp2
    go_region_law (refine step_append_E rfl (.tmp 22) (.tmp 25) 23 rfl (.slice (some ⟨g, 0, none⟩) i (i + 1)) (.slice (some ⟨g, 0, none⟩) 0 (i + 1 - (i + 1))) (by simp [Act.eval, Act.put]) (by simp [Act.eval, Act.put]) (R := fun v' w' => v' = .slice (some ⟨g, 0, none⟩) i (i + 1) ∧ w' = W1) ⟨_, _, HA.out _ _ _ (.inr ⟨trivial, _, rfl⟩), rfl, rfl⟩ ?_; rintro v1 w1 ⟨rfl, rfl⟩)
    all_goals
      go_wp2
      go_ret
      exact ⟨rfl, R2, HE.out⟩
  · have hne2 : ¬ cap = i + 1 := hcap
    go_enter Tryz.func84, Tryz.ntmps84
    go_wp2
    go_region_law (refine step_append_E rfl (.tmp 22) (.tmp 25) 23 rfl (.slice (some ⟨g, 0, none⟩) i cap) (.slice (some ⟨g, (i + 1) * 5, none⟩) m (cap - (i + 1))) (by simp [Act.eval, Act.put]) (by simp [Act.eval, Act.put]) (R := fun v' w' => v' = .slice (some ⟨g, 0, none⟩) (i + m) cap ∧ w' = W1) ⟨_, _, HA.out _ _ _ (.inl rfl), rfl, rfl⟩ ?_; rintro v1 w1 ⟨rfl, rfl⟩)
    all_goals
      go_wp2
      go_ret
      exact ⟨rfl, R2, HE.out⟩
/-- A row of the call's own, without one of its elements. -/
theorem deleteB_any {w : World} {base : Nat} {v : Value} {N : List Bd} (h : w.ownsRow base 31 5 v N.length (cellsBd N)) (h1 : ∀ u ∈ cellsBd N, u.oneCell' = true) (hn : N.length ≤ 1000) (i : Nat) (hi : i < N.length) :
    Calls Tryz.prog 84 #[v, .int .i64 i, .int .i64 ((i : Int) + 1)] w fun e w' => ∃ v', e = .returned v' ∧ w'.ownsRow base 31 5 v' (N.eraseIdx i).length (cellsBd (N.eraseIdx i)) ∧ w.grownBy w' v.ownBlock ∧ v'.ownBlock = v.ownBlock := by
  rcases h.2 with ⟨rfl, h0⟩ | ⟨g, cap, cur, rfl, hb, hg, hle, hcm, hcs, ht⟩
  · omega
  · obtain ⟨m, hm⟩ : ∃ m, N.length = i + 1 + m := ⟨N.length - (i + 1), by omega⟩
    have hsp : cellsBd N = cellsBd (N.take i) ++ (N[i]).cells ++ cellsBd (N.drop (i + 1)) := by
      have e : N = N.take i ++ N[i] :: N.drop (i + 1) := by rw [← List.drop_eq_getElem_cons hi, List.take_append_drop]
      refine (congrArg cellsBd e).trans ?_
      simp only [cellsBd, List.flatMap_append, List.flatMap_cons, List.append_assoc]
    have hx : (cellsBd (N.take i)).length = i * 5 := by unfold cellsBd; rw [flatK_len bd_len, List.length_take_of_le (by omega)]
    have hz : (cellsBd (N.drop (i + 1))).length = m * 5 := by unfold cellsBd; rw [flatK_len bd_len, List.length_drop, hm]; congr 1; omega
    rw [hm] at hle ht ⊢
    rw [hsp] at ht
    refine (deleteB_row hg hcs hcm hle ht hx (bd_len _) hz (fun u hu => h1 u (by rw [hsp]; simp [hu])) (by omega)).mono ?_
    rintro e w' ⟨rfl, row, r1, r2, r3, r4⟩
    have hel : (N.eraseIdx i).length = i + m := by rw [List.length_eraseIdx_of_lt hi, hm]; omega
    have hec : cellsBd (N.eraseIdx i) = cellsBd (N.take i) ++ cellsBd (N.drop (i + 1)) := by rw [List.eraseIdx_eq_take_drop_succ]; simp [cellsBd]
    refine ⟨_, rfl, ?_, r4, rfl⟩
    rw [hel, hec]
    refine ⟨by rw [List.length_append, hx, hz]; omega, .inr ⟨g, cap, row.toArray, rfl, hb, r1, by omega, hcm, by simpa using r2, by simpa using r3⟩⟩
end Go.Proofs.YtkmkhadacppdnaaGreatDoor

/-
  The walks of change.dropBond and change.setRange.
-/
namespace Go.Proofs.YtkmkhadacppdnaaGreatDoor
open Go.RowKit
set_option linter.unusedVariables false
set_option linter.unusedSimpArgs false

theorem idxB_has {n : Nm} {B : List Bd} (h : ¬ idxB n B 0 = -1) : ∃ (j : Nat) (q : Bd), idxB n B 0 = (j : Int) ∧ bAt B n = j ∧ B[j]? = some q ∧ q.nm = n := by
  rcases idxB_spec n B 0 with h1 | ⟨j, q, h1, h2, h3⟩
  · exact absurd h1 h
  · rw [Nat.zero_add] at h1
    exact ⟨j, q, h1, by unfold bAt; rw [h1]; rfl, h2, h3⟩
set_option maxHeartbeats 2000000 in
theorem dropBond_no {w : World} {base p : Nat} {L : List Kd} {B : List Bd} (h : OSc w base p L B) (hn : B.length ≤ 12) (n : Nm) (hx : idxB n B 0 = -1) :
    Calls Tryz.prog 56 #[.pointer (some ⟨p, 0, none⟩), .string (bs n)] w fun e w' => e = .returned (errV 5) ∧ Below w.heap.size w w' := by
  obtain ⟨vk, vb, hp, hX, hK, hA, hT⟩ := h
  have hc := findBond_any hT.isB hn n
  rw [hx] at hc
  obtain ⟨a, c, rfl⟩ := own_slice hT
  have c0 : w.cell? ⟨p, 1, none⟩ = some (.slice a B.length c) := cell_at hX rfl
  clear hT hK hA hX hx
  go_enter Tryz.func56, Tryz.ntmps56
  go_wp2_with (go_at_call 83; refine hc.mono ?_; rintro e w' ⟨rfl, hB⟩)
  go_ret
  exact ⟨rfl, hB⟩
set_option maxHeartbeats 4000000 in
set_option maxRecDepth 100000 in
theorem dropBond_yes {w : World} {base p : Nat} {L : List Kd} {B : List Bd} (h : OSc w base p L B) (hbase : base ≤ w.heap.size) (hn : B.length ≤ 12) (n : Nm) (hx : ¬ idxB n B 0 = -1) :
    Calls Tryz.prog 56 #[.pointer (some ⟨p, 0, none⟩), .string (bs n)] w fun e w' => e = .returned (errV 0) ∧ OSc w' base p L (B.eraseIdx (bAt B n)) ∧ Below base w w' := by
  obtain ⟨vk, vb, hp, hX, hK, hA, hT⟩ := h
  obtain ⟨j, q, hj, hat, hq, _⟩ := idxB_has hx
  have hc := findBond_any hT.isB hn n
  rw [hj] at hc
  rw [hat]
  have hjl := (List.getElem?_eq_some_iff.1 hq).1
  obtain ⟨a, c, rfl⟩ := own_slice hT
  have c0 : w.cell? ⟨p, 1, none⟩ = some (.slice a B.length c) := cell_at hX rfl
  have HH : Hid (base ≤ p ∧ w.heap[p]? = some (.cells #[vk, .slice a B.length c] 25 (0, 0)) ∧ OwnKs w base vk L ∧ Apt L ∧ OwnBs w base (.slice a B.length c) B) := ⟨hp, hX, hK, hA, hT⟩
  have hj12 : j < 12 := by omega
  have hjn : ¬ (j : Int) < 0 := by omega
  clear hT hK hA hX hx hj hat hq hp
  go_enter Tryz.func56, Tryz.ntmps56
  go_wp2_with (go_at_call 83; refine hc.mono ?_; rintro e w1 ⟨rfl, hB1⟩; refine Hid.out ?_)
  refine Lib.hid ?_
  obtain ⟨hp, hX, hK, hA, hT⟩ := HH.out
  have hX1 := (hB1.block p (Array.getElem?_eq_some_iff.1 hX).1).trans hX
  have hT1 : OwnBs w1 base (.slice a B.length c) B := own_kt hT (.of_below hB1)
  have hK1 := hK.kt (.of_below hB1) (.of_below hB1) (.of_below hB1)
  have d0 : w1.cell? ⟨p, 1, none⟩ = some (.slice a B.length c) := cell_at hX1 rfl
  have cd := deleteB_any hT1 (bd_oneI B) (by omega) j hjl
  have HS : Hid (∀ w2 v2, w1.grownBy w2 (Value.slice a B.length c).ownBlock → w2.ownsRow base 31 5 v2 (B.eraseIdx j).length (cellsBd (B.eraseIdx j)) → (w2.cell? ⟨p, 1, none⟩ = some (.slice a B.length c) ∧ w2.frozen? ⟨p, 1, none⟩ = false) ∧ OSc (w2.setCell ⟨p, 1, none⟩ v2) base p L (B.eraseIdx j) ∧ Below base w (w2.setCell ⟨p, 1, none⟩ v2)) := fun w2 v2 g1 g2 => by
    obtain ⟨r1, r2, r3⟩ := osc_setB hp hX1 hK1 hA hT1 (Nat.le_trans hbase hB1.size) g1 g2
    exact ⟨r1, r2, (hB1.mono hbase).trans r3⟩
  clear hX hK hA hT hX1 hT1 hK1 c0 HH hc
  go_wp2_with (go_at_call 84; refine cd.mono ?_; rintro e w2 ⟨v2, rfl, ho2, hg2, _⟩; obtain ⟨⟨z0, z1⟩, z2⟩ := HS.out w2 v2 hg2 ho2; obtain ⟨a2, c2, rfl⟩ := own_slice ho2; have HZ := Lib.hid z2; clear z2 ho2 hg2)
  go_ret
  exact ⟨rfl, HZ.out⟩

/-- A bond's range in a row of the call's own. -/
theorem cells_setR (B : List Bd) (j : Nat) (x : Bd) (hx : B[j]? = some x) (mn mx : Int) : cellsBd (B.set j { x with mn := mn, mx := mx }) = ((cellsBd B).set (j * 5 + 3) (.int .i64 mn)).set (j * 5 + 4) (.int .i64 mx) := by
  apply List.ext_getElem?
  intro i
  unfold cellsBd
  have hjl := (List.getElem?_eq_some_iff.1 hx).1
  have hl : (List.flatMap Bd.cells B).length = B.length * 5 := flatK_len bd_len B
  by_cases hi : i < B.length * 5
  · have hq : i / 5 < B.length := by omega
    have hr : i % 5 < 5 := Nat.mod_lt _ (by omega)
    have ei : i = i / 5 * 5 + i % 5 := by omega
    obtain ⟨y, hy⟩ : ∃ y, B[i / 5]? = some y := ⟨B[i / 5], by simp [hq]⟩
    by_cases e : i / 5 = j
    · rw [e] at hy ei
      obtain rfl : x = y := Option.some.inj (hx.symm.trans hy)
      have h2 : (B.set j ({ x with mn := mn, mx := mx } : Bd))[j]? = some { x with mn := mn, mx := mx } := by simp [hjl]
      rw [ei, flatK bd_len _ j _ (i % 5) h2 hr, List.getElem?_set, List.getElem?_set]
      have h3 := flatK bd_len B j x (i % 5) hy hr
      have hc : i % 5 = 0 ∨ i % 5 = 1 ∨ i % 5 = 2 ∨ i % 5 = 3 ∨ i % 5 = 4 := by omega
      rcases hc with c | c | c | c | c
      · rw [if_neg (by omega), if_neg (by omega), h3, c]; rfl
      · rw [if_neg (by omega), if_neg (by omega), h3, c]; rfl
      · rw [if_neg (by omega), if_neg (by omega), h3, c]; rfl
      · rw [if_neg (by omega), if_pos (by omega), if_pos (by rw [hl]; omega), c]; rfl
      · rw [if_pos (by omega), if_pos (by rw [List.length_set, hl]; omega), c]; rfl
    · have h2 : (B.set j ({ x with mn := mn, mx := mx } : Bd))[i / 5]? = some y := by rw [List.getElem?_set, if_neg (Ne.symm e)]; exact hy
      rw [List.getElem?_set, if_neg (by omega), List.getElem?_set, if_neg (by omega), ei, flatK bd_len _ (i / 5) y (i % 5) h2 hr, flatK bd_len B (i / 5) y (i % 5) hy hr]
  · rw [List.getElem?_eq_none (by rw [flatK_len bd_len, List.length_set]; omega), List.getElem?_eq_none (by rw [List.length_set, List.length_set, flatK_len bd_len]; omega)]
end Go.Proofs.YtkmkhadacppdnaaGreatDoor
