/-
  The walks of slices.Delete of one element: of kinds, of fields and of bonds.
-/
import Derived.Test.YtpmblbhemcippaaGreatDoorM14
import Derived.Test.YtpmblbhemcippaaGreatDoorM21
import Derived.Test.YtpmblbhemcippaaGreatDoorM17
import Derived.BigRegion
namespace Go.Proofs.YtpmblbhemcippaaGreatDoor
open Go.RowKit
set_option linter.unusedVariables false
set_option linter.unusedSimpArgs false

theorem zeroB_one (n : Nat) : ∀ u ∈ (Builtin.zeroCells #[.string ⟨#[]⟩, .string ⟨#[]⟩, .string ⟨#[]⟩, .int .i64 0, .int .i64 0] n).toList, u.oneCell' = true := by
  intro u hu
  simp [Builtin.zeroCells] at hu
  obtain ⟨i, _, rfl⟩ := hu
  have h3 : i % 5 = 0 ∨ i % 5 = 1 ∨ i % 5 = 2 ∨ i % 5 = 3 ∨ i % 5 = 4 := by omega
  rcases h3 with h | h | h | h | h <;> simp [h, Value.oneCell']
set_option maxHeartbeats 2000000 in
set_option maxRecDepth 100000 in
theorem deleteB_row {w : World} {g cap i m : Nat} {cur : Array Value} {xs ys zs : List Value} (hg : w.heap[g]? = some (.cells cur 34 (0, 0))) (hs : cur.size = cap * 5) (hcm : cap ≤ maxLen) (hnc : i + 1 + m ≤ cap)
    (ht : cur.toList.take ((i + 1 + m) * 5) = xs ++ ys ++ zs) (hx : xs.length = i * 5) (hy : ys.length = 5) (hz : zs.length = m * 5) (h1 : ∀ u ∈ zs, u.oneCell' = true) (hn : i + 1 + m ≤ 1000) :
    Calls Tryz.prog 116 #[.slice (some ⟨g, 0, none⟩) (i + 1 + m) cap, .int .i64 i, .int .i64 ((i : Int) + 1)] w fun e w' => e = .returned (.slice (some ⟨g, 0, none⟩) (i + m) cap) ∧ ∃ row : List Value, w'.heap[g]? = some (.cells row.toArray 34 (0, 0)) ∧ row.length = cap * 5 ∧ row.take ((i + m) * 5) = xs ++ zs ∧ w.grownBy w' (some g) := by
  obtain ⟨i0, hi0, hz0, hz1, hz2⟩ := info_parts infoBdI
  have hcl : cur.toList.length = cap * 5 := by simpa using hs
  have hgl : g < w.heap.size := (Array.getElem?_eq_some_iff.1 hg).1
  have hcur : cur.toList = xs ++ ys ++ zs ++ cur.toList.drop ((i + 1 + m) * 5) := by rw [← ht, List.take_append_drop]
  have hxt : cur.toList.take (i * 5) = xs := by rw [hcur]; simp [List.take_append, hx]
  have hzc : ∀ j u, zs[j]? = some u → cur.toList[(i + 1) * 5 + j]? = some u := fun j u hu => by
    have hj := (List.getElem?_eq_some_iff.1 hu).1
    have : (cur.toList.take ((i + 1 + m) * 5))[(i + 1) * 5 + j]? = some u := by
      rw [ht, List.getElem?_append_right (by simp; omega)]
      simpa [hx, hy, show (i + 1) * 5 + j - (i * 5 + 5) = j by omega] using hu
    rw [List.getElem?_take] at this
    split at this
    · exact this
    · cases this
  obtain ⟨R1, hR1⟩ : ∃ R1, R1 = cur.toList.take (i * 5) ++ zs ++ cur.toList.drop (i * 5 + zs.length) := ⟨_, rfl⟩
  have hR1l : R1.length = cap * 5 := by rw [hR1]; simp [hz, hs]; omega
  have hR1t : R1.take ((i + m) * 5) = xs ++ zs := by rw [hR1, hxt, List.take_append_of_le_length (by simp [hx, hz]; omega), List.take_of_length_le (by simp [hx, hz]; omega)]
  obtain ⟨W1, hW1⟩ : ∃ W1, W1 = w.drew.setRow g R1.toArray := ⟨_, rfl⟩
  have happ : ∀ ty (A : Option Addr) c, (A = some ⟨g, (i + 1) * 5, none⟩ ∨ (m = 0 ∧ ∃ a, A = some a)) → (Builtin.append_ #[44, 44] ty #[.slice (some ⟨g, 0, none⟩) i cap, .slice A m c]).run Tryz.prog w.drew = .ok (.slice (some ⟨g, 0, none⟩) (i + m) cap) W1 := fun ty A c hA => by
    obtain ⟨a, rfl, ha⟩ : ∃ a, A = some a ∧ ∀ j u, zs[j]? = some u → w.drew.cell? (a.add j) = some u := by
      rcases hA with rfl | ⟨rfl, a, rfl⟩
      · refine ⟨_, rfl, fun j u hu => ?_⟩
        rw [Addr.add_lit, cell_of_row w.drew g _ cur 34 (0, 0) hg]
        simpa using hzc j u hu
      · refine ⟨a, rfl, fun j u hu => ?_⟩
        have : zs = [] := List.eq_nil_of_length_eq_zero (by omega)
        rw [this] at hu; simp at hu
    have := run_append_room (P := Tryz.prog) w.drew 44 ty 34 i0 Tryz.underlying44 hi0 g i cap cur hg a m c zs (by rw [hz1]; exact hz) ha h1 (by omega) (by rw [hz1, hz]; omega)
    rw [hz1] at this
    rw [hW1, hR1]
    exact this
  have hg1 : W1.heap[g]? = some (.cells R1.toArray 34 (0, 0)) := by rw [hW1]; exact setRow_heap w.drew g cur _ 34 _ hg
  obtain ⟨R2, hR2⟩ : ∃ R2, R2 = R1.take ((i + m) * 5) ++ (Builtin.zeroCells #[.string ⟨#[]⟩, .string ⟨#[]⟩, .string ⟨#[]⟩, .int .i64 0, .int .i64 0] 1).toList ++ R1.drop ((i + m) * 5 + 1 * 5) := ⟨_, rfl⟩
  have hz5 : (Builtin.zeroCells #[.string ⟨#[]⟩, .string ⟨#[]⟩, .string ⟨#[]⟩, .int .i64 0, .int .i64 0] 1).toList.length = 5 := by simp [Builtin.zeroCells]
  have hR2l : R2.length = cap * 5 := by rw [hR2]; simp [hz5, hR1l]; omega
  have hR2t : R2.take ((i + m) * 5) = xs ++ zs := by rw [hR2, List.append_assoc, List.take_append_of_le_length (by simp [hR1l]; omega), List.take_of_length_le (List.length_take_le _ _), hR1t]
  obtain ⟨W2, hW2⟩ : ∃ W2, W2 = W1.setRow g R2.toArray := ⟨_, rfl⟩
  have hclr : ∀ ty c, (Builtin.clear_ #[44] ty #[.slice (some ⟨g, (i + m) * 5, none⟩) 1 c]).run Tryz.prog W1 = .ok (.tuple #[]) W2 := fun ty c => by
    have := run_clear_row W1 44 34 ty (.agg #[.string ⟨#[]⟩, .string ⟨#[]⟩, .string ⟨#[]⟩, .int .i64 0, .int .i64 0]) Tryz.underlying44 Tryz.zeroValue34 g ((i + m) * 5) 1 c (by omega) R1.toArray hg1 (by simp [Value.cells, hR1l]; omega) (zeroB_one 1)
    rw [hW2, hR2]
    exact this
  have HE : Hid (W2.heap[g]? = some (.cells R2.toArray 34 (0, 0)) ∧ R2.length = cap * 5 ∧ R2.take ((i + m) * 5) = xs ++ zs ∧ w.grownBy W2 (some g)) := by
    refine ⟨by rw [hW2]; exact setRow_heap W1 g _ _ 34 _ hg1, hR2l, hR2t, ?_⟩
    rw [hW2, hW1]
    exact grown_trans (b := w.drew) ⟨rfl, rfl, rfl, Nat.le_refl _, fun _ _ _ => rfl⟩ (grown_trans (setRow_grown w.drew g _) (setRow_grown _ g _))
  have HA : Hid (∀ ty (A : Option Addr) c, (A = some ⟨g, (i + 1) * 5, none⟩ ∨ (m = 0 ∧ ∃ a, A = some a)) → (Builtin.append_ #[44, 44] ty #[.slice (some ⟨g, 0, none⟩) i cap, .slice A m c]).run Tryz.prog w.drew = .ok (.slice (some ⟨g, 0, none⟩) (i + m) cap) W1) := happ
  unfold maxLen at hcm
  clear hg ht hzc hcur hR1 hR1l hR1t hW1 hg1 hR2 hz5 hR2l hR2t hW2 hxt hcl hgl happ hi0 hz0 hz1 hz2 hx hy hz h1 hs
  have hii : IntKind.i64.wrap ((i : Int) + 1) = (i : Int) + 1 := by rw [IntKind.wrap_i64]; omega
  have hi1 : (i : Int) + 1 ≤ (i : Int) + 1 + (m : Int) := by omega
  have hi2 : (i : Int) + 1 + (m : Int) ≤ (cap : Int) := by omega
  have hi3 : (i : Int) ≤ (cap : Int) := by omega
  have hi4 : (i : Int) + 1 ≤ (cap : Int) := by omega
  have htn : ((i : Int) + 1).toNat = i + 1 := by omega
  have hne : ¬ (i : Int) = (i : Int) + 1 := by omega
  have hp0 : (0 : Int) ≤ (i : Int) + 1 := by omega
  have hp1 : (i : Int) ≤ (i : Int) + 1 := by omega
  have hs1 : ((i + 1 + m : Nat) : Int) - ((i + m : Nat) : Int) = 1 := by omega
  have hs2 : i + 1 + m - (i + m) = 1 := by omega
  have hs3 : i + 1 + m - (i + 1) = m := by omega
  have hc2 : ¬ cap = i + m := by omega
  by_cases hcap : cap = i + 1
  · obtain rfl : m = 0 := by omega
    subst hcap
    simp only [Nat.add_zero] at *
    go_enter Tryz.func116, Tryz.ntmps116
    go_wp2
    go_region_law (refine step_append_E rfl (.tmp 22) (.tmp 25) 44 rfl (.slice (some ⟨g, 0, none⟩) i (i + 1)) (.slice (some ⟨g, 0, none⟩) 0 (i + 1 - (i + 1))) (by simp [Act.eval, Act.put]) (by simp [Act.eval, Act.put]) (R := fun v' w' => v' = .slice (some ⟨g, 0, none⟩) i (i + 1) ∧ w' = W1) ⟨_, _, HA.out _ _ _ (.inr ⟨trivial, _, rfl⟩), rfl, rfl⟩ ?_; rintro v1 w1 ⟨rfl, rfl⟩)
    all_goals
      go_wp2
      go_ret
      exact ⟨rfl, R2, HE.out⟩
  · have hne2 : ¬ cap = i + 1 := hcap
    go_enter Tryz.func116, Tryz.ntmps116
    go_wp2
    go_region_law (refine step_append_E rfl (.tmp 22) (.tmp 25) 44 rfl (.slice (some ⟨g, 0, none⟩) i cap) (.slice (some ⟨g, (i + 1) * 5, none⟩) m (cap - (i + 1))) (by simp [Act.eval, Act.put]) (by simp [Act.eval, Act.put]) (R := fun v' w' => v' = .slice (some ⟨g, 0, none⟩) (i + m) cap ∧ w' = W1) ⟨_, _, HA.out _ _ _ (.inl rfl), rfl, rfl⟩ ?_; rintro v1 w1 ⟨rfl, rfl⟩)
    all_goals
      go_wp2
      go_ret
      exact ⟨rfl, R2, HE.out⟩
theorem deleteB_any {w : World} {base : Nat} {v : Value} {N : List Bd} (h : w.ownsRow base 34 5 v N.length (cellsBd N)) (h1 : ∀ u ∈ cellsBd N, u.oneCell' = true) (hn : N.length ≤ 1000) (i : Nat) (hi : i < N.length) :
    Calls Tryz.prog 116 #[v, .int .i64 i, .int .i64 ((i : Int) + 1)] w fun e w' => ∃ v', e = .returned v' ∧ w'.ownsRow base 34 5 v' (N.eraseIdx i).length (cellsBd (N.eraseIdx i)) ∧ w.grownBy w' v.ownBlock ∧ v'.ownBlock = v.ownBlock := by
  rcases h.2 with ⟨rfl, h0⟩ | ⟨g, cap, cur, rfl, hb, hg, hle, hcm, hcs, ht⟩
  · omega
  · obtain ⟨m, hm⟩ : ∃ m, N.length = i + 1 + m := ⟨N.length - (i + 1), by omega⟩
    have hsp : cellsBd N = cellsBd (N.take i) ++ (N[i]).cells ++ cellsBd (N.drop (i + 1)) := by
      have e : N = N.take i ++ N[i] :: N.drop (i + 1) := by rw [← List.drop_eq_getElem_cons hi, List.take_append_drop]
      refine (congrArg cellsBd e).trans ?_
      simp only [cellsBd, List.flatMap_append, List.flatMap_cons, List.append_assoc]
    have hx : (cellsBd (N.take i)).length = i * 5 := by unfold cellsBd; rw [flatK_len bd_len, List.length_take_of_le (by omega)]
    have hz : (cellsBd (N.drop (i + 1))).length = m * 5 := by unfold cellsBd; rw [flatK_len bd_len, List.length_drop, hm]; congr 1; omega
    rw [hm] at hle ht ⊢
    rw [hsp] at ht
    refine (deleteB_row hg hcs hcm hle ht hx (bd_len _) hz (fun u hu => h1 u (by rw [hsp]; simp [hu])) (by omega)).mono ?_
    rintro e w' ⟨rfl, row, r1, r2, r3, r4⟩
    have hel : (N.eraseIdx i).length = i + m := by rw [List.length_eraseIdx_of_lt hi, hm]; omega
    have hec : cellsBd (N.eraseIdx i) = cellsBd (N.take i) ++ cellsBd (N.drop (i + 1)) := by rw [List.eraseIdx_eq_take_drop_succ]; simp [cellsBd]
    refine ⟨_, rfl, ?_, r4, rfl⟩
    rw [hel, hec]
    refine ⟨by rw [List.length_append, hx, hz]; omega, .inr ⟨g, cap, row.toArray, rfl, hb, r1, by omega, hcm, by simpa using r2, by simpa using r3⟩⟩
end Go.Proofs.YtpmblbhemcippaaGreatDoor

/-
  The walks of change.dropBond and change.setRange.
-/
namespace Go.Proofs.YtpmblbhemcippaaGreatDoor
open Go.RowKit
set_option linter.unusedVariables false
set_option linter.unusedSimpArgs false

theorem idxB_has {n : Nm} {B : List Bd} (h : ¬ idxB n B 0 = -1) : ∃ (j : Nat) (q : Bd), idxB n B 0 = (j : Int) ∧ bAt B n = j ∧ B[j]? = some q ∧ q.nm = n := by
  rcases idxB_spec n B 0 with h1 | ⟨j, q, h1, h2, h3⟩
  · exact absurd h1 h
  · rw [Nat.zero_add] at h1
    exact ⟨j, q, h1, by unfold bAt; rw [h1]; rfl, h2, h3⟩
set_option maxHeartbeats 2000000 in
theorem dropBond_no {w : World} {base p : Nat} {L : List Kd} {B : List Bd} (h : OSc w base p L B) (hn : B.length ≤ 12) (n : Nm) (hx : idxB n B 0 = -1) :
    Calls Tryz.prog 75 #[.pointer (some ⟨p, 0, none⟩), .string (bs n)] w fun e w' => e = .returned (errV 5) ∧ Below w.heap.size w w' := by
  obtain ⟨vk, vb, hp, hX, hK, hA, hT⟩ := h
  have hc := findBond_any hT.isB hn n
  rw [hx] at hc
  obtain ⟨a, c, rfl⟩ := own_slice hT
  have c0 : w.cell? ⟨p, 1, none⟩ = some (.slice a B.length c) := cell_at hX rfl
  clear hT hK hA hX hx
  go_enter Tryz.func75, Tryz.ntmps75
  go_wp2_with (go_at_call 115; refine hc.mono ?_; rintro e w' ⟨rfl, hB⟩)
  go_ret
  exact ⟨rfl, hB⟩
set_option maxHeartbeats 4000000 in
set_option maxRecDepth 100000 in
theorem dropBond_yes {w : World} {base p : Nat} {L : List Kd} {B : List Bd} (h : OSc w base p L B) (hbase : base ≤ w.heap.size) (hn : B.length ≤ 12) (n : Nm) (hx : ¬ idxB n B 0 = -1) :
    Calls Tryz.prog 75 #[.pointer (some ⟨p, 0, none⟩), .string (bs n)] w fun e w' => e = .returned (errV 0) ∧ OSc w' base p L (B.eraseIdx (bAt B n)) ∧ Below base w w' := by
  obtain ⟨vk, vb, hp, hX, hK, hA, hT⟩ := h
  obtain ⟨j, q, hj, hat, hq, _⟩ := idxB_has hx
  have hc := findBond_any hT.isB hn n
  rw [hj] at hc
  rw [hat]
  have hjl := (List.getElem?_eq_some_iff.1 hq).1
  obtain ⟨a, c, rfl⟩ := own_slice hT
  have c0 : w.cell? ⟨p, 1, none⟩ = some (.slice a B.length c) := cell_at hX rfl
  have HH : Hid (base ≤ p ∧ w.heap[p]? = some (.cells #[vk, .slice a B.length c] 46 (0, 0)) ∧ OwnKs w base vk L ∧ Apt L ∧ OwnBs w base (.slice a B.length c) B) := ⟨hp, hX, hK, hA, hT⟩
  have hj12 : j < 12 := by omega
  have hjn : ¬ (j : Int) < 0 := by omega
  clear hT hK hA hX hx hj hat hq hp
  go_enter Tryz.func75, Tryz.ntmps75
  go_wp2_with (go_at_call 115; refine hc.mono ?_; rintro e w1 ⟨rfl, hB1⟩; refine Hid.out ?_)
  refine Lib.hid ?_
  obtain ⟨hp, hX, hK, hA, hT⟩ := HH.out
  have hX1 := (hB1.block p (Array.getElem?_eq_some_iff.1 hX).1).trans hX
  have hT1 : OwnBs w1 base (.slice a B.length c) B := own_kt hT (.of_below hB1)
  have hK1 := hK.kt (.of_below hB1) (.of_below hB1) (.of_below hB1)
  have d0 : w1.cell? ⟨p, 1, none⟩ = some (.slice a B.length c) := cell_at hX1 rfl
  have cd := deleteB_any hT1 (bd_oneI B) (by omega) j hjl
  have HS : Hid (∀ w2 v2, w1.grownBy w2 (Value.slice a B.length c).ownBlock → w2.ownsRow base 34 5 v2 (B.eraseIdx j).length (cellsBd (B.eraseIdx j)) → (w2.cell? ⟨p, 1, none⟩ = some (.slice a B.length c) ∧ w2.frozen? ⟨p, 1, none⟩ = false) ∧ OSc (w2.setCell ⟨p, 1, none⟩ v2) base p L (B.eraseIdx j) ∧ Below base w (w2.setCell ⟨p, 1, none⟩ v2)) := fun w2 v2 g1 g2 => by
    obtain ⟨r1, r2, r3⟩ := osc_setB hp hX1 hK1 hA hT1 (Nat.le_trans hbase hB1.size) g1 g2
    exact ⟨r1, r2, (hB1.mono hbase).trans r3⟩
  clear hX hK hA hT hX1 hT1 hK1 c0 HH hc
  go_wp2_with (go_at_call 116; refine cd.mono ?_; rintro e w2 ⟨v2, rfl, ho2, hg2, _⟩; obtain ⟨⟨z0, z1⟩, z2⟩ := HS.out w2 v2 hg2 ho2; obtain ⟨a2, c2, rfl⟩ := own_slice ho2; have HZ := Lib.hid z2; clear z2 ho2 hg2)
  go_ret
  exact ⟨rfl, HZ.out⟩

theorem cells_setR (B : List Bd) (j : Nat) (x : Bd) (hx : B[j]? = some x) (mn mx : Int) : cellsBd (B.set j { x with mn := mn, mx := mx }) = ((cellsBd B).set (j * 5 + 3) (.int .i64 mn)).set (j * 5 + 4) (.int .i64 mx) := by
  apply List.ext_getElem?
  intro i
  unfold cellsBd
  have hjl := (List.getElem?_eq_some_iff.1 hx).1
  have hl : (List.flatMap Bd.cells B).length = B.length * 5 := flatK_len bd_len B
  by_cases hi : i < B.length * 5
  · have hq : i / 5 < B.length := by omega
    have hr : i % 5 < 5 := Nat.mod_lt _ (by omega)
    have ei : i = i / 5 * 5 + i % 5 := by omega
    obtain ⟨y, hy⟩ : ∃ y, B[i / 5]? = some y := ⟨B[i / 5], by simp [hq]⟩
    by_cases e : i / 5 = j
    · rw [e] at hy ei
      obtain rfl : x = y := Option.some.inj (hx.symm.trans hy)
      have h2 : (B.set j ({ x with mn := mn, mx := mx } : Bd))[j]? = some { x with mn := mn, mx := mx } := by simp [hjl]
      rw [ei, flatK bd_len _ j _ (i % 5) h2 hr, List.getElem?_set, List.getElem?_set]
      have h3 := flatK bd_len B j x (i % 5) hy hr
      have hc : i % 5 = 0 ∨ i % 5 = 1 ∨ i % 5 = 2 ∨ i % 5 = 3 ∨ i % 5 = 4 := by omega
      rcases hc with c | c | c | c | c
      · rw [if_neg (by omega), if_neg (by omega), h3, c]; rfl
      · rw [if_neg (by omega), if_neg (by omega), h3, c]; rfl
      · rw [if_neg (by omega), if_neg (by omega), h3, c]; rfl
      · rw [if_neg (by omega), if_pos (by omega), if_pos (by rw [hl]; omega), c]; rfl
      · rw [if_pos (by omega), if_pos (by rw [List.length_set, hl]; omega), c]; rfl
    · have h2 : (B.set j ({ x with mn := mn, mx := mx } : Bd))[i / 5]? = some y := by rw [List.getElem?_set, if_neg (Ne.symm e)]; exact hy
      rw [List.getElem?_set, if_neg (by omega), List.getElem?_set, if_neg (by omega), ei, flatK bd_len _ (i / 5) y (i % 5) h2 hr, flatK bd_len B (i / 5) y (i % 5) hy hr]
  · rw [List.getElem?_eq_none (by rw [flatK_len bd_len, List.length_set]; omega), List.getElem?_eq_none (by rw [List.length_set, List.length_set, flatK_len bd_len]; omega)]
end Go.Proofs.YtpmblbhemcippaaGreatDoor

/-
  The walk of change.setRange.
-/
namespace Go.Proofs.YtpmblbhemcippaaGreatDoor
open Go.RowKit
set_option linter.unusedVariables false
set_option linter.unusedSimpArgs false

set_option maxHeartbeats 4000000 in
set_option maxRecDepth 100000 in
theorem setRange_no {w : World} {base p : Nat} {L : List Kd} {B : List Bd} (h : OSc w base p L B) (hn : B.length ≤ 12) (c : Ch) (hc : ChIs w c) (hx : idxB c.nm B 0 = -1) :
    Calls Tryz.prog 77 #[.pointer (some ⟨p, 0, none⟩), c.one] w fun e w' => e = .returned (errV 5) ∧ Below w.heap.size w w' := by
  obtain ⟨vk, vb, hp, hX, hK, hA, hT⟩ := h
  obtain ⟨a, cp, rfl⟩ := own_slice hT
  obtain ⟨wh, nm, ⟨kn, ko, kf, vo, vf⟩, ⟨bn, bf, bt, mn, mx⟩, ⟨fn, ft, fm, fk⟩, vt, vn, vs, tn⟩ := c
  obtain ⟨ao, lo1, co, q1⟩ := hc.1.sl
  obtain ⟨af, lf1, cf, q2⟩ := hc.2.sl
  simp only at q1 q2 hx ⊢
  subst q1 q2
  obtain ⟨W0, hW0⟩ : ∃ W0, W0 = w.alloc (.cells #[.int .i64 wh, .string (bs nm), .string (bs kn), .slice ao lo1 co, .slice af lf1 cf, .string (bs bn), .string (bs bf), .string (bs bt), .int .i64 mn, .int .i64 mx, .string (bs fn), .int .i64 ft, .bool fm, .bool fk, .int .i64 vt, .int .i64 vn, .string (bs vs), .string (bs tn)] 38) := ⟨_, rfl⟩
  have hB0 : Below w.heap.size w W0 := by rw [hW0]; exact b_alloc (Below.refl _ _) _
  have n0 := heap_alloc_new w (.cells #[.int .i64 wh, .string (bs nm), .string (bs kn), .slice ao lo1 co, .slice af lf1 cf, .string (bs bn), .string (bs bf), .string (bs bt), .int .i64 mn, .int .i64 mx, .string (bs fn), .int .i64 ft, .bool fm, .bool fk, .int .i64 vt, .int .i64 vn, .string (bs vs), .string (bs tn)] 38)
  rw [← hW0] at n0
  have hX0 := (hB0.block p (Array.getElem?_eq_some_iff.1 hX).1).trans hX
  have c0 : W0.cell? ⟨p, 1, none⟩ = some (.slice a B.length cp) := cell_at hX0 rfl
  have c1 : W0.cell? ⟨w.heap.size, 1, none⟩ = some (.string (bs nm)) := cell_at n0 rfl
  have cc : ∀ W, Below W0.heap.size W0 W → Calls Tryz.prog 115 #[.slice a B.length cp, .string (bs nm)] W fun e w' => e = .returned (.int .i64 (-1)) ∧ Below W.heap.size W w' := fun W hb => by
    have := findBond_any (OwnBs.isB (base := base) (own_kt (own_kt hT (.of_below hB0)) (.of_below hb))) hn nm
    rw [hx] at this
    exact this
  have HC := Lib.hid cc
  have HB0 := Lib.hid hB0
  clear hT hK hA hX hx hX0 cc n0 hB0
  go_enter Tryz.func77, Tryz.ntmps77
  go_upto_region 1 with fail
  rw [← hW0]
  clear hW0
  go_cut [5] (fun s wx => s = .int .i64 (-1) ∧ Below W0.heap.size W0 wx)
  case first =>
    go_region_with (go_at_call 115; refine (HC.out _ (b_drewK (Below.refl _ _) 1)).mono ?_; rintro e W2 ⟨rfl, hB2⟩)
    all_goals go_wp2
    all_goals go_meet
    all_goals exact ⟨rfl, on1K (b_drewK (Below.refl _ _) 1) hB2 (Nat.le_refl _)⟩
  case rest =>
    obtain ⟨rfl, hB⟩ := hcut
    go_wp2
    go_ret
    exact ⟨rfl, on1K HB0.out hB (Nat.le_refl _)⟩
theorem osc_setR {w : World} {base p g cp j : Nat} {L : List Kd} {B : List Bd} {vk : Value} {x : Bd} (hp : base ≤ p) (hX : w.heap[p]? = some (.cells #[vk, .slice (some ⟨g, 0, none⟩) B.length cp] 46 (0, 0))) (hK : OwnKs w base vk L) (hA : Apt L) (hT : OwnBs w base (.slice (some ⟨g, 0, none⟩) B.length cp) B) (hj : B[j]? = some x) (mn mx : Int) :
    OSc ((w.setCell ⟨g, j * 5 + 3, none⟩ (.int .i64 mn)).setCell ⟨g, j * 5 + 4, none⟩ (.int .i64 mx)) base p L (B.set j { x with mn := mn, mx := mx }) ∧ Below base w ((w.setCell ⟨g, j * 5 + 3, none⟩ (.int .i64 mn)).setCell ⟨g, j * 5 + 4, none⟩ (.int .i64 mx)) := by
  have hgb : base ≤ g := (World.ownsRow.lt hT g rfl).1
  have h1 := World.ownsRow.stored hT (j * 5 + 3) (.int .i64 mn)
  have h2 := World.ownsRow.stored h1.1 (j * 5 + 4) (.int .i64 mx)
  have kk : ∀ t : TypeId, t ≠ 34 → Kt t w ((w.setCell ⟨g, j * 5 + 3, none⟩ (.int .i64 mn)).setCell ⟨g, j * 5 + 4, none⟩ (.int .i64 mx)) := fun t n1 => (Kt.of_own hT (Ne.symm n1) h1.2).trans (Kt.of_own h1.1 (Ne.symm n1) h2.2)
  refine ⟨⟨vk, _, hp, (kk 46 (by decide)).2 p _ hX, hK.kt (kk 32 (by decide)) (kk 9 (by decide)) (kk 28 (by decide)), hA, ?_⟩, ?_⟩
  · unfold OwnBs
    rw [cells_setR B j x hj mn mx, List.length_set]
    exact h2.1
  · exact ((Below.refl _ _).setCell (p := ⟨g, j * 5 + 3, none⟩) hgb _).setCell (p := ⟨g, j * 5 + 4, none⟩) hgb _
theorem osc_setR2 {w : World} {base p g cp j : Nat} {L : List Kd} {B : List Bd} {vk : Value} {x : Bd} (hp : base ≤ p) (hX : w.heap[p]? = some (.cells #[vk, .slice (some ⟨g, 0, none⟩) B.length cp] 46 (0, 0))) (hK : OwnKs w base vk L) (hA : Apt L) (hT : OwnBs w base (.slice (some ⟨g, 0, none⟩) B.length cp) B) (hj : B[j]? = some x) (mn mx : Int) :
    OSc ((w.setCell ⟨g, j * 5 + 4, none⟩ (.int .i64 mx)).setCell ⟨g, j * 5 + 3, none⟩ (.int .i64 mn)) base p L (B.set j { x with mn := mn, mx := mx }) ∧ Below base w ((w.setCell ⟨g, j * 5 + 4, none⟩ (.int .i64 mx)).setCell ⟨g, j * 5 + 3, none⟩ (.int .i64 mn)) := by
  have hgb : base ≤ g := (World.ownsRow.lt hT g rfl).1
  have h1 := World.ownsRow.stored hT (j * 5 + 4) (.int .i64 mx)
  have h2 := World.ownsRow.stored h1.1 (j * 5 + 3) (.int .i64 mn)
  have kk : ∀ t : TypeId, t ≠ 34 → Kt t w ((w.setCell ⟨g, j * 5 + 4, none⟩ (.int .i64 mx)).setCell ⟨g, j * 5 + 3, none⟩ (.int .i64 mn)) := fun t n1 => (Kt.of_own hT (Ne.symm n1) h1.2).trans (Kt.of_own h1.1 (Ne.symm n1) h2.2)
  refine ⟨⟨vk, _, hp, (kk 46 (by decide)).2 p _ hX, hK.kt (kk 32 (by decide)) (kk 9 (by decide)) (kk 28 (by decide)), hA, ?_⟩, ?_⟩
  · unfold OwnBs
    rw [cells_setR B j x hj mn mx, List.length_set, List.set_comm _ _ (by omega)]
    exact h2.1
  · exact ((Below.refl _ _).setCell (p := ⟨g, j * 5 + 4, none⟩) hgb _).setCell (p := ⟨g, j * 5 + 3, none⟩) hgb _
set_option maxHeartbeats 8000000 in
set_option maxRecDepth 100000 in
theorem setRange_yes {w : World} {base p : Nat} {L : List Kd} {B : List Bd} (h : OSc w base p L B) (hbase : base ≤ w.heap.size) (hn : B.length ≤ 12) (c : Ch) (hc : ChIs w c) (hx : ¬ idxB c.nm B 0 = -1) :
    Calls Tryz.prog 77 #[.pointer (some ⟨p, 0, none⟩), c.one] w fun e w' => e = .returned (errV 0) ∧ OSc w' base p L (setR B c.nm c.bd.mn c.bd.mx) ∧ Below base w w' := by
  obtain ⟨vk, vb, hp, hX, hK, hA, hT⟩ := h
  obtain ⟨wh, nm, ⟨kn, ko, kf, vo, vf⟩, ⟨bn, bf, bt, mn, mx⟩, ⟨fn, ft, fm, fk⟩, vt, vn, vs, tn⟩ := c
  obtain ⟨ao, lo1, co, q1⟩ := hc.1.sl
  obtain ⟨af, lf1, cf, q2⟩ := hc.2.sl
  simp only at q1 q2 hx ⊢
  subst q1 q2
  obtain ⟨W0, hW0⟩ : ∃ W0, W0 = w.alloc (.cells #[.int .i64 wh, .string (bs nm), .string (bs kn), .slice ao lo1 co, .slice af lf1 cf, .string (bs bn), .string (bs bf), .string (bs bt), .int .i64 mn, .int .i64 mx, .string (bs fn), .int .i64 ft, .bool fm, .bool fk, .int .i64 vt, .int .i64 vn, .string (bs vs), .string (bs tn)] 38) := ⟨_, rfl⟩
  have hB0 : Below w.heap.size w W0 := by rw [hW0]; exact b_alloc (Below.refl _ _) _
  have n0 := heap_alloc_new w (.cells #[.int .i64 wh, .string (bs nm), .string (bs kn), .slice ao lo1 co, .slice af lf1 cf, .string (bs bn), .string (bs bf), .string (bs bt), .int .i64 mn, .int .i64 mx, .string (bs fn), .int .i64 ft, .bool fm, .bool fk, .int .i64 vt, .int .i64 vn, .string (bs vs), .string (bs tn)] 38)
  rw [← hW0] at n0
  have hX0 := (hB0.block p (Array.getElem?_eq_some_iff.1 hX).1).trans hX
  obtain ⟨j, x, hj, hat, hq, _⟩ := idxB_has hx
  have hjl := (List.getElem?_eq_some_iff.1 hq).1
  have hsr : setR B nm mn mx = B.set j { x with mn := mn, mx := mx } := by unfold setR; rw [hat, hq]
  rw [hsr]
  rcases (hT : w.ownsRow base 34 5 vb B.length (cellsBd B)).2 with ⟨rfl, h0⟩ | ⟨g, cp, cur, rfl, _, hgw, hlc, hcm, _⟩
  · omega
  have c0 : W0.cell? ⟨p, 1, none⟩ = some (.slice (some ⟨g, 0, none⟩) B.length cp) := cell_at hX0 rfl
  have c1 : W0.cell? ⟨w.heap.size, 1, none⟩ = some (.string (bs nm)) := cell_at n0 rfl
  have cc : ∀ W, Below W0.heap.size W0 W → Calls Tryz.prog 115 #[.slice (some ⟨g, 0, none⟩) B.length cp, .string (bs nm)] W fun e w' => e = .returned (.int .i64 (j : Int)) ∧ Below W.heap.size W w' := fun W hb => by
    have := findBond_any (OwnBs.isB (base := base) (own_kt (own_kt hT (.of_below hB0)) (.of_below hb))) hn nm
    rw [hj] at this
    exact this
  have HC := Lib.hid cc
  have hwl : w.heap.size < W0.heap.size := by rw [hW0]; simp
  have hwg : g < w.heap.size := (Array.getElem?_eq_some_iff.1 hgw).1
  have hwp : p < w.heap.size := (Array.getElem?_eq_some_iff.1 hX).1
  have hgp : ¬ g = p := fun e => by rw [e, hX] at hgw; injection hgw with e3; injection e3 with _ e4; exact absurd e4 (by decide)
  have HK : Hid (Below w.heap.size w W0 ∧ base ≤ p ∧ W0.heap[p]? = some (.cells #[vk, .slice (some ⟨g, 0, none⟩) B.length cp] 46 (0, 0)) ∧ OwnKs W0 base vk L ∧ Apt L ∧ OwnBs W0 base (.slice (some ⟨g, 0, none⟩) B.length cp) B ∧ B[j]? = some x ∧ W0.heap[w.heap.size]? = some (.cells #[.int .i64 wh, .string (bs nm), .string (bs kn), .slice ao lo1 co, .slice af lf1 cf, .string (bs bn), .string (bs bf), .string (bs bt), .int .i64 mn, .int .i64 mx, .string (bs fn), .int .i64 ft, .bool fm, .bool fk, .int .i64 vt, .int .i64 vn, .string (bs vs), .string (bs tn)] 38 (0, 0))) := ⟨hB0, hp, hX0, hK.kt (.of_below hB0) (.of_below hB0) (.of_below hB0), hA, own_kt hT (.of_below hB0), hq, n0⟩
  have hjn : ¬ (j : Int) < 0 := by omega
  have hji : (j : Int) < (B.length : Int) := by omega
  clear hT hK hA hX hx hX0 cc n0 hB0 hj hat hq hsr hgw
  go_enter Tryz.func77, Tryz.ntmps77
  go_upto_region 1 with fail
  rw [← hW0]
  clear hW0
  go_cut [5] (fun s wx => s = .int .i64 (j : Int) ∧ Below W0.heap.size W0 wx)
  case first =>
    go_region_with (go_at_call 115; refine (HC.out _ (b_drewK (Below.refl _ _) 1)).mono ?_; rintro e W2 ⟨rfl, hB2⟩)
    all_goals go_wp2
    all_goals go_meet
    all_goals exact ⟨rfl, on1K (b_drewK (Below.refl _ _) 1) hB2 (Nat.le_refl _)⟩
  case rest =>
    obtain ⟨rfl, hB⟩ := hcut
    obtain ⟨k1, k2, k3, k4, k5, k6, k7, k8⟩ := HK.out
    have x3 := (hB.block p (by omega)).trans k3
    have x8 := (hB.block w.heap.size (by omega)).trans k8
    have x6 : OwnBs wc base (.slice (some ⟨g, 0, none⟩) B.length cp) B := own_kt k6 (.of_below hB)
    have d0 : wc.cell? ⟨p, 1, none⟩ = some (.slice (some ⟨g, 0, none⟩) B.length cp) := cell_at x3 rfl
    have d8 : wc.cell? ⟨w.heap.size, 8, none⟩ = some (.int .i64 mn) := cell_at x8 rfl
    have d9 : wc.cell? ⟨w.heap.size, 9, none⟩ = some (.int .i64 mx) := cell_at x8 rfl
    have cells := World.ownsRow.cells x6 (g := g) rfl
    have g3 : wc.cell? ⟨g, j * 5 + 3, none⟩ = some (.int .i64 x.mn) := by
      have := cells (j * 5 + 3) _ ((flatK bd_len B j x 3 k7 (by omega)).trans rfl)
      rw [Addr.add_lit, Nat.zero_add] at this; exact this
    have g4 : wc.cell? ⟨g, j * 5 + 4, none⟩ = some (.int .i64 x.mx) := by
      have := cells (j * 5 + 4) _ ((flatK bd_len B j x 4 k7 (by omega)).trans rfl)
      rw [Addr.add_lit, Nat.zero_add] at this; exact this
    obtain ⟨cur, hcur⟩ : ∃ cur, wc.heap[g]? = some (.cells cur 34 (0, 0)) := by
      rcases x6.2 with ⟨h0, _⟩ | ⟨g', cap', cur, h0, _, hg', _⟩
      · cases h0
      · injection h0 with e1
        injection e1 with e1
        injection e1 with e1
        subst e1
        exact ⟨cur, hg'⟩
    have z3 : wc.frozen? ⟨g, j * 5 + 3, none⟩ = false := frz_at hcur
    have z4 : wc.frozen? ⟨g, j * 5 + 4, none⟩ = false := frz_at hcur
    have HE := Lib.hid (osc_setR (w := wc.drew) (mn := mn) (mx := mx) k2 x3 (k4.kt (.of_below hB.drew) (.of_below hB.drew) (.of_below hB.drew)) k5 x6 k7)
    have HE2 := Lib.hid (osc_setR2 (w := wc.drew) (mn := mn) (mx := mx) k2 x3 (k4.kt (.of_below hB.drew) (.of_below hB.drew) (.of_below hB.drew)) k5 x6 k7)
    have HBw : Hid (Below base w wc.drew) := ((on1K k1 hB (Nat.le_refl _)).mono hbase).drew
    have hgw : ¬ g = w.heap.size := by omega
    have hpw : ¬ p = g := fun e => hgp e.symm
    have hwg' : ¬ w.heap.size = g := by omega
    clear HK HC k1 k2 k3 k4 k5 k6 k7 k8 x3 x8 x6 cells hcur hB
    go_wp2
    go_region
    all_goals go_wp2
    all_goals go_ret
    all_goals first | exact ⟨rfl, HE.out.1, HBw.out.trans HE.out.2⟩ | exact ⟨rfl, HE2.out.1, HBw.out.trans HE2.out.2⟩
end Go.Proofs.YtpmblbhemcippaaGreatDoor
