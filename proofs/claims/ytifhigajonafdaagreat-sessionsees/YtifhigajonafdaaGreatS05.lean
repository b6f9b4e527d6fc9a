/-
  The walks of slices.Delete of one node, and of one tie.
-/
import Derived.Test.YtifhigajonafdaaGreatS04
import Derived.Lib.SliceRun
import Derived.Deep.RegionLaw
namespace Go.Proofs.YtifhigajonafdaaGreat
open Go.RowKit
set_option linter.unusedVariables false
set_option linter.unusedSimpArgs false

theorem run_clear_row {P : Program} (w : World) (t e ty : TypeId) (z : Value) (ht : P.underlying t = some (.slice e)) (hv : ∀ w, (zeroValue e).run P w = .ok z w) (g o n c : Nat) (hn : 0 < n) (cur : Array Value) (hg : w.heap[g]? = some (.cells cur e (0, 0)))
    (hfit : o + n * z.cells.size ≤ cur.size) (h1 : ∀ u ∈ (Builtin.zeroCells z.cells n).toList, u.oneCell' = true) :
    (Builtin.clear_ #[t] ty #[.slice (some ⟨g, o, none⟩) n c]).run P w = .ok (.tuple #[]) (w.setRow g (cur.toList.take o ++ (Builtin.zeroCells z.cells n).toList ++ cur.toList.drop (o + n * z.cells.size)).toArray) := by
  have hl : (Builtin.zeroCells z.cells n).toList.length = n * z.cells.size := by simp [Builtin.zeroCells]
  have hst := run_storeCells_at P g o e (Builtin.zeroCells z.cells n).toList 0 cur w hg (by rw [hl]; simpa using hfit) h1
  simp only [Nat.add_zero, hl] at hst
  obtain ⟨m, rfl⟩ : ∃ m, n = m + 1 := ⟨n - 1, by omega⟩
  simp [Builtin.clear_, run_underlying ht, hv, hst]
theorem setRow_grown (w : World) (g : Nat) (r : Array Value) : w.grownBy (w.setRow g r) (some g) := ⟨rfl, rfl, rfl, by simp [World.setRow], fun k hk hne => setRow_other w g k r (fun e => hne (by rw [e]))⟩

theorem zero3_one {a b c : Value} (ha : a.oneCell' = true) (hb : b.oneCell' = true) (hc : c.oneCell' = true) (n : Nat) : ∀ u ∈ (Builtin.zeroCells #[a, b, c] n).toList, u.oneCell' = true := by
  intro u hu
  simp [Builtin.zeroCells] at hu
  obtain ⟨i, _, rfl⟩ := hu
  have h3 : i % 3 = 0 ∨ i % 3 = 1 ∨ i % 3 = 2 := by omega
  rcases h3 with h | h | h <;> simp [h, ha, hb, hc]
set_option maxHeartbeats 2000000 in
set_option maxRecDepth 100000 in
theorem deleteN_row {w : World} {g cap i m : Nat} {cur : Array Value} {xs ys zs : List Value} (hg : w.heap[g]? = some (.cells cur 48 (0, 0))) (hs : cur.size = cap * 3) (hcm : cap ≤ maxLen) (hnc : i + 1 + m ≤ cap)
    (ht : cur.toList.take ((i + 1 + m) * 3) = xs ++ ys ++ zs) (hx : xs.length = i * 3) (hy : ys.length = 3) (hz : zs.length = m * 3) (h1 : ∀ u ∈ zs, u.oneCell' = true) (hn : i + 1 + m ≤ 1000) :
    Calls Tryz.prog 109 #[.slice (some ⟨g, 0, none⟩) (i + 1 + m) cap, .int .i64 i, .int .i64 ((i : Int) + 1)] w fun e w' => e = .returned (.slice (some ⟨g, 0, none⟩) (i + m) cap) ∧ ∃ row : List Value, w'.heap[g]? = some (.cells row.toArray 48 (0, 0)) ∧ row.length = cap * 3 ∧ row.take ((i + m) * 3) = xs ++ zs ∧ w.grownBy w' (some g) := by
  obtain ⟨i0, hi0, hz0, hz1, hz2⟩ := info_parts infoN
  have hcl : cur.toList.length = cap * 3 := by simpa using hs
  have hgl : g < w.heap.size := (Array.getElem?_eq_some_iff.1 hg).1
  have hcur : cur.toList = xs ++ ys ++ zs ++ cur.toList.drop ((i + 1 + m) * 3) := by rw [← ht, List.take_append_drop]
  have hxt : cur.toList.take (i * 3) = xs := by rw [hcur]; simp [List.take_append, hx]
  have hzc : ∀ j u, zs[j]? = some u → cur.toList[(i + 1) * 3 + j]? = some u := fun j u hu => by
    have hj := (List.getElem?_eq_some_iff.1 hu).1
    have : (cur.toList.take ((i + 1 + m) * 3))[(i + 1) * 3 + j]? = some u := by
      rw [ht, List.getElem?_append_right (by simp; omega)]
      simpa [hx, hy, show (i + 1) * 3 + j - (i * 3 + 3) = j by omega] using hu
    rw [List.getElem?_take] at this
    split at this
    · exact this
    · cases this
  obtain ⟨R1, hR1⟩ : ∃ R1, R1 = cur.toList.take (i * 3) ++ zs ++ cur.toList.drop (i * 3 + zs.length) := ⟨_, rfl⟩
  have hR1l : R1.length = cap * 3 := by rw [hR1]; simp [hz, hs]; omega
  have hR1t : R1.take ((i + m) * 3) = xs ++ zs := by rw [hR1, hxt, List.take_append_of_le_length (by simp [hx, hz]; omega), List.take_of_length_le (by simp [hx, hz]; omega)]
  obtain ⟨W1, hW1⟩ : ∃ W1, W1 = w.drew.setRow g R1.toArray := ⟨_, rfl⟩
  have happ : ∀ ty (A : Option Addr) c, (A = some ⟨g, (i + 1) * 3, none⟩ ∨ (m = 0 ∧ ∃ a, A = some a)) → (Builtin.append_ #[26, 26] ty #[.slice (some ⟨g, 0, none⟩) i cap, .slice A m c]).run Tryz.prog w.drew = .ok (.slice (some ⟨g, 0, none⟩) (i + m) cap) W1 := fun ty A c hA => by
    obtain ⟨a, rfl, ha⟩ : ∃ a, A = some a ∧ ∀ j u, zs[j]? = some u → w.drew.cell? (a.add j) = some u := by
      rcases hA with rfl | ⟨rfl, a, rfl⟩
      · refine ⟨_, rfl, fun j u hu => ?_⟩
        rw [Addr.add_lit, cell_of_row w.drew g _ cur 48 (0, 0) hg]
        simpa using hzc j u hu
      · refine ⟨a, rfl, fun j u hu => ?_⟩
        have : zs = [] := List.eq_nil_of_length_eq_zero (by omega)
        rw [this] at hu; simp at hu
    have := run_append_room (P := Tryz.prog) w.drew 26 ty 48 i0 Tryz.underlying26 hi0 g i cap cur hg a m c zs (by rw [hz1]; exact hz) ha h1 (by omega) (by rw [hz1, hz]; omega)
    rw [hz1] at this
    rw [hW1, hR1]
    exact this
  have hg1 : W1.heap[g]? = some (.cells R1.toArray 48 (0, 0)) := by rw [hW1]; exact setRow_heap w.drew g cur _ 48 _ hg
  obtain ⟨R2, hR2⟩ : ∃ R2, R2 = R1.take ((i + m) * 3) ++ (Builtin.zeroCells #[.int .i64 0, .string ⟨#[]⟩, .slice none 0 0] 1).toList ++ R1.drop ((i + m) * 3 + 1 * 3) := ⟨_, rfl⟩
  have hz3 : (Builtin.zeroCells #[.int .i64 0, .string ⟨#[]⟩, .slice none 0 0] 1).toList.length = 3 := by simp [Builtin.zeroCells]
  have hR2l : R2.length = cap * 3 := by rw [hR2]; simp [hz3, hR1l]; omega
  have hR2t : R2.take ((i + m) * 3) = xs ++ zs := by rw [hR2, List.append_assoc, List.take_append_of_le_length (by simp [hR1l]; omega), List.take_of_length_le (List.length_take_le _ _), hR1t]
  obtain ⟨W2, hW2⟩ : ∃ W2, W2 = W1.setRow g R2.toArray := ⟨_, rfl⟩
  have hclr : ∀ ty c, (Builtin.clear_ #[26] ty #[.slice (some ⟨g, (i + m) * 3, none⟩) 1 c]).run Tryz.prog W1 = .ok (.tuple #[]) W2 := fun ty c => by
    have := run_clear_row W1 26 48 ty (.agg #[.int .i64 0, .string ⟨#[]⟩, .slice none 0 0]) Tryz.underlying26 Tryz.zeroValue48 g ((i + m) * 3) 1 c (by omega) R1.toArray hg1 (by simp [Value.cells, hR1l]; omega) (zero3_one rfl rfl rfl 1)
    rw [hW2, hR2]
    exact this
  have HE : Hid (W2.heap[g]? = some (.cells R2.toArray 48 (0, 0)) ∧ R2.length = cap * 3 ∧ R2.take ((i + m) * 3) = xs ++ zs ∧ w.grownBy W2 (some g)) := by
    refine ⟨by rw [hW2]; exact setRow_heap W1 g _ _ 48 _ hg1, hR2l, hR2t, ?_⟩
    rw [hW2, hW1]
    exact grown_trans (b := w.drew) ⟨rfl, rfl, rfl, Nat.le_refl _, fun _ _ _ => rfl⟩ (grown_trans (setRow_grown w.drew g _) (setRow_grown _ g _))
  have HA : Hid (∀ ty (A : Option Addr) c, (A = some ⟨g, (i + 1) * 3, none⟩ ∨ (m = 0 ∧ ∃ a, A = some a)) → (Builtin.append_ #[26, 26] ty #[.slice (some ⟨g, 0, none⟩) i cap, .slice A m c]).run Tryz.prog w.drew = .ok (.slice (some ⟨g, 0, none⟩) (i + m) cap) W1) := happ
  unfold maxLen at hcm
  clear hg ht hzc hcur hR1 hR1l hR1t hW1 hg1 hR2 hz3 hR2l hR2t hW2 hxt hcl hgl happ hi0 hz0 hz1 hz2 hx hy hz h1 hs
  have hii : IntKind.i64.wrap ((i : Int) + 1) = (i : Int) + 1 := by rw [IntKind.wrap_i64]; omega
  have hi1 : (i : Int) + 1 ≤ (i : Int) + 1 + (m : Int) := by omega
  have hi2 : (i : Int) + 1 + (m : Int) ≤ (cap : Int) := by omega
  have hi3 : (i : Int) ≤ (cap : Int) := by omega
  have hi4 : (i : Int) + 1 ≤ (cap : Int) := by omega
  have htn : ((i : Int) + 1).toNat = i + 1 := by omega
  have hne : ¬ (i : Int) = (i : Int) + 1 := by omega
  have hp0 : (0 : Int) ≤ (i : Int) + 1 := by omega
  have hp1 : (i : Int) ≤ (i : Int) + 1 := by omega
  have hs1 : ((i + 1 + m : Nat) : Int) - ((i + m : Nat) : Int) = 1 := by omega
  have hs2 : i + 1 + m - (i + m) = 1 := by omega
  have hs3 : i + 1 + m - (i + 1) = m := by omega
  have hc2 : ¬ cap = i + m := by omega
  by_cases hcap : cap = i + 1
  · obtain rfl : m = 0 := by omega
    subst hcap
    simp only [Nat.add_zero] at *
    go_enter Tryz.func109, Tryz.ntmps109
    go_wp2
    go_region_law (refine step_append_E rfl (.tmp 22) (.tmp 25) 26 rfl (.slice (some ⟨g, 0, none⟩) i (i + 1)) (.slice (some ⟨g, 0, none⟩) 0 (i + 1 - (i + 1))) (by simp [Act.eval, Act.put]) (by simp [Act.eval, Act.put]) (R := fun v' w' => v' = .slice (some ⟨g, 0, none⟩) i (i + 1) ∧ w' = W1) ⟨_, _, HA.out _ _ _ (.inr ⟨trivial, _, rfl⟩), rfl, rfl⟩ ?_; rintro v1 w1 ⟨rfl, rfl⟩)
    all_goals
      go_wp2
      go_ret
      exact ⟨rfl, R2, HE.out⟩
  · have hne2 : ¬ cap = i + 1 := hcap
    go_enter Tryz.func109, Tryz.ntmps109
    go_wp2
    go_region_law (refine step_append_E rfl (.tmp 22) (.tmp 25) 26 rfl (.slice (some ⟨g, 0, none⟩) i cap) (.slice (some ⟨g, (i + 1) * 3, none⟩) m (cap - (i + 1))) (by simp [Act.eval, Act.put]) (by simp [Act.eval, Act.put]) (R := fun v' w' => v' = .slice (some ⟨g, 0, none⟩) (i + m) cap ∧ w' = W1) ⟨_, _, HA.out _ _ _ (.inl rfl), rfl, rfl⟩ ?_; rintro v1 w1 ⟨rfl, rfl⟩)
    all_goals
      go_wp2
      go_ret
      exact ⟨rfl, R2, HE.out⟩
theorem deleteN_any {w : World} {base : Nat} {v : Value} {N : List Nd} (h : w.ownsRow base 48 3 v N.length (cellsN N)) (h1 : ∀ u ∈ cellsN N, u.oneCell' = true) (hn : N.length ≤ 1000) (i : Nat) (hi : i < N.length) :
    Calls Tryz.prog 109 #[v, .int .i64 i, .int .i64 ((i : Int) + 1)] w fun e w' => ∃ v', e = .returned v' ∧ w'.ownsRow base 48 3 v' (N.eraseIdx i).length (cellsN (N.eraseIdx i)) ∧ w.grownBy w' v.ownBlock := by
  rcases h.2 with ⟨rfl, h0⟩ | ⟨g, cap, cur, rfl, hb, hg, hle, hcm, hcs, ht⟩
  · omega
  · obtain ⟨m, hm⟩ : ∃ m, N.length = i + 1 + m := ⟨N.length - (i + 1), by omega⟩
    have hsp : cellsN N = cellsN (N.take i) ++ (N[i]).cells ++ cellsN (N.drop (i + 1)) := by
      have e : N = N.take i ++ N[i] :: N.drop (i + 1) := by rw [← List.drop_eq_getElem_cons hi, List.take_append_drop]
      refine (congrArg cellsN e).trans ?_
      simp only [cellsN, List.flatMap_append, List.flatMap_cons, List.append_assoc]
    have hx : (cellsN (N.take i)).length = i * 3 := by unfold cellsN; rw [flatK_len nd_len, List.length_take_of_le (by omega)]
    have hz : (cellsN (N.drop (i + 1))).length = m * 3 := by unfold cellsN; rw [flatK_len nd_len, List.length_drop, hm]; congr 1; omega
    rw [hm] at hle ht ⊢
    rw [hsp] at ht
    refine (deleteN_row hg hcs hcm hle ht hx (nd_len _) hz (fun u hu => h1 u (by rw [hsp]; simp [hu])) (by omega)).mono ?_
    rintro e w' ⟨rfl, row, r1, r2, r3, r4⟩
    have hel : (N.eraseIdx i).length = i + m := by rw [List.length_eraseIdx_of_lt hi, hm]; omega
    have hec : cellsN (N.eraseIdx i) = cellsN (N.take i) ++ cellsN (N.drop (i + 1)) := by rw [List.eraseIdx_eq_take_drop_succ]; simp [cellsN]
    refine ⟨_, rfl, ?_, r4⟩
    rw [hel, hec]
    refine ⟨by rw [List.length_append, hx, hz]; omega, .inr ⟨g, cap, row.toArray, rfl, hb, r1, by omega, hcm, by simpa using r2, by simpa using r3⟩⟩
set_option maxHeartbeats 2000000 in
set_option maxRecDepth 100000 in
theorem deleteT_row {w : World} {g cap i m : Nat} {cur : Array Value} {xs ys zs : List Value} (hg : w.heap[g]? = some (.cells cur 54 (0, 0))) (hs : cur.size = cap * 3) (hcm : cap ≤ maxLen) (hnc : i + 1 + m ≤ cap)
    (ht : cur.toList.take ((i + 1 + m) * 3) = xs ++ ys ++ zs) (hx : xs.length = i * 3) (hy : ys.length = 3) (hz : zs.length = m * 3) (h1 : ∀ u ∈ zs, u.oneCell' = true) (hn : i + 1 + m ≤ 1000) :
    Calls Tryz.prog 117 #[.slice (some ⟨g, 0, none⟩) (i + 1 + m) cap, .int .i64 i, .int .i64 ((i : Int) + 1)] w fun e w' => e = .returned (.slice (some ⟨g, 0, none⟩) (i + m) cap) ∧ ∃ row : List Value, w'.heap[g]? = some (.cells row.toArray 54 (0, 0)) ∧ row.length = cap * 3 ∧ row.take ((i + m) * 3) = xs ++ zs ∧ w.grownBy w' (some g) := by
  obtain ⟨i0, hi0, hz0, hz1, hz2⟩ := info_parts infoT
  have hcl : cur.toList.length = cap * 3 := by simpa using hs
  have hgl : g < w.heap.size := (Array.getElem?_eq_some_iff.1 hg).1
  have hcur : cur.toList = xs ++ ys ++ zs ++ cur.toList.drop ((i + 1 + m) * 3) := by rw [← ht, List.take_append_drop]
  have hxt : cur.toList.take (i * 3) = xs := by rw [hcur]; simp [List.take_append, hx]
  have hzc : ∀ j u, zs[j]? = some u → cur.toList[(i + 1) * 3 + j]? = some u := fun j u hu => by
    have hj := (List.getElem?_eq_some_iff.1 hu).1
    have : (cur.toList.take ((i + 1 + m) * 3))[(i + 1) * 3 + j]? = some u := by
      rw [ht, List.getElem?_append_right (by simp; omega)]
      simpa [hx, hy, show (i + 1) * 3 + j - (i * 3 + 3) = j by omega] using hu
    rw [List.getElem?_take] at this
    split at this
    · exact this
    · cases this
  obtain ⟨R1, hR1⟩ : ∃ R1, R1 = cur.toList.take (i * 3) ++ zs ++ cur.toList.drop (i * 3 + zs.length) := ⟨_, rfl⟩
  have hR1l : R1.length = cap * 3 := by rw [hR1]; simp [hz, hs]; omega
  have hR1t : R1.take ((i + m) * 3) = xs ++ zs := by rw [hR1, hxt, List.take_append_of_le_length (by simp [hx, hz]; omega), List.take_of_length_le (by simp [hx, hz]; omega)]
  obtain ⟨W1, hW1⟩ : ∃ W1, W1 = w.drew.setRow g R1.toArray := ⟨_, rfl⟩
  have happ : ∀ ty (A : Option Addr) c, (A = some ⟨g, (i + 1) * 3, none⟩ ∨ (m = 0 ∧ ∃ a, A = some a)) → (Builtin.append_ #[27, 27] ty #[.slice (some ⟨g, 0, none⟩) i cap, .slice A m c]).run Tryz.prog w.drew = .ok (.slice (some ⟨g, 0, none⟩) (i + m) cap) W1 := fun ty A c hA => by
    obtain ⟨a, rfl, ha⟩ : ∃ a, A = some a ∧ ∀ j u, zs[j]? = some u → w.drew.cell? (a.add j) = some u := by
      rcases hA with rfl | ⟨rfl, a, rfl⟩
      · refine ⟨_, rfl, fun j u hu => ?_⟩
        rw [Addr.add_lit, cell_of_row w.drew g _ cur 54 (0, 0) hg]
        simpa using hzc j u hu
      · refine ⟨a, rfl, fun j u hu => ?_⟩
        have : zs = [] := List.eq_nil_of_length_eq_zero (by omega)
        rw [this] at hu; simp at hu
    have := run_append_room (P := Tryz.prog) w.drew 27 ty 54 i0 Tryz.underlying27 hi0 g i cap cur hg a m c zs (by rw [hz1]; exact hz) ha h1 (by omega) (by rw [hz1, hz]; omega)
    rw [hz1] at this
    rw [hW1, hR1]
    exact this
  have hg1 : W1.heap[g]? = some (.cells R1.toArray 54 (0, 0)) := by rw [hW1]; exact setRow_heap w.drew g cur _ 54 _ hg
  obtain ⟨R2, hR2⟩ : ∃ R2, R2 = R1.take ((i + m) * 3) ++ (Builtin.zeroCells #[.string ⟨#[]⟩, .int .i64 0, .int .i64 0] 1).toList ++ R1.drop ((i + m) * 3 + 1 * 3) := ⟨_, rfl⟩
  have hz3 : (Builtin.zeroCells #[.string ⟨#[]⟩, .int .i64 0, .int .i64 0] 1).toList.length = 3 := by simp [Builtin.zeroCells]
  have hR2l : R2.length = cap * 3 := by rw [hR2]; simp [hz3, hR1l]; omega
  have hR2t : R2.take ((i + m) * 3) = xs ++ zs := by rw [hR2, List.append_assoc, List.take_append_of_le_length (by simp [hR1l]; omega), List.take_of_length_le (List.length_take_le _ _), hR1t]
  obtain ⟨W2, hW2⟩ : ∃ W2, W2 = W1.setRow g R2.toArray := ⟨_, rfl⟩
  have hclr : ∀ ty c, (Builtin.clear_ #[27] ty #[.slice (some ⟨g, (i + m) * 3, none⟩) 1 c]).run Tryz.prog W1 = .ok (.tuple #[]) W2 := fun ty c => by
    have := run_clear_row W1 27 54 ty (.agg #[.string ⟨#[]⟩, .int .i64 0, .int .i64 0]) Tryz.underlying27 Tryz.zeroValue54 g ((i + m) * 3) 1 c (by omega) R1.toArray hg1 (by simp [Value.cells, hR1l]; omega) (zero3_one rfl rfl rfl 1)
    rw [hW2, hR2]
    exact this
  have HE : Hid (W2.heap[g]? = some (.cells R2.toArray 54 (0, 0)) ∧ R2.length = cap * 3 ∧ R2.take ((i + m) * 3) = xs ++ zs ∧ w.grownBy W2 (some g)) := by
    refine ⟨by rw [hW2]; exact setRow_heap W1 g _ _ 54 _ hg1, hR2l, hR2t, ?_⟩
    rw [hW2, hW1]
    exact grown_trans (b := w.drew) ⟨rfl, rfl, rfl, Nat.le_refl _, fun _ _ _ => rfl⟩ (grown_trans (setRow_grown w.drew g _) (setRow_grown _ g _))
  have HA : Hid (∀ ty (A : Option Addr) c, (A = some ⟨g, (i + 1) * 3, none⟩ ∨ (m = 0 ∧ ∃ a, A = some a)) → (Builtin.append_ #[27, 27] ty #[.slice (some ⟨g, 0, none⟩) i cap, .slice A m c]).run Tryz.prog w.drew = .ok (.slice (some ⟨g, 0, none⟩) (i + m) cap) W1) := happ
  unfold maxLen at hcm
  clear hg ht hzc hcur hR1 hR1l hR1t hW1 hg1 hR2 hz3 hR2l hR2t hW2 hxt hcl hgl happ hi0 hz0 hz1 hz2 hx hy hz h1 hs
  have hii : IntKind.i64.wrap ((i : Int) + 1) = (i : Int) + 1 := by rw [IntKind.wrap_i64]; omega
  have hi1 : (i : Int) + 1 ≤ (i : Int) + 1 + (m : Int) := by omega
  have hi2 : (i : Int) + 1 + (m : Int) ≤ (cap : Int) := by omega
  have hi3 : (i : Int) ≤ (cap : Int) := by omega
  have hi4 : (i : Int) + 1 ≤ (cap : Int) := by omega
  have htn : ((i : Int) + 1).toNat = i + 1 := by omega
  have hne : ¬ (i : Int) = (i : Int) + 1 := by omega
  have hp0 : (0 : Int) ≤ (i : Int) + 1 := by omega
  have hp1 : (i : Int) ≤ (i : Int) + 1 := by omega
  have hs1 : ((i + 1 + m : Nat) : Int) - ((i + m : Nat) : Int) = 1 := by omega
  have hs2 : i + 1 + m - (i + m) = 1 := by omega
  have hs3 : i + 1 + m - (i + 1) = m := by omega
  have hc2 : ¬ cap = i + m := by omega
  by_cases hcap : cap = i + 1
  · obtain rfl : m = 0 := by omega
    subst hcap
    simp only [Nat.add_zero] at *
    go_enter Tryz.func117, Tryz.ntmps117
    go_wp2
    go_region_law (refine step_append_E rfl (.tmp 22) (.tmp 25) 27 rfl (.slice (some ⟨g, 0, none⟩) i (i + 1)) (.slice (some ⟨g, 0, none⟩) 0 (i + 1 - (i + 1))) (by simp [Act.eval, Act.put]) (by simp [Act.eval, Act.put]) (R := fun v' w' => v' = .slice (some ⟨g, 0, none⟩) i (i + 1) ∧ w' = W1) ⟨_, _, HA.out _ _ _ (.inr ⟨trivial, _, rfl⟩), rfl, rfl⟩ ?_; rintro v1 w1 ⟨rfl, rfl⟩)
    all_goals
      go_wp2
      go_ret
      exact ⟨rfl, R2, HE.out⟩
  · have hne2 : ¬ cap = i + 1 := hcap
    go_enter Tryz.func117, Tryz.ntmps117
    go_wp2
    go_region_law (refine step_append_E rfl (.tmp 22) (.tmp 25) 27 rfl (.slice (some ⟨g, 0, none⟩) i cap) (.slice (some ⟨g, (i + 1) * 3, none⟩) m (cap - (i + 1))) (by simp [Act.eval, Act.put]) (by simp [Act.eval, Act.put]) (R := fun v' w' => v' = .slice (some ⟨g, 0, none⟩) (i + m) cap ∧ w' = W1) ⟨_, _, HA.out _ _ _ (.inl rfl), rfl, rfl⟩ ?_; rintro v1 w1 ⟨rfl, rfl⟩)
    all_goals
      go_wp2
      go_ret
      exact ⟨rfl, R2, HE.out⟩
theorem deleteT_any {w : World} {base : Nat} {v : Value} {N : List Te} (h : w.ownsRow base 54 3 v N.length (cellsT N)) (h1 : ∀ u ∈ cellsT N, u.oneCell' = true) (hn : N.length ≤ 1000) (i : Nat) (hi : i < N.length) :
    Calls Tryz.prog 117 #[v, .int .i64 i, .int .i64 ((i : Int) + 1)] w fun e w' => ∃ v', e = .returned v' ∧ w'.ownsRow base 54 3 v' (N.eraseIdx i).length (cellsT (N.eraseIdx i)) ∧ w.grownBy w' v.ownBlock := by
  rcases h.2 with ⟨rfl, h0⟩ | ⟨g, cap, cur, rfl, hb, hg, hle, hcm, hcs, ht⟩
  · omega
  · obtain ⟨m, hm⟩ : ∃ m, N.length = i + 1 + m := ⟨N.length - (i + 1), by omega⟩
    have hsp : cellsT N = cellsT (N.take i) ++ (N[i]).cells ++ cellsT (N.drop (i + 1)) := by
      have e : N = N.take i ++ N[i] :: N.drop (i + 1) := by rw [← List.drop_eq_getElem_cons hi, List.take_append_drop]
      refine (congrArg cellsT e).trans ?_
      simp only [cellsT, List.flatMap_append, List.flatMap_cons, List.append_assoc]
    have hx : (cellsT (N.take i)).length = i * 3 := by unfold cellsT; rw [flatK_len te_len, List.length_take_of_le (by omega)]
    have hz : (cellsT (N.drop (i + 1))).length = m * 3 := by unfold cellsT; rw [flatK_len te_len, List.length_drop, hm]; congr 1; omega
    rw [hm] at hle ht ⊢
    rw [hsp] at ht
    refine (deleteT_row hg hcs hcm hle ht hx (te_len _) hz (fun u hu => h1 u (by rw [hsp]; simp [hu])) (by omega)).mono ?_
    rintro e w' ⟨rfl, row, r1, r2, r3, r4⟩
    have hel : (N.eraseIdx i).length = i + m := by rw [List.length_eraseIdx_of_lt hi, hm]; omega
    have hec : cellsT (N.eraseIdx i) = cellsT (N.take i) ++ cellsT (N.drop (i + 1)) := by rw [List.eraseIdx_eq_take_drop_succ]; simp [cellsT]
    refine ⟨_, rfl, ?_, r4⟩
    rw [hel, hec]
    refine ⟨by rw [List.length_append, hx, hz]; omega, .inr ⟨g, cap, row.toArray, rfl, hb, r1, by omega, hcm, by simpa using r2, by simpa using r3⟩⟩
end Go.Proofs.YtifhigajonafdaaGreat

/-
  The walks of slices.IndexFunc and slices.DeleteFunc of ties, with the test of dropNode: has a tie a node as an end?
-/
namespace Go.Proofs.YtifhigajonafdaaGreat
open Go.RowKit
set_option linter.unusedVariables false
set_option linter.unusedSimpArgs false

def Te.end (t : Te) (id : Int) : Bool := t.fr == id || t.tt == id
def idxT (id : Int) : List Te → Nat → Int
  | [], _ => -1
  | t :: r, k => if t.end id = true then (k : Int) else idxT id r (k + 1)
theorem idxT_spec (id : Int) : ∀ (T : List Te) (s : Nat), (idxT id T s = -1 ∧ ∀ t ∈ T, t.end id = false) ∨ ∃ k t, T[k]? = some t ∧ idxT id T s = ((s + k : Nat) : Int) ∧ t.end id = true ∧ ∀ x ∈ T.take k, x.end id = false
  | [], s => .inl ⟨rfl, fun t ht => by cases ht⟩
  | t :: r, s => by
    by_cases h : t.end id = true
    · exact .inr ⟨0, t, rfl, by simp [idxT, h], h, fun x hx => by simp at hx⟩
    · have e : idxT id (t :: r) s = idxT id r (s + 1) := by simp [idxT, h]
      rcases idxT_spec id r (s + 1) with ⟨e1, ha⟩ | ⟨k, x, hk, e1, hx, ha⟩
      · refine .inl ⟨by rw [e, e1], fun y hy => ?_⟩
        rcases List.mem_cons.1 hy with rfl | hy
        · simpa using h
        · exact ha y hy
      · refine .inr ⟨k + 1, x, by simpa using hk, by rw [e, e1]; congr 1; omega, hx, fun y hy => ?_⟩
        rw [List.take_succ_cons] at hy
        rcases List.mem_cons.1 hy with rfl | hy
        · simpa using h
        · exact ha y hy

set_option maxHeartbeats 1000000 in
theorem drop1_any (t : Te) (p : Nat) (id : Int) (w : World) (hp : p < w.heap.size) (hc : w.cell? ⟨p, 0, none⟩ = some (.int .i64 id)) :
    Calls Tryz.prog 111 #[t.one, .pointer (some ⟨p, 0, none⟩)] w fun e w' => e = .returned (.bool (t.end id)) ∧ Below w.heap.size w w' := by
  obtain ⟨bd, fr, tt⟩ := t
  have hB : Below w.heap.size w (w.alloc (.cells #[.string bd, .int .i64 fr, .int .i64 tt] 54)) := b_alloc (Below.refl _ _) _
  have hc' := (hB.cell (p := ⟨p, 0, none⟩) hp).trans hc
  have hpn : ¬ p = w.heap.size := by omega
  by_cases h1 : fr = id
  · have e : Te.end ⟨bd, fr, tt⟩ id = true := by simp [Te.end, h1]
    rw [e]
    have h2 : (fr == id) = true := by simpa using h1
    clear e h1
    go_enter Tryz.func111, Tryz.ntmps111
    go_wp2
    go_ret
    exact ⟨rfl, hB⟩
  · have e : Te.end ⟨bd, fr, tt⟩ id = (tt == id) := by simp [Te.end, h1]
    rw [e]
    have h2 : (fr == id) = false := by simpa using h1
    clear e h1
    go_enter Tryz.func111, Tryz.ntmps111
    go_wp2
    go_ret
    exact ⟨rfl, hB⟩

set_option maxHeartbeats 1000000 in
set_option maxRecDepth 100000 in
theorem indexT_any {ao : Option Addr} {cn : Nat} {N : List Te} {w : World} (hn : N = [] ∨ ∃ b off, ao = some ⟨b, off, none⟩ ∧ b < w.heap.size ∧ LiesT w b off N) (h60 : N.length ≤ 1000) (p : Nat) (id : Int) (hp : p < w.heap.size) (hc : w.cell? ⟨p, 0, none⟩ = some (.int .i64 id)) :
    Calls Tryz.prog 141 #[.slice ao N.length cn, .func (.func 111) #[] #[.pointer (some ⟨p, 0, none⟩)]] w fun e w' => e = .returned (.int .i64 (idxT id N 0)) ∧ Below w.heap.size w w' := by
  go_enter Tryz.func141, Tryz.ntmps141
  go_wp2
  go_loopw [8] (fun i wr => ∃ k : Nat, k ≤ N.length ∧ i = .int .i64 k ∧ idxT id N 0 = idxT id (N.drop k) k ∧ Below w.heap.size w wr) (fun i _ => N.length - (intOf i).toNat)
  case atStart => exact ⟨0, Nat.zero_le _, rfl, rfl, Below.refl _ _⟩
  case round =>
    obtain ⟨k, hk, rfl, hx, hB⟩ := hrel
    have HX : Hid (idxT id N 0 = idxT id (N.drop k) k) := hx
    clear hx
    by_cases hlt : k < N.length
    · obtain ⟨n, hn'⟩ : ∃ n, N[k]? = some n := ⟨N[k], by simp [hlt]⟩
      rcases hn with rfl | ⟨b, off, rfl, hb, hL⟩
      · exact absurd hlt (by simp)
      have HD : Hid (N.drop k = n :: N.drop (k + 1)) := dropN hn'
      obtain ⟨c0, c1, c2⟩ := hL k n hn'
      have d0 := (hB.cell (p := ⟨b, off + k * 3, none⟩) hb).trans c0
      have d1 := (hB.cell (p := ⟨b, off + k * 3 + 1, none⟩) hb).trans c1
      have d2 := (hB.cell (p := ⟨b, off + k * 3 + 2, none⟩) hb).trans c2
      have cf := drop1_any n p id wr (Nat.lt_of_lt_of_le hp hB.size) ((hB.cell hp).trans hc)
      have HL : Hid (LiesT w b off N) := hL
      clear c0 c1 c2 hn' hL hc
      cases he : n.end id with
      | true =>
        have H : Hid (idxT id N 0 = (k : Int)) := by
          show _ = _
          rw [HX.out, HD.out]; unfold idxT; rw [if_pos he]
        rw [he] at cf
        clear HX HD he
        obtain ⟨bd, fr, tt⟩ := n
        simp only at d0 d1 d2 cf
        go_wp2_with (first | (go_at_call 111; refine cf.mono ?_; rintro e W2 ⟨rfl, hB2⟩))
        go_ret
        exact ⟨ret_v (congrArg (Value.int .i64) H.out.symm), on1 hB hB2⟩
      | false =>
        have H : Hid (idxT id N 0 = idxT id (N.drop (k + 1)) (k + 1)) := by
          show _ = _
          rw [HX.out, HD.out]; conv => lhs; unfold idxT; rw [if_neg (by rw [he]; decide)]
        rw [he] at cf
        clear HX HD he
        obtain ⟨bd, fr, tt⟩ := n
        simp only at d0 d1 d2 cf
        go_wp2_with (first | (go_at_call 111; refine cf.mono ?_; rintro e W2 ⟨rfl, hB2⟩))
        go_roundw
        case rel => exact ⟨k + 1, by omega, by go_num, H.out, on1 hB hB2⟩
        case measure => simp [intOf]; omega
    · have hd : N.drop k = [] := List.drop_eq_nil_of_le (by omega)
      have H : Hid (idxT id N 0 = -1) := by
        show _ = _
        rw [HX.out, hd]; rfl
      clear HX hd
      go_wp2
      go_ret
      exact ⟨ret_v (congrArg (Value.int .i64) H.out.symm), hB⟩
end Go.Proofs.YtifhigajonafdaaGreat
