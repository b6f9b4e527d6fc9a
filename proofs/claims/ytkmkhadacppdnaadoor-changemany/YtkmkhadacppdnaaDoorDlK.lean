/-
  The walks of slices.Delete of one element: of kinds, of fields and of bonds.
-/
import Derived.Test.YtkmkhadacppdnaaDoorCpB
namespace Go.Proofs.YtkmkhadacppdnaaDoor
open Go.RowKit
set_option linter.unusedVariables false
set_option linter.unusedSimpArgs false

/-- clear of elements of several cells. -/
theorem run_clear_row {P : Program} (w : World) (t e ty : TypeId) (z : Value) (ht : P.underlying t = some (.slice e)) (hv : ∀ w, (zeroValue e).run P w = .ok z w) (g o n c : Nat) (hn : 0 < n) (cur : Array Value) (hg : w.heap[g]? = some (.cells cur e (0, 0)))
    (hfit : o + n * z.cells.size ≤ cur.size) (h1 : ∀ u ∈ (Builtin.zeroCells z.cells n).toList, u.oneCell' = true) :
    (Builtin.clear_ #[t] ty #[.slice (some ⟨g, o, none⟩) n c]).run P w = .ok (.tuple #[]) (w.setRow g (cur.toList.take o ++ (Builtin.zeroCells z.cells n).toList ++ cur.toList.drop (o + n * z.cells.size)).toArray) := by
  have hl : (Builtin.zeroCells z.cells n).toList.length = n * z.cells.size := by simp [Builtin.zeroCells]
  have hst := run_storeCells_at P g o e (Builtin.zeroCells z.cells n).toList 0 cur w hg (by rw [hl]; simpa using hfit) h1
  simp only [Nat.add_zero, hl] at hst
  obtain ⟨m, rfl⟩ : ∃ m, n = m + 1 := ⟨n - 1, by omega⟩
  simp [Builtin.clear_, run_underlying ht, hv, hst]
theorem setRow_grown (w : World) (g : Nat) (r : Array Value) : w.grownBy (w.setRow g r) (some g) := ⟨rfl, rfl, rfl, by simp [World.setRow], fun k hk hne => setRow_other w g k r (fun e => hne (by rw [e]))⟩

theorem kd_len (k : Kd) : k.cells.length = 3 := rfl
theorem zeroK_one (n : Nat) : ∀ u ∈ (Builtin.zeroCells #[.string ⟨#[]⟩, .slice none 0 0, .slice none 0 0] n).toList, u.oneCell' = true := by
  intro u hu
  simp [Builtin.zeroCells] at hu
  obtain ⟨i, _, rfl⟩ := hu
  have h3 : i % 3 = 0 ∨ i % 3 = 1 ∨ i % 3 = 2 := by omega
  rcases h3 with h | h | h <;> simp [h, Value.oneCell']
set_option maxHeartbeats 2000000 in
set_option maxRecDepth 100000 in
theorem deleteK_row {w : World} {g cap i m : Nat} {cur : Array Value} {xs ys zs : List Value} (hg : w.heap[g]? = some (.cells cur 34 (0, 0))) (hs : cur.size = cap * 3) (hcm : cap ≤ maxLen) (hnc : i + 1 + m ≤ cap)
    (ht : cur.toList.take ((i + 1 + m) * 3) = xs ++ ys ++ zs) (hx : xs.length = i * 3) (hy : ys.length = 3) (hz : zs.length = m * 3) (h1 : ∀ u ∈ zs, u.oneCell' = true) (hn : i + 1 + m ≤ 1000) :
    Calls Tryd.prog 50 #[.slice (some ⟨g, 0, none⟩) (i + 1 + m) cap, .int .i64 i, .int .i64 ((i : Int) + 1)] w fun e w' => e = .returned (.slice (some ⟨g, 0, none⟩) (i + m) cap) ∧ ∃ row : List Value, w'.heap[g]? = some (.cells row.toArray 34 (0, 0)) ∧ row.length = cap * 3 ∧ row.take ((i + m) * 3) = xs ++ zs ∧ w.grownBy w' (some g) := by
  obtain ⟨i0, hi0, hz0, hz1, hz2⟩ := info_parts infoKd
  have hcl : cur.toList.length = cap * 3 := by simpa using hs
  have hgl : g < w.heap.size := (Array.getElem?_eq_some_iff.1 hg).1
  have hcur : cur.toList = xs ++ ys ++ zs ++ cur.toList.drop ((i + 1 + m) * 3) := by rw [← ht, List.take_append_drop]
  have hxt : cur.toList.take (i * 3) = xs := by rw [hcur]; simp [List.take_append, hx]
  have hzc : ∀ j u, zs[j]? = some u → cur.toList[(i + 1) * 3 + j]? = some u := fun j u hu => by
    have hj := (List.getElem?_eq_some_iff.1 hu).1
    have : (cur.toList.take ((i + 1 + m) * 3))[(i + 1) * 3 + j]? = some u := by
      rw [ht, List.getElem?_append_right (by simp; omega)]
      simpa [hx, hy, show (i + 1) * 3 + j - (i * 3 + 3) = j by omega] using hu
    rw [List.getElem?_take] at this
    split at this
    · exact this
    · cases this
  obtain ⟨R1, hR1⟩ : ∃ R1, R1 = cur.toList.take (i * 3) ++ zs ++ cur.toList.drop (i * 3 + zs.length) := ⟨_, rfl⟩
  have hR1l : R1.length = cap * 3 := by rw [hR1]; simp [hz, hs]; omega
  have hR1t : R1.take ((i + m) * 3) = xs ++ zs := by rw [hR1, hxt, List.take_append_of_le_length (by simp [hx, hz]; omega), List.take_of_length_le (by simp [hx, hz]; omega)]
  obtain ⟨W1, hW1⟩ : ∃ W1, W1 = w.drew.setRow g R1.toArray := ⟨_, rfl⟩
  have happ : ∀ ty (A : Option Addr) c, (A = some ⟨g, (i + 1) * 3, none⟩ ∨ (m = 0 ∧ ∃ a, A = some a)) → (Builtin.append_ #[22, 22] ty #[.slice (some ⟨g, 0, none⟩) i cap, .slice A m c]).run Tryd.prog w.drew = .ok (.slice (some ⟨g, 0, none⟩) (i + m) cap) W1 := fun ty A c hA => by
    obtain ⟨a, rfl, ha⟩ : ∃ a, A = some a ∧ ∀ j u, zs[j]? = some u → w.drew.cell? (a.add j) = some u := by
      rcases hA with rfl | ⟨rfl, a, rfl⟩
      · refine ⟨_, rfl, fun j u hu => ?_⟩
        rw [Addr.add_lit, cell_of_row w.drew g _ cur 34 (0, 0) hg]
        simpa using hzc j u hu
      · refine ⟨a, rfl, fun j u hu => ?_⟩
        have : zs = [] := List.eq_nil_of_length_eq_zero (by omega)
        rw [this] at hu; simp at hu
    have := run_append_room (P := Tryd.prog) w.drew 22 ty 34 i0 Tryd.underlying22 hi0 g i cap cur hg a m c zs (by rw [hz1]; exact hz) ha h1 (by omega) (by rw [hz1, hz]; omega)
    rw [hz1] at this
    rw [hW1, hR1]
    exact this
  have hg1 : W1.heap[g]? = some (.cells R1.toArray 34 (0, 0)) := by rw [hW1]; exact setRow_heap w.drew g cur _ 34 _ hg
  obtain ⟨R2, hR2⟩ : ∃ R2, R2 = R1.take ((i + m) * 3) ++ (Builtin.zeroCells #[.string ⟨#[]⟩, .slice none 0 0, .slice none 0 0] 1).toList ++ R1.drop ((i + m) * 3 + 1 * 3) := ⟨_, rfl⟩
  have hz3 : (Builtin.zeroCells #[.string ⟨#[]⟩, .slice none 0 0, .slice none 0 0] 1).toList.length = 3 := by simp [Builtin.zeroCells]
  have hR2l : R2.length = cap * 3 := by rw [hR2]; simp [hz3, hR1l]; omega
  have hR2t : R2.take ((i + m) * 3) = xs ++ zs := by rw [hR2, List.append_assoc, List.take_append_of_le_length (by simp [hR1l]; omega), List.take_of_length_le (List.length_take_le _ _), hR1t]
  obtain ⟨W2, hW2⟩ : ∃ W2, W2 = W1.setRow g R2.toArray := ⟨_, rfl⟩
  have hclr : ∀ ty c, (Builtin.clear_ #[22] ty #[.slice (some ⟨g, (i + m) * 3, none⟩) 1 c]).run Tryd.prog W1 = .ok (.tuple #[]) W2 := fun ty c => by
    have := run_clear_row W1 22 34 ty (.agg #[.string ⟨#[]⟩, .slice none 0 0, .slice none 0 0]) Tryd.underlying22 Tryd.zeroValue34 g ((i + m) * 3) 1 c (by omega) R1.toArray hg1 (by simp [Value.cells, hR1l]; omega) (zeroK_one 1)
    rw [hW2, hR2]
    exact this
  have HE : Hid (W2.heap[g]? = some (.cells R2.toArray 34 (0, 0)) ∧ R2.length = cap * 3 ∧ R2.take ((i + m) * 3) = xs ++ zs ∧ w.grownBy W2 (some g)) := by
    refine ⟨by rw [hW2]; exact setRow_heap W1 g _ _ 34 _ hg1, hR2l, hR2t, ?_⟩
    rw [hW2, hW1]
    exact grown_trans (b := w.drew) ⟨rfl, rfl, rfl, Nat.le_refl _, fun _ _ _ => rfl⟩ (grown_trans (setRow_grown w.drew g _) (setRow_grown _ g _))
  have HA : Hid (∀ ty (A : Option Addr) c, (A = some ⟨g, (i + 1) * 3, none⟩ ∨ (m = 0 ∧ ∃ a, A = some a)) → (Builtin.append_ #[22, 22] ty #[.slice (some ⟨g, 0, none⟩) i cap, .slice A m c]).run Tryd.prog w.drew = .ok (.slice (some ⟨g, 0, none⟩) (i + m) cap) W1) := happ
  unfold maxLen at hcm
  clear hg ht hzc hcur hR1 hR1l hR1t hW1 hg1 hR2 hz3 hR2l hR2t hW2 hxt hcl hgl happ hi0 hz0 hz1 hz2 hx hy hz h1 hs
  have hii : IntKind.i64.wrap ((i : Int) + 1) = (i : Int) + 1 := by rw [IntKind.wrap_i64]; omega
  have hi1 : (i : Int) + 1 ≤ (i : Int) + 1 + (m : Int) := by omega
  have hi2 : (i : Int) + 1 + (m : Int) ≤ (cap : Int) := by omega
  have hi3 : (i : Int) ≤ (cap : Int) := by omega
  have hi4 : (i : Int) + 1 ≤ (cap : Int) := by omega
  have htn : ((i : Int) + 1).toNat = i + 1 := by omega
  have hne : ¬ (i : Int) = (i : Int) + 1 := by omega
  have hp0 : (0 : Int) ≤ (i : Int) + 1 := by omega
  have hp1 : (i : Int) ≤ (i : Int) + 1 := by omega
  have hs1 : ((i + 1 + m : Nat) : Int) - ((i + m : Nat) : Int) = 1 := by omega
  have hs2 : i + 1 + m - (i + m) = 1 := by omega
  have hs3 : i + 1 + m - (i + 1) = m := by omega
  have hc2 : ¬ cap = i + m := by omega
  by_cases hcap : cap = i + 1
  · obtain rfl : m = 0 := by omega
    subst hcap
    simp only [Nat.add_zero] at *
    go_enter Tryd.func50, Tryd.ntmps50
    go_wp2
    go_region_law (refine step_append_E rfl (.tmp 22) (.tmp 25) 22 rfl (.slice (some ⟨g, 0, none⟩) i (i + 1)) (.slice (some ⟨g, 0, none⟩) 0 (i + 1 - (i + 1))) (by simp [Act.eval, Act.put]) (by simp [Act.eval, Act.put]) (R := fun v' w' => v' = .slice (some ⟨g, 0, none⟩) i (i + 1) ∧ w' = W1) ⟨_, _, HA.out _ _ _ (.inr ⟨trivial, _, rfl⟩), rfl, rfl⟩ ?_; rintro v1 w1 ⟨rfl, rfl⟩)
    all_goals
      go_wp2
      go_ret
      exact ⟨rfl, R2, HE.out⟩
  · have hne2 : ¬ cap = i + 1 := hcap
    go_enter Tryd.func50, Tryd.ntmps50
    go_wp2
    go_region_law (refine step_append_E rfl (.tmp 22) (.tmp 25) 22 rfl (.slice (some ⟨g, 0, none⟩) i cap) (.slice (some ⟨g, (i + 1) * 3, none⟩) m (cap - (i + 1))) (by simp [Act.eval, Act.put]) (by simp [Act.eval, Act.put]) (R := fun v' w' => v' = .slice (some ⟨g, 0, none⟩) (i + m) cap ∧ w' = W1) ⟨_, _, HA.out _ _ _ (.inl rfl), rfl, rfl⟩ ?_; rintro v1 w1 ⟨rfl, rfl⟩)
    all_goals
      go_wp2
      go_ret
      exact ⟨rfl, R2, HE.out⟩
/-- A row of the call's own, without one of its elements. -/
theorem deleteK_any {w : World} {base : Nat} {v : Value} {N : List Kd} (h : w.ownsRow base 34 3 v N.length (cellsK N)) (h1 : ∀ u ∈ cellsK N, u.oneCell' = true) (hn : N.length ≤ 1000) (i : Nat) (hi : i < N.length) :
    Calls Tryd.prog 50 #[v, .int .i64 i, .int .i64 ((i : Int) + 1)] w fun e w' => ∃ v', e = .returned v' ∧ w'.ownsRow base 34 3 v' (N.eraseIdx i).length (cellsK (N.eraseIdx i)) ∧ w.grownBy w' v.ownBlock ∧ v'.ownBlock = v.ownBlock := by
  rcases h.2 with ⟨rfl, h0⟩ | ⟨g, cap, cur, rfl, hb, hg, hle, hcm, hcs, ht⟩
  · omega
  · obtain ⟨m, hm⟩ : ∃ m, N.length = i + 1 + m := ⟨N.length - (i + 1), by omega⟩
    have hsp : cellsK N = cellsK (N.take i) ++ (N[i]).cells ++ cellsK (N.drop (i + 1)) := by
      have e : N = N.take i ++ N[i] :: N.drop (i + 1) := by rw [← List.drop_eq_getElem_cons hi, List.take_append_drop]
      refine (congrArg cellsK e).trans ?_
      simp only [cellsK, List.flatMap_append, List.flatMap_cons, List.append_assoc]
    have hx : (cellsK (N.take i)).length = i * 3 := by unfold cellsK; rw [flatK_len kd_len, List.length_take_of_le (by omega)]
    have hz : (cellsK (N.drop (i + 1))).length = m * 3 := by unfold cellsK; rw [flatK_len kd_len, List.length_drop, hm]; congr 1; omega
    rw [hm] at hle ht ⊢
    rw [hsp] at ht
    refine (deleteK_row hg hcs hcm hle ht hx (kd_len _) hz (fun u hu => h1 u (by rw [hsp]; simp [hu])) (by omega)).mono ?_
    rintro e w' ⟨rfl, row, r1, r2, r3, r4⟩
    have hel : (N.eraseIdx i).length = i + m := by rw [List.length_eraseIdx_of_lt hi, hm]; omega
    have hec : cellsK (N.eraseIdx i) = cellsK (N.take i) ++ cellsK (N.drop (i + 1)) := by rw [List.eraseIdx_eq_take_drop_succ]; simp [cellsK]
    refine ⟨_, rfl, ?_, r4, rfl⟩
    rw [hel, hec]
    refine ⟨by rw [List.length_append, hx, hz]; omega, .inr ⟨g, cap, row.toArray, rfl, hb, r1, by omega, hcm, by simpa using r2, by simpa using r3⟩⟩
end Go.Proofs.YtkmkhadacppdnaaDoor
