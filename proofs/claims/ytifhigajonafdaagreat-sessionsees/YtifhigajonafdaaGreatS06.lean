/-
  The walk of slices.DeleteFunc of ties, with the test of dropNode.
-/
import Derived.Test.YtifhigajonafdaaGreatS05
import Derived.Test.YtifhigajonafdaaGreatS04
import Derived.Deep.RegionHeld3
import Derived.Lib.Bytealg
import Derived.Lib.Small
import Derived.WalkKit
namespace Go.Proofs.YtifhigajonafdaaGreat
open Go.RowKit
set_option linter.unusedVariables false
set_option linter.unusedSimpArgs false

def keepT (id : Int) (t : Te) : Bool := !t.end id
theorem cellsT_set (M : List Te) (k : Nat) (hk : k < M.length) (t : Te) : (((cellsT M).set (k * 3) (.string t.bd)).set (k * 3 + 1) (.int .i64 t.fr)).set (k * 3 + 2) (.int .i64 t.tt) = cellsT (M.set k t) := by
  have hl : (cellsT M).length = M.length * 3 := flatK_len te_len M
  rw [set3 _ _ _ _ _ (by rw [hl]; omega)]
  unfold cellsT
  rw [flatK_set te_len M k _ hk, show (k + 1) * 3 = k * 3 + 3 by omega]
  rfl
def DfI (w : World) (base g cap : Nat) (T : List Te) (id : Int) (i j : Nat) (wr : World) : Prop := ∃ X : List Te, X.length = T.length ∧ X.take i = (T.take j).filter (keepT id) ∧ i < j ∧ X.drop j = T.drop j ∧ wr.ownsRow base 54 3 (.slice (some ⟨g, 0, none⟩) T.length cap) T.length (cellsT X) ∧ w.grownBy wr (some g)
theorem dfI_start {w : World} {base g cap : Nat} {T : List Te} {id : Int} {k : Nat} {t : Te} {W : World} (hO : w.ownsRow base 54 3 (.slice (some ⟨g, 0, none⟩) T.length cap) T.length (cellsT T)) (hk : T[k]? = some t) (ht : t.end id = true) (ha : ∀ x ∈ T.take k, x.end id = false) (hB : Below w.heap.size w W) : DfI w base g cap T id k (k + 1) W := by
  refine ⟨T, rfl, ?_, Nat.lt_succ_self _, rfl, own_kt hO (.of_below hB), grown_of_below hB _⟩
  have e : T.take (k + 1) = T.take k ++ [t] := by
    obtain ⟨h, rfl⟩ := List.getElem?_eq_some_iff.1 hk
    rw [List.take_succ_eq_append_getElem h]
  rw [e, List.filter_append, List.filter_eq_self.2 (fun x hx => by simp [keepT, ha x hx])]
  simp [keepT, ht]
theorem dfI_skip {w : World} {base g cap : Nat} {T : List Te} {id : Int} {i j : Nat} {t : Te} {wr W : World} (h : DfI w base g cap T id i j wr) (hj : T[j]? = some t) (ht : t.end id = true) (hB : Below wr.heap.size wr W) : DfI w base g cap T id i (j + 1) W := by
  obtain ⟨X, x1, x2, x3, x4, x5, x6⟩ := h
  refine ⟨X, x1, ?_, by omega, ?_, own_kt x5 (.of_below hB), grown_trans x6 (grown_of_below hB _)⟩
  · have e : T.take (j + 1) = T.take j ++ [t] := by
      obtain ⟨h, rfl⟩ := List.getElem?_eq_some_iff.1 hj
      rw [List.take_succ_eq_append_getElem h]
    rw [e, List.filter_append, x2]
    simp [keepT, ht]
  · rw [show j + 1 = j + 1 from rfl, ← List.drop_drop, x4, List.drop_drop]
theorem dfI_keep {w : World} {base g cap : Nat} {T : List Te} {id : Int} {i j : Nat} {t : Te} {wr W : World} (h : DfI w base g cap T id i j wr) (hj : T[j]? = some t) (ht : t.end id = false) (hB : Below wr.heap.size wr W) :
    DfI w base g cap T id (i + 1) (j + 1) (((W.setCell ⟨g, i * 3, none⟩ (.string t.bd)).setCell ⟨g, i * 3 + 1, none⟩ (.int .i64 t.fr)).setCell ⟨g, i * 3 + 2, none⟩ (.int .i64 t.tt)) := by
  obtain ⟨X, x1, x2, x3, x4, x5, x6⟩ := h
  have hjl := (List.getElem?_eq_some_iff.1 hj).1
  have hi : i < X.length := by omega
  have o2 := own_kt x5 (Kt.of_below hB)
  obtain ⟨s1, t1⟩ := World.ownsRow.stored o2 (i * 3) (.string t.bd)
  obtain ⟨s2, t2⟩ := World.ownsRow.stored s1 (i * 3 + 1) (.int .i64 t.fr)
  obtain ⟨s3, t3⟩ := World.ownsRow.stored s2 (i * 3 + 2) (.int .i64 t.tt)
  rw [cellsT_set X i hi t] at s3
  refine ⟨X.set i t, by simpa using x1, ?_, by omega, ?_, s3, grown_trans x6 (grown_trans (grown_of_below hB _) (grown_trans t1 (grown_trans t2 t3)))⟩
  · have e : T.take (j + 1) = T.take j ++ [t] := by
      obtain ⟨h, rfl⟩ := List.getElem?_eq_some_iff.1 hj
      rw [List.take_succ_eq_append_getElem h]
    have hi' : i < (X.set i t).length := by simpa using hi
    rw [e, List.filter_append, ← x2, List.take_succ_eq_append_getElem hi', List.take_set_of_le (Nat.le_refl _)]
    simp [keepT, ht]
  · rw [List.drop_set_of_lt (by omega), show j + 1 = j + 1 from rfl, ← List.drop_drop, x4, List.drop_drop]
theorem dfI_end {w : World} {base g cap : Nat} {T : List Te} {id : Int} {i : Nat} {wr : World} (h : DfI w base g cap T id i T.length wr) : i = (T.filter (keepT id)).length ∧ i < T.length := by
  obtain ⟨X, x1, x2, x3, x4, x5, x6⟩ := h
  rw [List.take_length] at x2
  refine ⟨?_, x3⟩
  rw [← x2, List.length_take_of_le (by omega)]

set_option maxHeartbeats 4000000 in
set_option maxRecDepth 100000 in
theorem deleteFunc_own {w : World} {base g cap : Nat} {T : List Te} (h : w.ownsRow base 54 3 (.slice (some ⟨g, 0, none⟩) T.length cap) T.length (cellsT T)) (hn : T.length ≤ 1000) (p : Nat) (id : Int) (hp : p < w.heap.size) (hc : w.cell? ⟨p, 0, none⟩ = some (.int .i64 id)) (hne : g ≠ p) :
    Calls Tryz.prog 110 #[.slice (some ⟨g, 0, none⟩) T.length cap, .func (.func 111) #[] #[.pointer (some ⟨p, 0, none⟩)]] w fun e w' => e = .returned (.slice (some ⟨g, 0, none⟩) (T.filter (keepT id)).length cap) ∧ w'.ownsRow base 54 3 (.slice (some ⟨g, 0, none⟩) (T.filter (keepT id)).length cap) (T.filter (keepT id)).length (cellsT (T.filter (keepT id))) ∧ w.grownBy w' (some g) := by
  have hIT : IsT w (.slice (some ⟨g, 0, none⟩) T.length cap) T := own_isT h
  have hle : T.length ≤ cap ∧ cap ≤ maxLen := by
    rcases h.2 with ⟨e, _⟩ | ⟨g', cap', cur, e, _, _, h1, h2, _⟩
    · cases e
    · injection e with _ _ e3; subst e3; exact ⟨h1, h2⟩
  have ci : Calls Tryz.prog 141 #[.slice (some ⟨g, 0, none⟩) T.length cap, .func (.func 111) #[] #[.pointer (some ⟨p, 0, none⟩)]] w fun e w' => e = .returned (.int .i64 (idxT id T 0)) ∧ Below w.heap.size w w' := by
    obtain ⟨ao, c, e, _, hT⟩ := hIT
    injection e with e1 e2 e3
    subst e1; subst e3
    exact indexT_any hT hn p id hp hc
  have HO : Hid (w.ownsRow base 54 3 (.slice (some ⟨g, 0, none⟩) T.length cap) T.length (cellsT T)) := h
  rcases idxT_spec id T 0 with ⟨e1, ha⟩ | ⟨k, t, hk, e1, ht, ha⟩
  · have hf : T.filter (keepT id) = T := List.filter_eq_self.2 (fun x hx => by simp [keepT, ha x hx])
    rw [hf]
    rw [e1] at ci
    clear h hIT e1 ha hf
    go_enter Tryz.func110, Tryz.ntmps110
    go_wp2_with (go_at_call 141; refine ci.mono ?_; rintro e W1 ⟨rfl, hB1⟩)
    go_ret
    exact ⟨rfl, own_kt HO.out (.of_below hB1), grown_of_below hB1 _⟩
  · rw [e1] at ci
    have hkl := (List.getElem?_eq_some_iff.1 hk).1
    have HK : Hid (T[k]? = some t ∧ t.end id = true ∧ (∀ x ∈ T.take k, x.end id = false)) := ⟨hk, ht, ha⟩
    have hk1 : ((0 + k : Nat) : Int) = (k : Int) := by simp
    rw [hk1] at ci
    have hkm : ((k : Int) == -1) = false := beq_eq_false_iff_ne.2 (by omega)
    clear h hIT e1 hk ht ha hk1
    go_enter Tryz.func110, Tryz.ntmps110
    go_wp2_with (go_at_call 141; refine ci.mono ?_; rintro e W1 ⟨rfl, hB1⟩)
    go_loopw [5, 6] (fun i j wr => ∃ a b : Nat, b ≤ T.length ∧ i = .int .i64 a ∧ j = .int .i64 b ∧ DfI w base g cap T id a b wr) (fun i j _ => T.length - (intOf j).toNat)
    case atStart => exact ⟨k, k + 1, hkl, rfl, by go_num, dfI_start HO.out HK.out.1 HK.out.2.1 HK.out.2.2 hB1⟩
    case round =>
      obtain ⟨a, b, hb, rfl, rfl, hD⟩ := hrel
      have HD : Hid (DfI w base g cap T id a b wr) := hD
      by_cases hlt : b < T.length
      · obtain ⟨t, hj⟩ : ∃ t, T[b]? = some t := ⟨T[b], by simp [hlt]⟩
        obtain ⟨X, x1, x2, x3, x4, x5, x6⟩ := hD
        have hX : X[b]? = some t := by
          have : (X.drop b)[0]? = (T.drop b)[0]? := by rw [x4]
          simpa [hj] using this
        have ce : ∀ i u, i < 3 → t.cells[i]? = some u → wr.cell? ⟨g, b * 3 + i, none⟩ = some u := fun i u hi hu => by
          have := World.ownsRow.cells x5 rfl (b * 3 + i) u ((flatK te_len X b t i hX hi).trans hu)
          rwa [Addr.add_lit, Nat.zero_add] at this
        have d0 : wr.cell? ⟨g, b * 3, none⟩ = some (.string t.bd) := ce 0 _ (by omega) rfl
        have d1 : wr.cell? ⟨g, b * 3 + 1, none⟩ = some (.int .i64 t.fr) := ce 1 _ (by omega) rfl
        have d2 : wr.cell? ⟨g, b * 3 + 2, none⟩ = some (.int .i64 t.tt) := ce 2 _ (by omega) rfl
        have ff : ∀ i, wr.frozen? ⟨g, i, none⟩ = false := fun i => World.ownsRow.frozenAt x5 i
        have hgw : g < wr.heap.size := (World.ownsRow.lt x5 g rfl).2
        have hpc : wr.cell? ⟨p, 0, none⟩ = some (.int .i64 id) := x6.cell hc (by simp; exact fun e => hne e.symm)
        have hpw : p < wr.heap.size := cell_lt hpc
        have ac : ∀ i, i < 3 → ∃ u, wr.cell? ⟨g, a * 3 + i, none⟩ = some u := fun i hi => by
          have hal : a < X.length := by omega
          have := World.ownsRow.cellAt x5 (a * 3 + i) (by omega)
          rw [this]
          have hlen : (cellsT X).length = X.length * 3 := flatK_len te_len X
          exact ⟨(cellsT X)[a * 3 + i]'(by rw [hlen]; omega), by simp⟩
        obtain ⟨v0, b0⟩ := ac 0 (by omega)
        obtain ⟨v1, b1⟩ := ac 1 (by omega)
        obtain ⟨v2, b2⟩ := ac 2 (by omega)
        rw [Nat.add_zero] at b0
        have hBa : Below wr.heap.size wr (wr.alloc (.cells #[.string t.bd, .int .i64 t.fr, .int .i64 t.tt] 54)) := b_alloc (Below.refl _ _) _
        have cf := drop1_any t p id (wr.alloc (.cells #[.string t.bd, .int .i64 t.fr, .int .i64 t.tt] 54)) (Nat.lt_of_lt_of_le hpw hBa.size) ((hBa.cell hpw).trans hpc)
        have HB : Hid (Below wr.heap.size wr (wr.alloc (.cells #[.string t.bd, .int .i64 t.fr, .int .i64 t.tt] 54)) ∧ (∀ W2, Below (wr.alloc (.cells #[.string t.bd, .int .i64 t.fr, .int .i64 t.tt] 54)).heap.size (wr.alloc (.cells #[.string t.bd, .int .i64 t.fr, .int .i64 t.tt] 54)) W2 → (W2.cell? ⟨g, a * 3, none⟩ = some v0 ∧ W2.cell? ⟨g, a * 3 + 1, none⟩ = some v1 ∧ W2.cell? ⟨g, a * 3 + 2, none⟩ = some v2) ∧ (W2.frozen? ⟨g, a * 3, none⟩ = false ∧ W2.frozen? ⟨g, a * 3 + 1, none⟩ = false ∧ W2.frozen? ⟨g, a * 3 + 2, none⟩ = false) ∧ (W2.cell? ⟨wr.heap.size, 0, none⟩ = some (.string t.bd) ∧ W2.cell? ⟨wr.heap.size, 1, none⟩ = some (.int .i64 t.fr) ∧ W2.cell? ⟨wr.heap.size, 2, none⟩ = some (.int .i64 t.tt)))) := ⟨hBa, fun W2 h2 => by
          have hb2 := on1K hBa h2 (Nat.le_refl _)
          have hnw := (h2.block wr.heap.size (by simp)).trans (heap_alloc_new wr _)
          exact ⟨⟨(hb2.cell hgw).trans b0, (hb2.cell hgw).trans b1, (hb2.cell hgw).trans b2⟩, ⟨(hb2.frozen hgw).trans (ff _), (hb2.frozen hgw).trans (ff _), (hb2.frozen hgw).trans (ff _)⟩, cell_at hnw rfl, cell_at hnw rfl, cell_at hnw rfl⟩⟩
        have HJ : Hid (T[b]? = some t) := hj
        have hab : a < b := x3
        clear x1 x2 x3 x4 x5 x6 hX ce ff ac hj hBa b0 b1 b2
        cases he : t.end id with
        | true =>
          rw [he] at cf
          have HE : Hid (∀ W2, Below (wr.alloc (.cells #[.string t.bd, .int .i64 t.fr, .int .i64 t.tt] 54)).heap.size (wr.alloc (.cells #[.string t.bd, .int .i64 t.fr, .int .i64 t.tt] 54)) W2 → DfI w base g cap T id a (b + 1) W2) := fun W2 h2 => dfI_skip HD.out HJ.out he (on1K HB.out.1 h2 (Nat.le_refl _))
          clear he HD HJ HB HK HO
          obtain ⟨bd, fr, tt⟩ := t
          simp only at d0 d1 d2 cf HE
          go_wp2_with (go_at_call 111; refine cf.mono ?_; rintro e W2 ⟨rfl, hB2⟩)
          refine ⟨⟨a, b + 1, hlt, rfl, ?_, HE.out _ hB2⟩, ?_⟩
          · go_num
          · simp [intOf]
            omega
        | false =>
          rw [he] at cf
          have HE : Hid (∀ W2, Below (wr.alloc (.cells #[.string t.bd, .int .i64 t.fr, .int .i64 t.tt] 54)).heap.size (wr.alloc (.cells #[.string t.bd, .int .i64 t.fr, .int .i64 t.tt] 54)) W2 → DfI w base g cap T id (a + 1) (b + 1) (((W2.setCell ⟨g, a * 3, none⟩ (.string t.bd)).setCell ⟨g, a * 3 + 1, none⟩ (.int .i64 t.fr)).setCell ⟨g, a * 3 + 2, none⟩ (.int .i64 t.tt))) := fun W2 h2 => dfI_keep HD.out HJ.out he (on1K HB.out.1 h2 (Nat.le_refl _))
          clear he HD HJ HK HO
          obtain ⟨bd, fr, tt⟩ := t
          simp only at d0 d1 d2 cf HE HB
          have hal : (a : Int) < (T.length : Int) := by omega
          go_wp2_with (go_at_call 111; refine cf.mono ?_; rintro e W2 ⟨rfl, hB2⟩; obtain ⟨⟨q0, q1, q2⟩, ⟨f0, f1, f2⟩, ⟨r0, r1, r2⟩⟩ := HB.out.2 W2 hB2)
          refine ⟨⟨a + 1, b + 1, hlt, ?_, ?_, HE.out _ hB2⟩, ?_⟩
          · go_num
          · go_num
          · simp [intOf]
            omega
      · obtain rfl : b = T.length := by omega
        obtain ⟨hal, hat⟩ := dfI_end hD
        obtain ⟨X, x1, x2, x3, x4, x5, x6⟩ := hD
        obtain ⟨cur, hb0, hg, hcs, htk⟩ : ∃ cur : Array Value, base ≤ g ∧ wr.heap[g]? = some (.cells cur 54 (0, 0)) ∧ cur.size = cap * 3 ∧ cur.toList.take (T.length * 3) = cellsT X := by
          rcases x5.2 with ⟨e, _⟩ | ⟨g', cap', cur, e, h1, h2, h3, h4, h5, h6⟩
          · cases e
          · injection e with e1 _ e3
            injection e1 with e1; injection e1 with e1
            subst e1; subst e3
            exact ⟨cur, h1, h2, h5, h6⟩
        have hcl : cur.toList.length = cap * 3 := by simpa using hcs
        obtain ⟨W2, hW2⟩ : ∃ W2, W2 = wr.setRow g (cur.toList.take (a * 3) ++ (Builtin.zeroCells #[.string ⟨#[]⟩, .int .i64 0, .int .i64 0] (T.length - a)).toList ++ cur.toList.drop (a * 3 + (T.length - a) * 3)).toArray := ⟨_, rfl⟩
        have hclr : ∀ ty c, (Builtin.clear_ #[27] ty #[.slice (some ⟨g, a * 3, none⟩) (T.length - a) c]).run Tryz.prog wr = .ok (.tuple #[]) W2 := fun ty c => by
          have := run_clear_row wr 27 54 ty (.agg #[.string ⟨#[]⟩, .int .i64 0, .int .i64 0]) Tryz.underlying27 Tryz.zeroValue54 g (a * 3) (T.length - a) c (by omega) cur hg (by simp [Value.cells, hcs]; omega) (zero3_one rfl rfl rfl _)
          rw [hW2]
          exact this
        have hz3 : (Builtin.zeroCells #[.string ⟨#[]⟩, .int .i64 0, .int .i64 0] (T.length - a)).toList.length = (T.length - a) * 3 := by simp [Builtin.zeroCells]
        have HF : Hid (a = (T.filter (keepT id)).length ∧ W2.ownsRow base 54 3 (.slice (some ⟨g, 0, none⟩) a cap) a (cellsT (T.filter (keepT id))) ∧ w.grownBy W2 (some g)) := by
          have hca : cellsT (T.filter (keepT id)) = (cellsT X).take (a * 3) := by
            rw [List.take_length] at x2
            rw [← x2]; unfold cellsT; rw [flatK_take te_len]
          refine ⟨hal, ⟨?_, .inr ⟨g, cap, _, rfl, hb0, by rw [hW2]; exact setRow_heap wr g cur _ 54 _ hg, by omega, hle.2, by simp [hz3, hcl]; omega, ?_⟩⟩, ?_⟩
          · rw [hca, List.length_take_of_le (by rw [show (cellsT X).length = X.length * 3 from flatK_len te_len X]; omega)]
          · rw [hca, ← htk, List.take_take, Nat.min_eq_left (by omega)]
            simp only [List.append_assoc]
            rw [List.take_append_of_le_length (by simp [hcl]; omega), List.take_take, Nat.min_self]
          · rw [hW2]
            exact grown_trans x6 (setRow_grown wr g _)
        have hac : ¬ cap = a := by omega
        have hi1 : (a : Int) ≤ (T.length : Int) := by omega
        have hi2 : (a : Int) ≤ (cap : Int) := by omega
        clear hal x1 x2 x3 x4 x5 x6 hg hcs htk hcl hW2 hz3 HD HK HO
        go_wp2
        go_ret
        obtain ⟨f1, f2, f3⟩ := HF.out
        rw [← f1]
        exact ⟨rfl, f2, f3⟩
theorem deleteFunc_any {w : World} {base : Nat} {v : Value} {T : List Te} (h : OwnTs w base v T) (hn : T.length ≤ 1000) (p : Nat) (id : Int) (hp : p < w.heap.size) (hc : w.cell? ⟨p, 0, none⟩ = some (.int .i64 id)) (hne : v.ownBlock ≠ some p) :
    Calls Tryz.prog 110 #[v, .func (.func 111) #[] #[.pointer (some ⟨p, 0, none⟩)]] w fun e w' => ∃ v', e = .returned v' ∧ OwnTs w' base v' (T.filter (keepT id)) ∧ w.grownBy w' v.ownBlock := by
  rcases h.2 with ⟨rfl, h0⟩ | ⟨g, cap, cur, rfl, hb, hg, rest⟩
  · obtain rfl : T = [] := List.eq_nil_of_length_eq_zero h0
    have ci : Calls Tryz.prog 141 #[.slice none 0 0, .func (.func 111) #[] #[.pointer (some ⟨p, 0, none⟩)]] w fun e w' => e = .returned (.int .i64 (-1)) ∧ Below w.heap.size w w' := indexT_any (N := []) (cn := 0) (ao := none) (.inl rfl) (by simp) p id hp hc
    clear h h0
    go_enter Tryz.func110, Tryz.ntmps110
    go_wp2_with (go_at_call 141; refine ci.mono ?_; rintro e W1 ⟨rfl, hB1⟩)
    go_ret
    exact ⟨_, rfl, World.ownsRow_nil _ _ _ _, grown_of_below hB1 _⟩
  · refine (deleteFunc_own h hn p id hp hc (fun e => hne (by simp [Value.ownBlock, e]))).mono ?_
    rintro e w' ⟨rfl, h1, h2⟩
    exact ⟨_, rfl, h1, h2⟩
end Go.Proofs.YtifhigajonafdaaGreat

/-
  The walk of delta.dropNode: a graph without one of its nodes, and without the ties that have it as an end.
-/
namespace Go.Proofs.YtifhigajonafdaaGreat
open Go.RowKit
set_option linter.unusedVariables false
set_option linter.unusedSimpArgs false

theorem mem_erase {N : List Nd} {i : Nat} {n : Nd} (h : n ∈ N.eraseIdx i) : n ∈ N := List.mem_of_mem_eraseIdx h

theorem fndN_lt {id : Int} {N : List Nd} (hf : fndN id N = true) : loN id N < N.length := by
  rcases Nat.lt_or_ge (loN id N) N.length with h | h
  · exact h
  · unfold fndN at hf; rw [List.getElem?_eq_none h] at hf; cases hf
set_option maxHeartbeats 4000000 in
set_option maxRecDepth 100000 in
theorem dropNode_no {w : World} {base p : Nat} {N : List Nd} {T : List Te} (h : OG w base p N T) (hs : SrtN N) (h60 : N.length ≤ 96) (id : Int) (hf : fndN id N = false) :
    Calls Tryz.prog 78 #[.pointer (some ⟨p, 0, none⟩), .int .i64 id] w fun e w' => e = .returned (errV 5) ∧ Below w.heap.size w w' := by
  obtain ⟨vn, vt, hbp, hpb, hN, hT⟩ := h
  have hpl : p < w.heap.size := (Array.getElem?_eq_some_iff.1 hpb).1
  obtain ⟨W0, hW0⟩ : ∃ W0, W0 = w.alloc (.cells #[.int .i64 id] 3) := ⟨_, rfl⟩
  have hB0 : Below w.heap.size w W0 := by rw [hW0]; exact b_alloc (Below.refl _ _) _
  have hi0 : W0.heap[w.heap.size]? = some (.cells #[.int .i64 id] 3 (0, 0)) := by rw [hW0]; exact heap_alloc_new w _
  have cF := fun W (hB : Below W0.heap.size W0 W) => findNode_any (hN.isN.on (on1K hB0 hB (Nat.le_refl _))) hs h60 id
  rw [hf] at cF
  obtain ⟨an, cn, hvn⟩ := own_slice hN.1
  obtain ⟨am, cm, hvt⟩ := own_slice hT
  subst hvn hvt
  have hs0 : W0.heap.size = w.heap.size + 1 := by rw [hW0]; simp
  have x0 : W0.cell? ⟨p, 0, none⟩ = some (.slice an N.length cn) := cell_at ((hB0.block p hpl).trans hpb) rfl
  have x1 : W0.cell? ⟨w.heap.size, 0, none⟩ = some (.int .i64 id) := cell_at hi0 rfl
  have HX : Hid (∀ W, Below W0.heap.size W0 W → W.cell? ⟨p, 0, none⟩ = some (.slice an N.length cn) ∧ W.cell? ⟨w.heap.size, 0, none⟩ = some (.int .i64 id)) := fun W hB => ⟨(hB.cell (by show p < _; omega)).trans x0, (hB.cell (by show w.heap.size < _; omega)).trans x1⟩
  have HB : Hid (Below w.heap.size w W0) := hB0
  clear hpb hN hT hB0 hi0 hf hs0
  generalize loN id N = lo at *
  go_enter Tryz.func78, Tryz.ntmps78
  go_wp2
  rw [← hW0]
  clear hW0
  first | (go_region_held (fun w' => w'.cell? ⟨p, 0, none⟩ = some (.slice an N.length cn) ∧ w'.cell? ⟨w.heap.size, 0, none⟩ = some (.int .i64 id)) (go_keep) (first | (go_at_call 107; refine (cF _ (b_drew (Below.refl _ W0))).mono ?_; rintro e W1 ⟨rfl, hB1'⟩; have hB1 := b_undrew hB1'; clear hB1'; obtain ⟨z0, z1⟩ := HX.out W1 hB1))) | fail
  all_goals
    go_wp2
    go_ret
    exact ⟨rfl, on1K HB.out hB1 (Nat.le_refl _)⟩

structure DnW (W : World) (base p q : Nat) (id : Int) (vn vt : Value) (N : List Nd) (T : List Te) : Prop where
  hp : W.heap[p]? = some (.cells #[vn, vt] 29 (0, 0))
  hq : W.heap[q]? = some (.cells #[.int .i64 id] 3 (0, 0))
  hN : OwnNs W base vn N
  hT : OwnTs W base vt T
theorem DnW.on {W W' : World} {base p q : Nat} {id : Int} {vn vt : Value} {N : List Nd} {T : List Te} (h : DnW W base p q id vn vt N T) (hB : Below W.heap.size W W') : DnW W' base p q id vn vt N T :=
  ⟨(hB.block p (Array.getElem?_eq_some_iff.1 h.hp).1).trans h.hp, (hB.block q (Array.getElem?_eq_some_iff.1 h.hq).1).trans h.hq, h.hN.kt (.of_below hB) (.of_below hB), h.hT.kt (.of_below hB)⟩
theorem DnW.nodes {W W' : World} {base p q : Nat} {id : Int} {vn vt vn' : Value} {N N' : List Nd} {T : List Te} (h : DnW W base p q id vn vt N T) (hg : W.grownBy W' vn.ownBlock) (hN : W'.ownsRow base 48 3 vn' N'.length (cellsN N')) (hs : ∀ n ∈ N', n ∈ N) : DnW (W'.setCell ⟨p, 0, none⟩ vn') base p q id vn' vt N' T := by
  have e1 : W'.heap[p]? = some (.cells #[vn, vt] 29 (0, 0)) := (hg.block p (Array.getElem?_eq_some_iff.1 h.hp).1 (fun e => row_apart h.hN.1 h.hp (by decide) e.symm)).trans h.hp
  have e2 : W'.heap[q]? = some (.cells #[.int .i64 id] 3 (0, 0)) := (hg.block q (Array.getElem?_eq_some_iff.1 h.hq).1 (fun e => row_apart h.hN.1 h.hq (by decide) e.symm)).trans h.hq
  have ne : q ≠ p := by
    intro e; subst e; have := h.hq; rw [h.hp] at this; injection this with e1; injection e1 with _ e2; exact absurd e2 (by decide)
  have ty : Ty W' p 29 := ⟨_, e1⟩
  have k29 : Kt 48 W' (W'.setCell ⟨p, 0, none⟩ vn') := (Kt.refl _ _).ty ty (by decide) _ _
  have k31 : Kt 54 W (W'.setCell ⟨p, 0, none⟩ vn') := (Kt.of_own h.hN.1 (by decide) hg).trans ((Kt.refl _ _).ty ty (by decide) _ _)
  have k59 : Kt 52 W (W'.setCell ⟨p, 0, none⟩ vn') := (Kt.of_own h.hN.1 (by decide) hg).trans ((Kt.refl _ _).ty ty (by decide) _ _)
  exact ⟨heap_setCell_same W' p 0 _ 29 vn' e1, (heap_setCell_other W' ⟨p, 0, none⟩ q vn' ne).trans e2, ⟨own_kt hN k29, fun n hn => (h.hN.2 n (hs n hn)).kt k59⟩, h.hT.kt k31⟩
theorem DnW.ties {W W' : World} {base p q : Nat} {id : Int} {vn vt vt' : Value} {N : List Nd} {T T' : List Te} (h : DnW W base p q id vn vt N T) (hg : W.grownBy W' vt.ownBlock) (hT : OwnTs W' base vt' T') : DnW (W'.setCell ⟨p, 1, none⟩ vt') base p q id vn vt' N T' := by
  have e1 : W'.heap[p]? = some (.cells #[vn, vt] 29 (0, 0)) := (hg.block p (Array.getElem?_eq_some_iff.1 h.hp).1 (fun e => row_apart h.hT h.hp (by decide) e.symm)).trans h.hp
  have e2 : W'.heap[q]? = some (.cells #[.int .i64 id] 3 (0, 0)) := (hg.block q (Array.getElem?_eq_some_iff.1 h.hq).1 (fun e => row_apart h.hT h.hq (by decide) e.symm)).trans h.hq
  have ne : q ≠ p := by
    intro e; subst e; have := h.hq; rw [h.hp] at this; injection this with e1; injection e1 with _ e2; exact absurd e2 (by decide)
  have ty : Ty W' p 29 := ⟨_, e1⟩
  have k31 : Kt 54 W' (W'.setCell ⟨p, 1, none⟩ vt') := (Kt.refl _ _).ty ty (by decide) _ _
  have k29 : Kt 48 W (W'.setCell ⟨p, 1, none⟩ vt') := (Kt.of_own h.hT (by decide) hg).trans ((Kt.refl _ _).ty ty (by decide) _ _)
  have k59 : Kt 52 W (W'.setCell ⟨p, 1, none⟩ vt') := (Kt.of_own h.hT (by decide) hg).trans ((Kt.refl _ _).ty ty (by decide) _ _)
  exact ⟨heap_setCell_same W' p 1 _ 29 vt' e1, (heap_setCell_other W' ⟨p, 1, none⟩ q vt' ne).trans e2, h.hN.kt k29 k59, hT.kt k31⟩
theorem DnW.og {W : World} {base p q : Nat} {id : Int} {vn vt : Value} {N : List Nd} {T : List Te} (h : DnW W base p q id vn vt N T) (hb : base ≤ p) : OG W base p N T := ⟨vn, vt, hb, h.hp, h.hN, h.hT⟩
theorem below_row {B base : Nat} {w0 w w' : World} {e : TypeId} {size n : Nat} {v : Value} {xs : List Value} (h : Below B w0 w) (ho : w.ownsRow base e size v n xs) (hg : w.grownBy w' v.ownBlock) (hle : B ≤ base) (hw : B ≤ w.heap.size) : Below B w0 w' :=
  below_grown h hg hw (fun k hk => Nat.le_trans hle (ho.lt k hk).1)

set_option maxHeartbeats 4000000 in
set_option maxRecDepth 100000 in
theorem dropNode_ok {w : World} {base p : Nat} {N : List Nd} {T : List Te} (h : OG w base p N T) (hbw : base ≤ w.heap.size) (hs : SrtN N) (h60 : N.length ≤ 96) (h120 : T.length ≤ 1000) (id : Int) (hf : fndN id N = true) :
    Calls Tryz.prog 78 #[.pointer (some ⟨p, 0, none⟩), .int .i64 id] w fun e w' => e = .returned .nilIface ∧ OG w' base p (N.eraseIdx (loN id N)) (T.filter (keepT id)) ∧ Below base w w' := by
  obtain ⟨vn, vt, hbp, hpb, hN, hT⟩ := h
  have hpl : p < w.heap.size := (Array.getElem?_eq_some_iff.1 hpb).1
  obtain ⟨W0, hW0⟩ : ∃ W0, W0 = w.alloc (.cells #[.int .i64 id] 3) := ⟨_, rfl⟩
  have hB0 : Below w.heap.size w W0 := by rw [hW0]; exact b_alloc (Below.refl _ _) _
  have hi0 : W0.heap[w.heap.size]? = some (.cells #[.int .i64 id] 3 (0, 0)) := by rw [hW0]; exact heap_alloc_new w _
  have hlt := fndN_lt hf
  have cF := fun W (hB : Below W0.heap.size W0 W) => findNode_any (hN.isN.on (on1K hB0 hB (Nat.le_refl _))) hs h60 id
  rw [hf] at cF
  have hD0 : DnW W0 base p w.heap.size id vn vt N T := ⟨(hB0.block p hpl).trans hpb, hi0, hN.kt (.of_below hB0) (.of_below hB0), hT.kt (.of_below hB0)⟩
  obtain ⟨an, cn, hvn⟩ := own_slice hN.1
  obtain ⟨am, cm, hvt⟩ := own_slice hT
  subst hvn hvt
  have hs0 : W0.heap.size = w.heap.size + 1 := by rw [hW0]; simp
  have x0 : W0.cell? ⟨p, 0, none⟩ = some (.slice an N.length cn) := cell_at hD0.hp rfl
  have x1 : W0.cell? ⟨w.heap.size, 0, none⟩ = some (.int .i64 id) := cell_at hi0 rfl
  have HX : Hid (∀ W, Below W0.heap.size W0 W → W.cell? ⟨p, 0, none⟩ = some (.slice an N.length cn) ∧ W.cell? ⟨w.heap.size, 0, none⟩ = some (.int .i64 id)) := fun W hB => ⟨(hB.cell (by show p < _; omega)).trans x0, (hB.cell (by show w.heap.size < _; omega)).trans x1⟩
  have HB : Hid (Below w.heap.size w W0 ∧ DnW W0 base p w.heap.size id (.slice an N.length cn) (.slice am T.length cm) N T) := ⟨hB0, hD0⟩
  clear hpb hN hT hB0 hi0 hf hD0
  generalize loN id N = lo at *
  have hlw : IntKind.i64.wrap ((lo : Int) + 1) = (lo : Int) + 1 := by rw [IntKind.wrap_i64]; omega
  go_enter Tryz.func78, Tryz.ntmps78
  go_wp2
  rw [← hW0]
  clear hW0
  first | (go_region_held (fun w' => w'.cell? ⟨p, 0, none⟩ = some (.slice an N.length cn) ∧ w'.cell? ⟨w.heap.size, 0, none⟩ = some (.int .i64 id)) (go_keep) (first | (go_at_call 107; refine (cF _ (b_drew (Below.refl _ W0))).mono ?_; rintro e W1 ⟨rfl, hB1'⟩; have hB1 := b_undrew hB1'; clear hB1'; obtain ⟨z0, z1⟩ := HX.out W1 hB1))) | fail
  all_goals
    have D1 := HB.out.2.on hB1
    have cD := deleteN_any D1.hN.1 (nd_one D1.hN.sl) (by omega) lo hlt
    have HB1 : Hid (Below w.heap.size w W1 ∧ DnW W1 base p w.heap.size id (.slice an N.length cn) (.slice am T.length cm) N T) := ⟨on1K HB.out.1 hB1 (Nat.le_refl _), D1⟩
    clear D1 hB1 cF HX HB
    go_wp2_with (first | (go_at_call 109; refine cD.mono ?_; rintro e W2 ⟨v2, rfl, ho2, hg2⟩; refine Hid.out ?_))
    refine Lib.hid ?_
    obtain ⟨a2, c2, hv2⟩ := own_slice ho2
    subst hv2
    have D2 := DnW.nodes HB1.out.2 hg2 ho2 (fun n hn => mem_erase hn)
    have hb2 : Below base w W2 := below_row (HB1.out.1.mono hbw) HB1.out.2.hN.1 hg2 (Nat.le_refl _) (Nat.le_trans hbw HB1.out.1.size)
    have hp2 : W2.heap[p]? = some (.cells #[.slice an N.length cn, .slice am T.length cm] 29 (0, 0)) := (hg2.block p (Array.getElem?_eq_some_iff.1 HB1.out.2.hp).1 (fun e => row_apart HB1.out.2.hN.1 HB1.out.2.hp (by decide) e.symm)).trans HB1.out.2.hp
    have hq2 : W2.heap[w.heap.size]? = some (.cells #[.int .i64 id] 3 (0, 0)) := (hg2.block _ (Array.getElem?_eq_some_iff.1 HB1.out.2.hq).1 (fun e => row_apart HB1.out.2.hN.1 HB1.out.2.hq (by decide) e.symm)).trans HB1.out.2.hq
    have y0 : W2.cell? ⟨p, 0, none⟩ = some (.slice an N.length cn) := cell_at hp2 rfl
    have y1 : W2.cell? ⟨p, 1, none⟩ = some (.slice am T.length cm) := cell_at hp2 rfl
    have g0 : W2.frozen? ⟨p, 0, none⟩ = false := frz_at hp2
    have cE := deleteFunc_any D2.hT h120 w.heap.size id (Array.getElem?_eq_some_iff.1 D2.hq).1 (cell_at D2.hq rfl) (row_apart D2.hT D2.hq (by decide))
    have HB2 : Hid (Below base w (W2.setCell ⟨p, 0, none⟩ (.slice a2 (N.eraseIdx lo).length c2)) ∧ DnW (W2.setCell ⟨p, 0, none⟩ (.slice a2 (N.eraseIdx lo).length c2)) base p w.heap.size id (.slice a2 (N.eraseIdx lo).length c2) (.slice am T.length cm) (N.eraseIdx lo) T) := ⟨hb2.setCell hbp _, D2⟩
    generalize (N.eraseIdx lo).length = nl at *
    clear D2 hb2 hp2 hq2 ho2 hg2 cD z0 z1
    go_wp2_with (first | (go_at_call 110; refine cE.mono ?_; rintro e W3 ⟨v3, rfl, ho3, hg3⟩; refine Hid.out ?_))
    refine Lib.hid ?_
    obtain ⟨a3, c3, hv3⟩ := own_slice ho3
    subst hv3
    have D3 := DnW.ties HB2.out.2 hg3 ho3
    have hb3 : Below base w W3 := below_row HB2.out.1 HB2.out.2.hT hg3 (Nat.le_refl _) (Nat.le_trans hbw HB2.out.1.size)
    have hp3 : W3.heap[p]? = some (.cells #[.slice a2 nl c2, .slice am T.length cm] 29 (0, 0)) := (hg3.block p (Array.getElem?_eq_some_iff.1 HB2.out.2.hp).1 (fun e => row_apart HB2.out.2.hT HB2.out.2.hp (by decide) e.symm)).trans HB2.out.2.hp
    have t1 : W3.cell? ⟨p, 1, none⟩ = some (.slice am T.length cm) := cell_at hp3 rfl
    have g1 : W3.frozen? ⟨p, 1, none⟩ = false := frz_at hp3
    have HB3 : Hid (Below base w (W3.setCell ⟨p, 1, none⟩ (.slice a3 (T.filter (keepT id)).length c3)) ∧ DnW (W3.setCell ⟨p, 1, none⟩ (.slice a3 (T.filter (keepT id)).length c3)) base p w.heap.size id (.slice a2 nl c2) (.slice a3 (T.filter (keepT id)).length c3) (N.eraseIdx lo) (T.filter (keepT id))) := ⟨hb3.setCell hbp _, D3⟩
    clear D3 hb3 hp3 ho3 hg3 cE y0 y1 g0
    generalize (T.filter (keepT id)).length = tl at *
    go_wp2
    go_ret
    exact ⟨rfl, HB3.out.2.og hbp, HB3.out.1⟩
end Go.Proofs.YtifhigajonafdaaGreat

/-
  The order of bytes.
-/
namespace Go.Proofs.YtifhigajonafdaaGreat
open Go.RowKit
set_option linter.unusedVariables false
set_option linter.unusedSimpArgs false

theorem cmpB_range (a b : List UInt8) : Lib.compareBytes a b = -1 ∨ Lib.compareBytes a b = 0 ∨ Lib.compareBytes a b = 1 := by
  induction a generalizing b with
  | nil => cases b <;> simp [Lib.compareBytes]
  | cons c r ih =>
    cases b with
    | nil => simp [Lib.compareBytes]
    | cons d q =>
      simp only [Lib.compareBytes]
      split
      · simp
      · split
        · simp
        · exact ih q
theorem cmpB_anti (a b : List UInt8) : Lib.compareBytes b a = -Lib.compareBytes a b := by
  induction a generalizing b with
  | nil => cases b <;> simp [Lib.compareBytes]
  | cons c r ih =>
    cases b with
    | nil => simp [Lib.compareBytes]
    | cons d q =>
      simp only [Lib.compareBytes]
      by_cases h1 : c < d
      · have h2 : ¬ d < c := by rw [UInt8.lt_iff_toNat_lt] at *; omega
        simp [h1, h2]
      · by_cases h2 : d < c
        · simp [h1, h2]
        · simp [h1, h2, ih q]
theorem cmpB_zero (a b : List UInt8) : Lib.compareBytes a b = 0 ↔ a = b := by
  induction a generalizing b with
  | nil => cases b <;> simp [Lib.compareBytes]
  | cons c r ih =>
    cases b with
    | nil => simp [Lib.compareBytes]
    | cons d q =>
      simp only [Lib.compareBytes]
      by_cases h1 : c < d
      · have hne : ¬ c = d := by intro e; rw [e, UInt8.lt_iff_toNat_lt] at h1; omega
        simp [h1, hne]
      · by_cases h2 : d < c
        · have hne : ¬ c = d := by intro e; rw [e, UInt8.lt_iff_toNat_lt] at h2; omega
          simp [h1, h2, hne]
        · have he : c = d := by rw [UInt8.lt_iff_toNat_lt] at h1 h2; exact UInt8.toNat_inj.1 (by omega)
          simp [h1, h2, ih q, he]
theorem cmpB_trans (a b c : List UInt8) (h1 : Lib.compareBytes a b ≤ 0) (h2 : Lib.compareBytes b c ≤ 0) : Lib.compareBytes a c ≤ 0 := by
  induction a generalizing b c with
  | nil => cases c <;> simp [Lib.compareBytes]
  | cons x r ih =>
    cases b with
    | nil => simp [Lib.compareBytes] at h1
    | cons y q =>
      cases c with
      | nil => simp [Lib.compareBytes] at h2
      | cons z p =>
        simp only [Lib.compareBytes] at h1 h2 ⊢
        simp only [UInt8.lt_iff_toNat_lt] at *
        by_cases a1 : x.toNat < y.toNat
        · by_cases b1 : y.toNat < z.toNat
          · rw [if_pos (by omega)]; decide
          · by_cases b2 : z.toNat < y.toNat
            · rw [if_neg b1, if_pos b2] at h2; simp at h2
            · rw [if_pos (by omega)]; decide
        · by_cases a2 : y.toNat < x.toNat
          · rw [if_neg a1, if_pos a2] at h1; simp at h1
          · rw [if_neg a1, if_neg a2] at h1
            by_cases b1 : y.toNat < z.toNat
            · rw [if_pos (by omega)]; decide
            · by_cases b2 : z.toNat < y.toNat
              · rw [if_neg b1, if_pos b2] at h2; simp at h2
              · rw [if_neg b1, if_neg b2] at h2
                rw [if_neg (by omega), if_neg (by omega)]
                exact ih q p h1 h2
theorem less_cmp (a : List UInt8) : ∀ b, Op.bytesLess a b = decide (Lib.compareBytes a b < 0) := by
  induction a with
  | nil => intro b; cases b <;> simp [Op.bytesLess, Lib.compareBytes]
  | cons c r ih =>
    intro b
    cases b with
    | nil => simp [Op.bytesLess, Lib.compareBytes]
    | cons d q =>
      simp only [Op.bytesLess, Lib.compareBytes]
      by_cases h1 : c < d
      · simp [h1]
      · by_cases h2 : d < c
        · have hne : ¬ c = d := by intro e; rw [e, UInt8.lt_iff_toNat_lt] at h2; omega
          simp [h1, h2, hne]
        · have he : c = d := by rw [UInt8.lt_iff_toNat_lt] at h1 h2; exact UInt8.toNat_inj.1 (by omega)
          simp [h1, h2, he, ih q]
end Go.Proofs.YtifhigajonafdaaGreat
