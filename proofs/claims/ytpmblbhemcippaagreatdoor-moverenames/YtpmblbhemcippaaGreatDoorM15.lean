/-
  slices.DeleteFunc of properties, with the test of move.drop; move.drop.
-/
import Derived.Test.YtpmblbhemcippaaGreatDoorM06
import Derived.Test.YtpmblbhemcippaaGreatDoorM14
import Derived.Deep.RegionHeld3
import Derived.Test.YtpmblbhemcippaaGreatDoorM10
import Derived.Shelf.SlSortCmp.WholeK
import Derived.Shelf.SlSortCmp.NoneTotal
import Derived.Shelf.SlGeneric
import Derived.Ground.SlsfProg
import Derived.Lib.OwnBridge
namespace Go.Proofs.YtpmblbhemcippaaGreatDoor
open Go.RowKit
set_option linter.unusedVariables false
set_option linter.unusedSimpArgs false

theorem zero4_one {a b c d : Value} (ha : a.oneCell' = true) (hb : b.oneCell' = true) (hc : c.oneCell' = true) (hd : d.oneCell' = true) (n : Nat) : ∀ u ∈ (Builtin.zeroCells #[a, b, c, d] n).toList, u.oneCell' = true := by
  intro u hu
  simp [Builtin.zeroCells] at hu
  obtain ⟨i, _, rfl⟩ := hu
  have h3 : i % 4 = 0 ∨ i % 4 = 1 ∨ i % 4 = 2 ∨ i % 4 = 3 := by omega
  rcases h3 with h | h | h | h <;> simp [h, ha, hb, hc, hd]
theorem set4 {l : List Value} {k : Nat} (a b c d : Value) (h : k + 3 < l.length) : (((l.set k a).set (k + 1) b).set (k + 2) c).set (k + 3) d = l.take k ++ [a, b, c, d] ++ l.drop (k + 4) := by
  apply List.ext_getElem?
  intro i
  simp only [List.getElem?_set, List.getElem?_append, List.length_append, List.length_take, List.length_cons, List.length_nil, List.getElem?_take, List.getElem?_drop, List.length_set]
  by_cases h1 : i < k
  · rw [if_neg (by omega), if_neg (by omega), if_neg (by omega), if_neg (by omega), if_pos (by omega), if_pos (by omega), if_pos h1]
  by_cases h2 : i = k
  · subst h2; rw [if_neg (by omega), if_neg (by omega), if_neg (by omega), if_pos rfl, if_pos (by omega), if_pos (by omega), if_neg (by omega), show i - min i l.length = 0 by omega]; rfl
  by_cases h3 : i = k + 1
  · subst h3; rw [if_neg (by omega), if_neg (by omega), if_pos rfl, if_pos (by omega), if_pos (by omega), if_neg (by omega), show k + 1 - min k l.length = 1 by omega]; rfl
  by_cases h4 : i = k + 2
  · subst h4; rw [if_neg (by omega), if_pos rfl, if_pos (by omega), if_pos (by omega), if_neg (by omega), show k + 2 - min k l.length = 2 by omega]; rfl
  by_cases h5 : i = k + 3
  · subst h5; rw [if_pos rfl, if_pos (by omega), if_pos (by omega), if_neg (by omega), show k + 3 - min k l.length = 3 by omega]; rfl
  · rw [if_neg (by omega), if_neg (by omega), if_neg (by omega), if_neg (by omega), if_neg (by omega), show k + 4 + (i - (min k l.length + 4)) = i by omega]
def keepP (id : ByteArray) (t : Pr) : Bool := !t.is id
theorem cellsR_set (M : List Pr) (k : Nat) (hk : k < M.length) (t : Pr) : ((((cellsR M).set (k * 4) (.string t.nm)).set (k * 4 + 1) (.int .i64 t.t)).set (k * 4 + 2) (.int .i64 t.n)).set (k * 4 + 3) (.string t.s) = cellsR (M.set k t) := by
  have hl : (cellsR M).length = M.length * 4 := flatK_len pr_len M
  rw [set4 _ _ _ _ (by rw [hl]; omega)]
  unfold cellsR
  rw [flatK_set pr_len M k _ hk, show (k + 1) * 4 = k * 4 + 4 by omega]
  rfl
def DhI (w : World) (base g cap : Nat) (T : List Pr) (id : ByteArray) (i j : Nat) (wr : World) : Prop := ∃ X : List Pr, X.length = T.length ∧ X.take i = (T.take j).filter (keepP id) ∧ i < j ∧ X.drop j = T.drop j ∧ wr.ownsRow base 62 4 (.slice (some ⟨g, 0, none⟩) T.length cap) T.length (cellsR X) ∧ w.grownBy wr (some g)
theorem dhI_start {w : World} {base g cap : Nat} {T : List Pr} {id : ByteArray} {k : Nat} {t : Pr} {W : World} (hO : w.ownsRow base 62 4 (.slice (some ⟨g, 0, none⟩) T.length cap) T.length (cellsR T)) (hk : T[k]? = some t) (ht : t.is id = true) (ha : ∀ x ∈ T.take k, x.is id = false) (hB : Below w.heap.size w W) : DhI w base g cap T id k (k + 1) W := by
  refine ⟨T, rfl, ?_, Nat.lt_succ_self _, rfl, own_kt hO (.of_below hB), grown_of_below hB _⟩
  have e : T.take (k + 1) = T.take k ++ [t] := by
    obtain ⟨h, rfl⟩ := List.getElem?_eq_some_iff.1 hk
    rw [List.take_succ_eq_append_getElem h]
  rw [e, List.filter_append, List.filter_eq_self.2 (fun x hx => by simp [keepP, ha x hx])]
  simp [keepP, ht]
theorem dhI_skip {w : World} {base g cap : Nat} {T : List Pr} {id : ByteArray} {i j : Nat} {t : Pr} {wr W : World} (h : DhI w base g cap T id i j wr) (hj : T[j]? = some t) (ht : t.is id = true) (hB : Below wr.heap.size wr W) : DhI w base g cap T id i (j + 1) W := by
  obtain ⟨X, x1, x2, x3, x4, x5, x6⟩ := h
  refine ⟨X, x1, ?_, by omega, ?_, own_kt x5 (.of_below hB), grown_trans x6 (grown_of_below hB _)⟩
  · have e : T.take (j + 1) = T.take j ++ [t] := by
      obtain ⟨h, rfl⟩ := List.getElem?_eq_some_iff.1 hj
      rw [List.take_succ_eq_append_getElem h]
    rw [e, List.filter_append, x2]
    simp [keepP, ht]
  · rw [show j + 1 = j + 1 from rfl, ← List.drop_drop, x4, List.drop_drop]
theorem dhI_keep {w : World} {base g cap : Nat} {T : List Pr} {id : ByteArray} {i j : Nat} {t : Pr} {wr W : World} (h : DhI w base g cap T id i j wr) (hj : T[j]? = some t) (ht : t.is id = false) (hB : Below wr.heap.size wr W) :
    DhI w base g cap T id (i + 1) (j + 1) ((((W.setCell ⟨g, i * 4, none⟩ (.string t.nm)).setCell ⟨g, i * 4 + 1, none⟩ (.int .i64 t.t)).setCell ⟨g, i * 4 + 2, none⟩ (.int .i64 t.n)).setCell ⟨g, i * 4 + 3, none⟩ (.string t.s)) := by
  obtain ⟨X, x1, x2, x3, x4, x5, x6⟩ := h
  have hjl := (List.getElem?_eq_some_iff.1 hj).1
  have hi : i < X.length := by omega
  have o2 := own_kt x5 (Kt.of_below hB)
  obtain ⟨s1, t1⟩ := World.ownsRow.stored o2 (i * 4) (.string t.nm)
  obtain ⟨s2, t2⟩ := World.ownsRow.stored s1 (i * 4 + 1) (.int .i64 t.t)
  obtain ⟨s3, t3⟩ := World.ownsRow.stored s2 (i * 4 + 2) (.int .i64 t.n)
  obtain ⟨s4, t4⟩ := World.ownsRow.stored s3 (i * 4 + 3) (.string t.s)
  rw [cellsR_set X i hi t] at s4
  refine ⟨X.set i t, by simpa using x1, ?_, by omega, ?_, s4, grown_trans x6 (grown_trans (grown_of_below hB _) (grown_trans t1 (grown_trans t2 (grown_trans t3 t4))))⟩
  · have e : T.take (j + 1) = T.take j ++ [t] := by
      obtain ⟨h, rfl⟩ := List.getElem?_eq_some_iff.1 hj
      rw [List.take_succ_eq_append_getElem h]
    have hi' : i < (X.set i t).length := by simpa using hi
    rw [e, List.filter_append, ← x2, List.take_succ_eq_append_getElem hi', List.take_set_of_le (Nat.le_refl _)]
    simp [keepP, ht]
  · rw [List.drop_set_of_lt (by omega), show j + 1 = j + 1 from rfl, ← List.drop_drop, x4, List.drop_drop]
theorem dhI_end {w : World} {base g cap : Nat} {T : List Pr} {id : ByteArray} {i : Nat} {wr : World} (h : DhI w base g cap T id i T.length wr) : i = (T.filter (keepP id)).length ∧ i < T.length := by
  obtain ⟨X, x1, x2, x3, x4, x5, x6⟩ := h
  rw [List.take_length] at x2
  refine ⟨?_, x3⟩
  rw [← x2, List.length_take_of_le (by omega)]

set_option maxHeartbeats 4000000 in
set_option maxRecDepth 100000 in
theorem deleteP_own {w : World} {base g cap : Nat} {T : List Pr} (h : w.ownsRow base 62 4 (.slice (some ⟨g, 0, none⟩) T.length cap) T.length (cellsR T)) (hn : T.length ≤ 8) (p : Nat) (id : ByteArray) (hp : p < w.heap.size) (hc : w.cell? ⟨p, 0, none⟩ = some (.string id)) (hne : g ≠ p) :
    Calls Tryz.prog 85 #[.slice (some ⟨g, 0, none⟩) T.length cap, .func (.func 86) #[] #[.pointer (some ⟨p, 0, none⟩)]] w fun e w' => e = .returned (.slice (some ⟨g, 0, none⟩) (T.filter (keepP id)).length cap) ∧ w'.ownsRow base 62 4 (.slice (some ⟨g, 0, none⟩) (T.filter (keepP id)).length cap) (T.filter (keepP id)).length (cellsR (T.filter (keepP id))) ∧ w.grownBy w' (some g) := by
  have hIR : IsR w (.slice (some ⟨g, 0, none⟩) T.length cap) T := OwnRc.isR h
  have hle : T.length ≤ cap ∧ cap ≤ maxLen := by
    rcases h.2 with ⟨e, _⟩ | ⟨g', cap', cur, e, _, _, h1, h2, _⟩
    · cases e
    · injection e with _ _ e3; subst e3; exact ⟨h1, h2⟩
  have ci := dindex_any hIR hn p id hp hc
  have HO : Hid (w.ownsRow base 62 4 (.slice (some ⟨g, 0, none⟩) T.length cap) T.length (cellsR T)) := h
  rcases idxP_spec3 id T 0 with ⟨e1, ha⟩ | ⟨k, t, hk, e1, ht, ha⟩
  · have hf : T.filter (keepP id) = T := List.filter_eq_self.2 (fun x hx => by simp [keepP, ha x hx])
    rw [hf]
    rw [e1] at ci
    clear h hIR e1 ha hf
    go_enter Tryz.func85, Tryz.ntmps85
    go_wp2_with (go_at_call 33; refine ci.mono ?_; rintro e W1 ⟨rfl, hB1⟩)
    go_ret
    exact ⟨rfl, own_kt HO.out (.of_below hB1), grown_of_below hB1 _⟩
  · rw [e1] at ci
    have hkl := (List.getElem?_eq_some_iff.1 hk).1
    have HK : Hid (T[k]? = some t ∧ t.is id = true ∧ (∀ x ∈ T.take k, x.is id = false)) := ⟨hk, ht, ha⟩
    have hk1 : ((0 + k : Nat) : Int) = (k : Int) := by simp
    rw [hk1] at ci
    have hkm : ((k : Int) == -1) = false := beq_eq_false_iff_ne.2 (by omega)
    clear h hIR e1 hk ht ha hk1
    go_enter Tryz.func85, Tryz.ntmps85
    go_wp2_with (go_at_call 33; refine ci.mono ?_; rintro e W1 ⟨rfl, hB1⟩)
    go_loopw [5, 6] (fun i j wr => ∃ a b : Nat, b ≤ T.length ∧ i = .int .i64 a ∧ j = .int .i64 b ∧ DhI w base g cap T id a b wr) (fun i j _ => T.length - (intOf j).toNat)
    case atStart => exact ⟨k, k + 1, hkl, rfl, by go_num, dhI_start HO.out HK.out.1 HK.out.2.1 HK.out.2.2 hB1⟩
    case round =>
      obtain ⟨a, b, hb, rfl, rfl, hD⟩ := hrel
      have HD : Hid (DhI w base g cap T id a b wr) := hD
      by_cases hlt : b < T.length
      · obtain ⟨t, hj⟩ : ∃ t, T[b]? = some t := ⟨T[b], by simp [hlt]⟩
        obtain ⟨X, x1, x2, x3, x4, x5, x6⟩ := hD
        have hX : X[b]? = some t := by
          have : (X.drop b)[0]? = (T.drop b)[0]? := by rw [x4]
          simpa [hj] using this
        have ce : ∀ i u, i < 4 → t.cells[i]? = some u → wr.cell? ⟨g, b * 4 + i, none⟩ = some u := fun i u hi hu => by
          have := World.ownsRow.cells x5 rfl (b * 4 + i) u ((flatK pr_len X b t i hX hi).trans hu)
          rwa [Addr.add_lit, Nat.zero_add] at this
        have d0 : wr.cell? ⟨g, b * 4, none⟩ = some (.string t.nm) := ce 0 _ (by omega) rfl
        have d1 : wr.cell? ⟨g, b * 4 + 1, none⟩ = some (.int .i64 t.t) := ce 1 _ (by omega) rfl
        have d2 : wr.cell? ⟨g, b * 4 + 2, none⟩ = some (.int .i64 t.n) := ce 2 _ (by omega) rfl
        have d3 : wr.cell? ⟨g, b * 4 + 3, none⟩ = some (.string t.s) := ce 3 _ (by omega) rfl
        have ff : ∀ i, wr.frozen? ⟨g, i, none⟩ = false := fun i => World.ownsRow.frozenAt x5 i
        have hgw : g < wr.heap.size := (World.ownsRow.lt x5 g rfl).2
        have hpc : wr.cell? ⟨p, 0, none⟩ = some (.string id) := x6.cell hc (by simp; exact fun e => hne e.symm)
        have hpw : p < wr.heap.size := cell_lt hpc
        have ac : ∀ i, i < 4 → ∃ u, wr.cell? ⟨g, a * 4 + i, none⟩ = some u := fun i hi => by
          have hal : a < X.length := by omega
          have := World.ownsRow.cellAt x5 (a * 4 + i) (by omega)
          rw [this]
          have hlen : (cellsR X).length = X.length * 4 := flatK_len pr_len X
          exact ⟨(cellsR X)[a * 4 + i]'(by rw [hlen]; omega), by simp⟩
        obtain ⟨v0, b0⟩ := ac 0 (by omega)
        obtain ⟨v1, b1⟩ := ac 1 (by omega)
        obtain ⟨v2, b2⟩ := ac 2 (by omega)
        obtain ⟨v3, b3⟩ := ac 3 (by omega)
        rw [Nat.add_zero] at b0
        obtain ⟨nm, tp, n, s⟩ := t
        simp only at d0 d1 d2 d3
        obtain ⟨W0, hW0⟩ : ∃ W0, W0 = wr.alloc (.cells #[.string nm, .int .i64 tp, .int .i64 n, .string s] 62) := ⟨_, rfl⟩
        have hBa : Below wr.heap.size wr W0 := by rw [hW0]; exact b_alloc (Below.refl _ _) _
        have hn0 : W0.heap[wr.heap.size]? = some (.cells #[.string nm, .int .i64 tp, .int .i64 n, .string s] 62 (0, 0)) := by rw [hW0]; exact heap_alloc_new wr _
        have cf := disName_any ⟨nm, tp, n, s⟩ p id W0 ((hBa.cell hpw).trans hpc) (Nat.lt_of_lt_of_le hpw hBa.size)
        have HB : Hid (∀ W2, Below W0.heap.size W0 W2 → (W2.cell? ⟨g, a * 4, none⟩ = some v0 ∧ W2.cell? ⟨g, a * 4 + 1, none⟩ = some v1 ∧ W2.cell? ⟨g, a * 4 + 2, none⟩ = some v2 ∧ W2.cell? ⟨g, a * 4 + 3, none⟩ = some v3) ∧ (W2.frozen? ⟨g, a * 4, none⟩ = false ∧ W2.frozen? ⟨g, a * 4 + 1, none⟩ = false ∧ W2.frozen? ⟨g, a * 4 + 2, none⟩ = false ∧ W2.frozen? ⟨g, a * 4 + 3, none⟩ = false) ∧ (W2.cell? ⟨wr.heap.size, 0, none⟩ = some (.string nm) ∧ W2.cell? ⟨wr.heap.size, 1, none⟩ = some (.int .i64 tp) ∧ W2.cell? ⟨wr.heap.size, 2, none⟩ = some (.int .i64 n) ∧ W2.cell? ⟨wr.heap.size, 3, none⟩ = some (.string s))) := fun W2 h2 => by
          have hb2 := on1K hBa h2 (Nat.le_refl _)
          have hnw := (h2.block wr.heap.size (Array.getElem?_eq_some_iff.1 hn0).1).trans hn0
          exact ⟨⟨(hb2.cell hgw).trans b0, (hb2.cell hgw).trans b1, (hb2.cell hgw).trans b2, (hb2.cell hgw).trans b3⟩, ⟨(hb2.frozen hgw).trans (ff _), (hb2.frozen hgw).trans (ff _), (hb2.frozen hgw).trans (ff _), (hb2.frozen hgw).trans (ff _)⟩, cell_at hnw rfl, cell_at hnw rfl, cell_at hnw rfl, cell_at hnw rfl⟩
        have HJ : Hid (T[b]? = some ⟨nm, tp, n, s⟩) := hj
        have hab : a < b := x3
        have HBa := Lib.hid hBa
        have hal : (a : Int) < (T.length : Int) := by omega
        clear x1 x2 x3 x4 x5 x6 hX ce ff ac hj hBa b0 b1 b2 b3 hn0
        cases he : Pr.is ⟨nm, tp, n, s⟩ id with
        | true =>
          have hq : (nm.toList == id.toList) = true := he
          rw [hq] at cf
          have HE : Hid (∀ W2, Below W0.heap.size W0 W2 → DhI w base g cap T id a (b + 1) W2) := fun W2 h2 => dhI_skip (t := ⟨nm, tp, n, s⟩) HD.out HJ.out he (on1K HBa.out h2 (Nat.le_refl _))
          rw [hW0] at cf HE
          clear he HD HJ HB HK HO hq hW0
          go_wp2_with (go_at_call 86; refine cf.mono ?_; rintro e W2 ⟨rfl, hw2⟩; have hd := HE.out W2 (by rw [hw2]; exact b_alloc (Below.refl _ _) _); clear hw2)
          refine ⟨⟨a, b + 1, hlt, rfl, ?_, hd⟩, ?_⟩
          · go_num
          · simp [intOf]
            omega
        | false =>
          have hq : (nm.toList == id.toList) = false := he
          rw [hq] at cf
          have HE : Hid (∀ W2, Below W0.heap.size W0 W2 → DhI w base g cap T id (a + 1) (b + 1) ((((W2.setCell ⟨g, a * 4, none⟩ (.string nm)).setCell ⟨g, a * 4 + 1, none⟩ (.int .i64 tp)).setCell ⟨g, a * 4 + 2, none⟩ (.int .i64 n)).setCell ⟨g, a * 4 + 3, none⟩ (.string s))) := fun W2 h2 => dhI_keep (t := ⟨nm, tp, n, s⟩) HD.out HJ.out he (on1K HBa.out h2 (Nat.le_refl _))
          rw [hW0] at cf HE HB
          clear he HD HJ HK HO hq hW0
          have HQ : Hid (∀ W2, W2 = (wr.alloc (.cells #[.string nm, .int .i64 tp, .int .i64 n, .string s] 62)).alloc (.cells #[.string nm, .int .i64 tp, .int .i64 n, .string s] 62) → Below (wr.alloc (.cells #[.string nm, .int .i64 tp, .int .i64 n, .string s] 62)).heap.size (wr.alloc (.cells #[.string nm, .int .i64 tp, .int .i64 n, .string s] 62)) W2) := fun W2 h => by rw [h]; exact b_alloc (Below.refl _ _) _
          go_wp2_with (go_at_call 86; refine cf.mono ?_; rintro e W2 ⟨rfl, hw2⟩; have hb2 := HQ.out W2 hw2; have hd := Lib.hid (HE.out W2 hb2); obtain ⟨⟨q0, q1, q2, q3⟩, ⟨f0, f1, f2, f3⟩, ⟨r0, r1, r2, r3⟩⟩ := HB.out W2 hb2; clear hw2 hb2)
          refine ⟨⟨a + 1, b + 1, hlt, ?_, ?_, hd.out⟩, ?_⟩
          · go_num
          · go_num
          · simp [intOf]
            omega
      · obtain rfl : b = T.length := by omega
        obtain ⟨hal, hat⟩ := dhI_end hD
        obtain ⟨X, x1, x2, x3, x4, x5, x6⟩ := hD
        obtain ⟨cur, hb0, hg, hcs, htk⟩ : ∃ cur : Array Value, base ≤ g ∧ wr.heap[g]? = some (.cells cur 62 (0, 0)) ∧ cur.size = cap * 4 ∧ cur.toList.take (T.length * 4) = cellsR X := by
          rcases x5.2 with ⟨e, _⟩ | ⟨g', cap', cur, e, h1, h2, h3, h4, h5, h6⟩
          · cases e
          · injection e with e1 _ e3
            injection e1 with e1; injection e1 with e1
            subst e1; subst e3
            exact ⟨cur, h1, h2, h5, h6⟩
        have hcl : cur.toList.length = cap * 4 := by simpa using hcs
        obtain ⟨W2, hW2⟩ : ∃ W2, W2 = wr.setRow g (cur.toList.take (a * 4) ++ (Builtin.zeroCells #[.string ⟨#[]⟩, .int .i64 0, .int .i64 0, .string ⟨#[]⟩] (T.length - a)).toList ++ cur.toList.drop (a * 4 + (T.length - a) * 4)).toArray := ⟨_, rfl⟩
        have hclr : ∀ ty c, (Builtin.clear_ #[55] ty #[.slice (some ⟨g, a * 4, none⟩) (T.length - a) c]).run Tryz.prog wr = .ok (.tuple #[]) W2 := fun ty c => by
          have := run_clear_row wr 55 62 ty (.agg #[.string ⟨#[]⟩, .int .i64 0, .int .i64 0, .string ⟨#[]⟩]) Tryz.underlying55 Tryz.zeroValue62 g (a * 4) (T.length - a) c (by omega) cur hg (by simp [Value.cells, hcs]; omega) (zero4_one rfl rfl rfl rfl _)
          rw [hW2]
          exact this
        have hz3 : (Builtin.zeroCells #[.string ⟨#[]⟩, .int .i64 0, .int .i64 0, .string ⟨#[]⟩] (T.length - a)).toList.length = (T.length - a) * 4 := by simp [Builtin.zeroCells]
        have HF : Hid (a = (T.filter (keepP id)).length ∧ W2.ownsRow base 62 4 (.slice (some ⟨g, 0, none⟩) a cap) a (cellsR (T.filter (keepP id))) ∧ w.grownBy W2 (some g)) := by
          have hca : cellsR (T.filter (keepP id)) = (cellsR X).take (a * 4) := by
            rw [List.take_length] at x2
            rw [← x2]; unfold cellsR; rw [flatK_take pr_len]
          refine ⟨hal, ⟨?_, .inr ⟨g, cap, _, rfl, hb0, by rw [hW2]; exact setRow_heap wr g cur _ 62 _ hg, by omega, hle.2, by simp [hz3, hcl]; omega, ?_⟩⟩, ?_⟩
          · rw [hca, List.length_take_of_le (by rw [show (cellsR X).length = X.length * 4 from flatK_len pr_len X]; omega)]
          · rw [hca, ← htk, List.take_take, Nat.min_eq_left (by omega)]
            simp only [List.append_assoc]
            rw [List.take_append_of_le_length (by simp [hcl]; omega), List.take_take, Nat.min_self]
          · rw [hW2]
            exact grown_trans x6 (setRow_grown wr g _)
        have hac : ¬ cap = a := by omega
        have hi1 : (a : Int) ≤ (T.length : Int) := by omega
        have hi2 : (a : Int) ≤ (cap : Int) := by omega
        clear hal x1 x2 x3 x4 x5 x6 hg hcs htk hcl hW2 hz3 HD HK HO
        go_wp2
        go_ret
        obtain ⟨f1, f2, f3⟩ := HF.out
        rw [← f1]
        exact ⟨rfl, f2, f3⟩
theorem deleteP_any {w : World} {base : Nat} {v : Value} {T : List Pr} (h : OwnRc w base v T) (hn : T.length ≤ 8) (p : Nat) (id : ByteArray) (hp : p < w.heap.size) (hc : w.cell? ⟨p, 0, none⟩ = some (.string id)) (hne : v.ownBlock ≠ some p) :
    Calls Tryz.prog 85 #[v, .func (.func 86) #[] #[.pointer (some ⟨p, 0, none⟩)]] w fun e w' => ∃ v', e = .returned v' ∧ OwnRc w' base v' (T.filter (keepP id)) ∧ w.grownBy w' v.ownBlock := by
  rcases h.2 with ⟨rfl, h0⟩ | ⟨g, cap, cur, rfl, hb, hg, rest⟩
  · obtain rfl : T = [] := List.eq_nil_of_length_eq_zero h0
    have ci := dindex_any (OwnRc.isR h) hn p id hp hc
    clear h h0
    go_enter Tryz.func85, Tryz.ntmps85
    go_wp2_with (go_at_call 33; refine ci.mono ?_; rintro e W1 ⟨rfl, hB1⟩)
    go_ret
    exact ⟨_, rfl, World.ownsRow_nil _ _ _ _, grown_of_below hB1 _⟩
  · refine (deleteP_own h hn p id hp hc (fun e => hne (by simp [Value.ownBlock, e]))).mono ?_
    rintro e w' ⟨rfl, h1, h2⟩
    exact ⟨_, rfl, h1, h2⟩
set_option maxHeartbeats 1000000 in
theorem mdrop_any {w : World} {base : Nat} {v : Value} {T : List Pr} (h : OwnRc w base v T) (hn : T.length ≤ 8) (id : ByteArray) (hbase : base ≤ w.heap.size) :
    Calls Tryz.prog 55 #[v, .string id] w fun e w' => ∃ v', e = .returned v' ∧ OwnRc w' base v' (T.filter (keepP id)) ∧ Below base w w' := by
  have hB : Below w.heap.size w (w.alloc (.cells #[.string id] 9)) := b_alloc (Below.refl _ _) _
  have n0 : (w.alloc (.cells #[.string id] 9)).heap[w.heap.size]? = some (.cells #[.string id] 9 (0, 0)) := heap_alloc_new w _
  have o2 := OwnRc.kt h (.of_below hB)
  have c := deleteP_any o2 hn w.heap.size id (by simp) (cell_at n0 rfl) (row_apart o2 n0 (by decide))
  have HB := Lib.hid (And.intro hB o2)
  obtain ⟨ao, cp, rfl⟩ := own_slice h
  clear hB n0 o2
  go_enter Tryz.func55, Tryz.ntmps55
  go_wp2_with (go_at_call 85; refine c.mono ?_; rintro e w1 ⟨v1, rfl, h1, h2⟩)
  go_ret
  exact ⟨v1, rfl, h1, below_grown (HB.out.1.mono hbase) h2 (Nat.le_trans hbase HB.out.1.size) (fun k hk => (HB.out.2.lt k hk).1)⟩
end Go.Proofs.YtpmblbhemcippaaGreatDoor

/-
  slices.SortFunc of properties by their names; move.rename.
-/
namespace Go.Proofs.YtpmblbhemcippaaGreatDoor
open Go.Shelf Go.RowKit Go.Lib Go.Sort
set_option linter.unusedVariables false
set_option linter.unusedSimpArgs false

shelf_lay_g SlLaysF0.n14 Slsf 14 at Tryz 123 as pdqP
shelf_lay_g SlLaysF0.n15 Slsf 15 at Tryz 124 as lenP
shelf_lay_g SlLaysF0.n20 Slsf 20 at Tryz 143 as insP

theorem swo_of {α : Type} {cf : α → α → Int} (anti : ∀ x y, cf y x = -cf x y) (trans : ∀ x y z, cf x y ≤ 0 → cf y z ≤ 0 → cf x z ≤ 0) : Go.Sort.SWO (ltOf cf) := by
  refine ⟨fun x => decide_eq_false ?_, fun x y z h1 h2 => decide_eq_true ?_, fun x y z h1 h2 => decide_eq_false ?_⟩
  · have := anti x x; omega
  · have q1 := of_decide_eq_true h1
    have q2 := of_decide_eq_true h2
    have q3 := trans x y z (by omega) (by omega)
    rcases Int.lt_or_eq_of_le q3 with q | q
    · exact q
    · have a1 := anti x z
      have a2 := anti y z
      have := trans z x y (by omega) (by omega)
      omega
  · have q1 := of_decide_eq_false h1
    have q2 := of_decide_eq_false h2
    have a1 := anti x y
    have a2 := anti y z
    have a3 := anti x z
    have := trans z y x (by omega) (by omega)
    omega
instance : Inhabited Pr := ⟨⟨⟨#[]⟩, 0, 0, ⟨#[]⟩⟩⟩
theorem encP_one (x : Pr) : ∀ v ∈ x.cells, v.oneCell' = true := by
  intro v hv
  simp [Pr.cells] at hv
  rcases hv with rfl | rfl | rfl | rfl <;> rfl
def cfP (x y : Pr) : Int := Lib.compareBytes x.nm.data.toList y.nm.data.toList
theorem cfP_swo : SWO (ltOf cfP) := swo_of (fun x y => cmpB_anti _ _) (fun x y z h1 h2 => cmpB_trans _ _ _ h1 h2)
theorem perm_list {α : Type} [Inhabited α] {d d' : Array α} (h : PermIn 0 d.size d d') : d'.toList.Perm d.toList := by
  have h1 := h.2.2
  have e1 : d'.extract 0 d.size = d' := by rw [← h.1]; exact Array.extract_size
  have e2 : d.extract 0 d.size = d := Array.extract_size
  rwa [e1, e2] at h1
theorem sorted_list {α : Type} [Inhabited α] {cf : α → α → Int} {d : Array α} {n : Nat} (hn : n = d.size) (h : SortedIn (ltOf cf) 0 n d) : d.toList.Pairwise (fun x y => ¬ cf y x < 0) := by
  rw [List.pairwise_iff_getElem]
  intro i j hi hj hij
  have hi' : i < d.size := by simpa using hi
  have hj' : j < d.size := by simpa using hj
  have := of_decide_eq_false (h i j (Nat.zero_le _) hij (by omega))
  rw [getElem!_pos d i hi', getElem!_pos d j hj'] at this
  simpa using this
theorem grown_sort {α : Type} [Inhabited α] (enc : α → List Value) (k : Nat) (w : World) (g n : Nat) (d : Array α) (os : Array Obj) : w.grownBy (sortWorldK enc k w g 0 n d os) (some g) := by
  refine ⟨rfl, rfl, rfl, ?_, fun b hb hne => ?_⟩
  · unfold sortWorldK; rw [size_grow, size_putRowK]; exact Nat.le_add_right _ _
  · have hb' : b < (putRowK enc k (Sort.ahead w n) g 0 d).heap.size := by rw [size_putRowK]; exact hb
    unfold sortWorldK
    show ((putRowK enc k (Sort.ahead w n) g 0 d).heap ++ os)[b]? = w.heap[b]?
    rw [Array.getElem?_append_left hb']
    have hgb : ¬ g = b := fun e => hne (by rw [e])
    simp [putRowK, putRow, mapBlock, Sort.ahead, Array.getElem?_modify, hgb]
set_option maxHeartbeats 1000000 in
theorem byNameP_any (x y : Pr) (W : World) :
    Calls Tryz.prog 88 #[.agg x.cells.toArray, .agg y.cells.toArray] W fun e w' => e = .returned (.int .i64 (cfP x y)) ∧ ∃ q os, w' = grow (W.drewN q) os := by
  obtain ⟨n1, t1, m1, s1⟩ := x
  obtain ⟨n2, t2, m2, s2⟩ := y
  have c := fun w => compare_any n1 n2 w
  show Calls Tryz.prog 88 #[.agg #[.string n1, .int .i64 t1, .int .i64 m1, .string s1], .agg #[.string n2, .int .i64 t2, .int .i64 m2, .string s2]] W _
  unfold cfP
  simp only
  generalize Lib.compareBytes n1.data.toList n2.data.toList = r at *
  have HG : Hid (∃ q os, (W.alloc (.cells #[.string n1, .int .i64 t1, .int .i64 m1, .string s1] 62)).alloc (.cells #[.string n2, .int .i64 t2, .int .i64 m2, .string s2] 62) = grow (W.drewN q) os) :=
    ⟨0, #[.cells #[.string n1, .int .i64 t1, .int .i64 m1, .string s1] 62, .cells #[.string n2, .int .i64 t2, .int .i64 m2, .string s2] 62], by
      rw [Go.Sort.alloc_eq_grow, Go.Sort.alloc_eq_grow, Go.Sort.grow_grow]; rfl⟩
  go_enter Tryz.func88, Tryz.ntmps88
  go_wp2_with (go_at_call 89; refine (c _).mono ?_; rintro e w' ⟨rfl, rfl⟩)
  go_ret
  exact ⟨rfl, HG.out⟩
set_option maxHeartbeats 1000000 in
theorem sortNone (ao : Option Addr) (cp : Nat) (w : World) : Calls Tryz.prog 87 #[.slice ao 0 cp, .func (.func 88) #[] #[]] w fun e w' => e = .returned (.tuple #[]) ∧ w' = w := by
  have hll : Calls Tryz.prog 124 #[.int .u64 0] w fun e w' => e = .returned (.int .i64 (Lib.bitLen 0 : Nat)) ∧ w' = w := by
    have h := Any.bits_Len (SlLaysF0.n15.bits lenP) 0 w (by omega) (by omega)
    exact h
  have e0 : Lib.bitLen 0 = 0 := by decide
  rw [e0] at hll
  have hi : ∀ W, Calls Tryz.prog 143 #[.slice ao 0 cp, .int .i64 0, .int .i64 0, .func (.func 88) #[] #[]] W fun e w' => e = .returned (.tuple #[]) ∧ w' = W := fun W => AnyF.insertionSortCmpFunc_none insP ao cp _ W
  have hp : Calls Tryz.prog 123 #[.slice ao 0 cp, .int .i64 0, .int .i64 0, .int .i64 0, .func (.func 88) #[] #[]] w fun e w' => e = .returned (.tuple #[]) ∧ w' = w := by
    go_enter Tryz.func123, Tryz.ntmps123
    go_wp2
    refine wp_loop_rounds 1 ?_
    rw [rounds_succ]
    go_wp2_with (go_at_call 143; refine (hi _).mono ?_; rintro e w' ⟨rfl, rfl⟩)
    refine bodyPost_ret (results_none rfl _ _ _) rfl ?_
    exact ⟨rfl, rfl⟩
  go_enter Tryz.func87, Tryz.ntmps87
  go_wp2_with (first | (go_at_call 124; refine hll.mono ?_; rintro e w' ⟨rfl, rfl⟩) | (go_at_call 123; refine hp.mono ?_; rintro e w' ⟨rfl, rfl⟩))
  go_end0
  exact ⟨rfl, rfl⟩
theorem sortP_any {w : World} {base : Nat} {v : Value} (L : List Pr) (ho : OwnRc w base v L) (hl : L.length ≤ 1000) :
    Calls Tryz.prog 87 #[v, .func (.func 88) #[] #[]] w fun e w' => e = .returned (.tuple #[]) ∧ ∃ M : List Pr, M.Perm L ∧ M.Pairwise (fun x y => ¬ cfP y x < 0) ∧ OwnRc w' base v M ∧ w.grownBy w' v.ownBlock := by
  by_cases h0 : L = []
  · subst h0
    obtain ⟨ao, cp, rfl⟩ := own_slice ho
    exact (sortNone ao cp w).mono fun e w' ⟨he, hw⟩ => ⟨he, [], List.Perm.refl _, .nil, by rw [hw]; exact ho, by rw [hw]; exact grown_of_below (Below.refl _ _) _⟩
  · have hpos : 0 < L.length := List.length_pos_iff.2 h0
    unfold OwnRc cellsR at ho
    obtain ⟨g, cap, rfl, hgl⟩ : ∃ g cap, v = .slice (some ⟨g, 0, none⟩) L.length cap ∧ g < w.heap.size := by
      rcases ho.2 with ⟨_, h⟩ | ⟨g, cap, cur, e, _, hg, _⟩
      · omega
      · exact ⟨g, cap, e, (Array.getElem?_eq_some_iff.1 hg).1⟩
    have hH : HoldsK Pr.cells 4 w g 0 L.toArray := by
      unfold HoldsK
      rw [flatK_flat Pr.cells 4 (by decide) pr_len]
      exact holds_own ho
    have eg : ∀ args w, (callFunc 88 args).run Tryz.prog w = .ok (.enter 88 args) w := enters_of Tryz.func88 (by kernel_rfl) rfl
    have hcmp : CmpLays Tryz.prog 88 #[] Pr.cells 4 cfP g 0 L.toArray.size w := fun m os dk hdk x y => byNameP_any x y _
    have hz0 : L.toArray.size = L.length := by simp
    have hlim : Lib.bitLen L.toArray.size < 4611686018427387904 := Nat.lt_of_le_of_lt (Lib.bitLen_le L.toArray.size 62 (by omega) (by omega)) (by omega)
    have hp := AnyQ.pdqsortCmpFunc_all pdqP 4 Tryz.isAgg62 Tryz.sizeOf62 Pr.cells cfP 88 #[] cfP_swo g 0 cap L.toArray w eg hcmp ⟨pr_len, encP_one, hH, hgl⟩ (L.toArray.size + 1) 0 L.toArray.size (Lib.bitLen L.toArray.size) L.toArray w (by omega) rfl (SWK.start hH) (Nat.zero_le _) (Nat.le_refl _) (by omega) hlim (Or.inl rfl)
    have hll : Calls Tryz.prog 124 #[.int .u64 (L.toArray.size : Int)] w fun e w' => e = .returned (.int .i64 (Lib.bitLen L.toArray.size : Nat)) ∧ w' = w := by
      have h := Any.bits_Len (SlLaysF0.n15.bits lenP) (L.toArray.size : Int) w (by omega) (by omega)
      rwa [Int.toNat_natCast] at h
    have c : Calls Tryz.prog 87 #[.slice (some ⟨g, 0, none⟩) L.toArray.size cap, .func (.func 88) #[] #[]] w fun e w' => e = .returned (.tuple #[]) ∧ ∃ d' n os, PermIn 0 L.toArray.size L.toArray d' ∧ SortedIn (ltOf cfP) 0 L.toArray.size d' ∧ w' = sortWorldK Pr.cells 4 w g 0 n d' os := by
      have hpd := pdq_sorts (ltOf cfP) cfP_swo L.toArray 0 L.toArray.size (Lib.bitLen L.toArray.size) true true (Nat.zero_le _) (Nat.le_refl _) (Or.inl rfl)
      have HP := Lib.hid hpd
      have wr : IntKind.u64.wrap (L.toArray.size : Int) = L.toArray.size := by simp [IntKind.wrap, IntKind.bits, IntKind.signed]; omega
      clear hpd hH hcmp ho hlim
      generalize L.toArray = d at *
      clear hz0 h0 hpos
      go_enter Tryz.func87, Tryz.ntmps87
      go_wp2_with (first | (go_at_call 124; refine hll.mono ?_; rintro e w' ⟨rfl, rfl⟩) | (go_at_call 123; refine hp.mono ?_; rintro e w' ⟨rfl, n, os, rfl⟩))
      go_end0
      exact ⟨rfl, _, n, os, HP.out.1, HP.out.2, rfl⟩
    rw [show L.toArray.size = L.length by simp] at c
    refine c.mono ?_
    rintro e w' ⟨rfl, d', n, os, hp, hs, rfl⟩
    have hp' : PermIn 0 L.toArray.size L.toArray d' := by rw [show L.toArray.size = L.length by simp]; exact hp
    have hpl := perm_list hp'
    have hz : d'.size = L.length := by have := hp'.1; simpa using this
    refine ⟨rfl, d'.toList, by simpa using hpl, sorted_list hz.symm hs, ?_, grown_sort Pr.cells 4 w g n d' os⟩
    have hlen : d'.toList.length = L.length := by simp [hz]
    have hown := own_putRow (q := n) (ys := d'.toList.flatMap Pr.cells) ho (by rw [flat_len Pr.cells 4 pr_len, flat_len Pr.cells 4 pr_len, hlen])
    rw [← flatK_flat Pr.cells 4 (by decide) pr_len, Array.toArray_toList] at hown
    change (putRowK Pr.cells 4 (Sort.ahead w n) g 0 d').ownsRow _ _ _ _ _ _ at hown
    unfold OwnRc cellsR
    rw [hlen]
    exact own_kt hown (Kt.of_below ⟨rfl, rfl, rfl, by unfold sortWorldK; rw [size_grow]; exact Nat.le_add_right _ _, fun b hb => by
      unfold sortWorldK
      show ((putRowK Pr.cells 4 (Sort.ahead w n) g 0 d').heap ++ os)[b]? = _
      rw [Array.getElem?_append_left hb]⟩)
end Go.Proofs.YtpmblbhemcippaaGreatDoor
