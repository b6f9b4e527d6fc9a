import Derived.Test.YtahamkajkkkjdaaGreatDoorM23
import Derived.Test.YtahamkajkkkjdaaGreatDoorM26
import Derived.Test.YtahamkajkkkjdaaGreatDoorM37
import Derived.Deep.RegionHeld3
namespace Go.Proofs.YtahamkajkkkjdaaGreatDoor
open Go.RowKit
set_option linter.unusedVariables false
set_option linter.unusedSimpArgs false
theorem zero3_one {a b c : Value} (ha : a.oneCell' = true) (hb : b.oneCell' = true) (hc : c.oneCell' = true) (n : Nat) : ∀ u ∈ (Builtin.zeroCells #[a, b, c] n).toList, u.oneCell' = true := by
  intro u hu
  simp [Builtin.zeroCells] at hu
  obtain ⟨i, _, rfl⟩ := hu
  have h3 : i % 3 = 0 ∨ i % 3 = 1 ∨ i % 3 = 2 := by omega
  rcases h3 with h | h | h <;> simp [h, ha, hb, hc]
def Te.of (t : Te) (id : ByteArray) : Bool := t.bd.toList == id.toList
def idxB4 (id : ByteArray) : List Te → Nat → Int
  | [], _ => -1
  | t :: r, k => if t.of id = true then (k : Int) else idxB4 id r (k + 1)
theorem dropN4 {N : List Te} {k : Nat} {n : Te} (h : N[k]? = some n) : N.drop k = n :: N.drop (k + 1) := by
  obtain ⟨hk, rfl⟩ := List.getElem?_eq_some_iff.1 h
  exact List.drop_eq_getElem_cons hk
theorem idxB4_spec (id : ByteArray) : ∀ (T : List Te) (s : Nat), (idxB4 id T s = -1 ∧ ∀ t ∈ T, t.of id = false) ∨ ∃ k t, T[k]? = some t ∧ idxB4 id T s = ((s + k : Nat) : Int) ∧ t.of id = true ∧ ∀ x ∈ T.take k, x.of id = false
  | [], s => .inl ⟨rfl, fun t ht => by cases ht⟩
  | t :: r, s => by
    by_cases h : t.of id = true
    · exact .inr ⟨0, t, rfl, by simp [idxB4, h], h, fun x hx => by simp at hx⟩
    · have e : idxB4 id (t :: r) s = idxB4 id r (s + 1) := by simp [idxB4, h]
      rcases idxB4_spec id r (s + 1) with ⟨e1, ha⟩ | ⟨k, x, hk, e1, hx, ha⟩
      · refine .inl ⟨by rw [e, e1], fun y hy => ?_⟩
        rcases List.mem_cons.1 hy with rfl | hy
        · simpa using h
        · exact ha y hy
      · refine .inr ⟨k + 1, x, by simpa using hk, by rw [e, e1]; congr 1; omega, hx, fun y hy => ?_⟩
        rw [List.take_succ_cons] at hy
        rcases List.mem_cons.1 hy with rfl | hy
        · simpa using h
        · exact ha y hy
set_option maxHeartbeats 1000000 in
theorem tiesf_any (t : Te) (p : Nat) (id : ByteArray) (w : World) (hp : p < w.heap.size) (hc : w.cell? ⟨p, 4, none⟩ = some (.string id)) :
    Calls Tryz.prog 171 #[t.one, .pointer (some ⟨p, 0, none⟩)] w fun e w' => e = .returned (.bool (t.of id)) ∧ Below w.heap.size w w' := by
  obtain ⟨bd, fr, tt⟩ := t
  have hB : Below w.heap.size w (w.alloc (.cells #[.string bd, .int .i64 fr, .int .i64 tt] 46)) := b_alloc (Below.refl _ _) _
  have hc' := (hB.cell (p := ⟨p, 4, none⟩) hp).trans hc
  have hpn : ¬ p = w.heap.size := by omega
  go_enter Tryz.func171, Tryz.ntmps171
  go_wp2
  go_ret
  exact ⟨rfl, hB⟩
set_option maxHeartbeats 1000000 in
set_option maxRecDepth 100000 in
theorem indexB4_any {ao : Option Addr} {cn : Nat} {N : List Te} {w : World} (hn : N = [] ∨ ∃ b off, ao = some ⟨b, off, none⟩ ∧ b < w.heap.size ∧ LiesT w b off N) (h60 : N.length ≤ 1000) (p : Nat) (id : ByteArray) (hp : p < w.heap.size) (hc : w.cell? ⟨p, 4, none⟩ = some (.string id)) :
    Calls Tryz.prog 185 #[.slice ao N.length cn, .func (.func 171) #[] #[.pointer (some ⟨p, 0, none⟩)]] w fun e w' => e = .returned (.int .i64 (idxB4 id N 0)) ∧ Below w.heap.size w w' := by
  go_enter Tryz.func185, Tryz.ntmps185
  go_wp2
  go_loopw [8] (fun i wr => ∃ k : Nat, k ≤ N.length ∧ i = .int .i64 k ∧ idxB4 id N 0 = idxB4 id (N.drop k) k ∧ Below w.heap.size w wr) (fun i _ => N.length - (intOf i).toNat)
  case atStart => exact ⟨0, Nat.zero_le _, rfl, rfl, Below.refl _ _⟩
  case round =>
    obtain ⟨k, hk, rfl, hx, hB⟩ := hrel
    have HX : Hid (idxB4 id N 0 = idxB4 id (N.drop k) k) := hx
    clear hx
    by_cases hlt : k < N.length
    · obtain ⟨n, hn'⟩ : ∃ n, N[k]? = some n := ⟨N[k], by simp [hlt]⟩
      rcases hn with rfl | ⟨b, off, rfl, hb, hL⟩
      · exact absurd hlt (by simp)
      have HD : Hid (N.drop k = n :: N.drop (k + 1)) := dropN4 hn'
      obtain ⟨c0, c1, c2⟩ := hL k n hn'
      have d0 := (hB.cell (p := ⟨b, off + k * 3, none⟩) hb).trans c0
      have d1 := (hB.cell (p := ⟨b, off + k * 3 + 1, none⟩) hb).trans c1
      have d2 := (hB.cell (p := ⟨b, off + k * 3 + 2, none⟩) hb).trans c2
      have cf := tiesf_any n p id wr (Nat.lt_of_lt_of_le hp hB.size) ((hB.cell hp).trans hc)
      have HL : Hid (LiesT w b off N) := hL
      clear c0 c1 c2 hn' hL hc
      cases he : n.of id with
      | true =>
        have H : Hid (idxB4 id N 0 = (k : Int)) := by
          show _ = _
          rw [HX.out, HD.out]; unfold idxB4; rw [if_pos he]
        rw [he] at cf
        clear HX HD he
        obtain ⟨bd, fr, tt⟩ := n
        simp only at d0 d1 d2 cf
        go_wp2_with (first | (go_at_call 171; refine cf.mono ?_; rintro e W2 ⟨rfl, hB2⟩))
        go_ret
        exact ⟨ret_v (congrArg (Value.int .i64) H.out.symm), on1 hB hB2⟩
      | false =>
        have H : Hid (idxB4 id N 0 = idxB4 id (N.drop (k + 1)) (k + 1)) := by
          show _ = _
          rw [HX.out, HD.out]; conv => lhs; unfold idxB4; rw [if_neg (by rw [he]; decide)]
        rw [he] at cf
        clear HX HD he
        obtain ⟨bd, fr, tt⟩ := n
        simp only at d0 d1 d2 cf
        go_wp2_with (first | (go_at_call 171; refine cf.mono ?_; rintro e W2 ⟨rfl, hB2⟩))
        go_roundw
        case rel => exact ⟨k + 1, by omega, by go_num, H.out, on1 hB hB2⟩
        case measure => simp [intOf]; omega
    · have hd : N.drop k = [] := List.drop_eq_nil_of_le (by omega)
      have H : Hid (idxB4 id N 0 = -1) := by
        show _ = _
        rw [HX.out, hd]; rfl
      clear HX hd
      go_wp2
      go_ret
      exact ⟨ret_v (congrArg (Value.int .i64) H.out.symm), hB⟩
def keepB (id : ByteArray) (t : Te) : Bool := !t.of id
theorem cellsT_set (M : List Te) (k : Nat) (hk : k < M.length) (t : Te) : (((cellsT M).set (k * 3) (.string t.bd)).set (k * 3 + 1) (.int .i64 t.fr)).set (k * 3 + 2) (.int .i64 t.tt) = cellsT (M.set k t) := by
  have hl : (cellsT M).length = M.length * 3 := flatK_len te_len M
  rw [set3 _ _ _ _ _ (by rw [hl]; omega)]
  unfold cellsT
  rw [flatK_set te_len M k _ hk, show (k + 1) * 3 = k * 3 + 3 by omega]
  rfl
def DgI (w : World) (base g cap : Nat) (T : List Te) (id : ByteArray) (i j : Nat) (wr : World) : Prop := ∃ X : List Te, X.length = T.length ∧ X.take i = (T.take j).filter (keepB id) ∧ i < j ∧ X.drop j = T.drop j ∧ wr.ownsRow base 46 3 (.slice (some ⟨g, 0, none⟩) T.length cap) T.length (cellsT X) ∧ w.grownBy wr (some g)
theorem dgI_start {w : World} {base g cap : Nat} {T : List Te} {id : ByteArray} {k : Nat} {t : Te} {W : World} (hO : w.ownsRow base 46 3 (.slice (some ⟨g, 0, none⟩) T.length cap) T.length (cellsT T)) (hk : T[k]? = some t) (ht : t.of id = true) (ha : ∀ x ∈ T.take k, x.of id = false) (hB : Below w.heap.size w W) : DgI w base g cap T id k (k + 1) W := by
  refine ⟨T, rfl, ?_, Nat.lt_succ_self _, rfl, own_kt hO (.of_below hB), grown_of_below hB _⟩
  have e : T.take (k + 1) = T.take k ++ [t] := by
    obtain ⟨h, rfl⟩ := List.getElem?_eq_some_iff.1 hk
    rw [List.take_succ_eq_append_getElem h]
  rw [e, List.filter_append, List.filter_eq_self.2 (fun x hx => by simp [keepB, ha x hx])]
  simp [keepB, ht]
theorem dgI_skip {w : World} {base g cap : Nat} {T : List Te} {id : ByteArray} {i j : Nat} {t : Te} {wr W : World} (h : DgI w base g cap T id i j wr) (hj : T[j]? = some t) (ht : t.of id = true) (hB : Below wr.heap.size wr W) : DgI w base g cap T id i (j + 1) W := by
  obtain ⟨X, x1, x2, x3, x4, x5, x6⟩ := h
  refine ⟨X, x1, ?_, by omega, ?_, own_kt x5 (.of_below hB), grown_trans x6 (grown_of_below hB _)⟩
  · have e : T.take (j + 1) = T.take j ++ [t] := by
      obtain ⟨h, rfl⟩ := List.getElem?_eq_some_iff.1 hj
      rw [List.take_succ_eq_append_getElem h]
    rw [e, List.filter_append, x2]
    simp [keepB, ht]
  · rw [show j + 1 = j + 1 from rfl, ← List.drop_drop, x4, List.drop_drop]
theorem dgI_keep {w : World} {base g cap : Nat} {T : List Te} {id : ByteArray} {i j : Nat} {t : Te} {wr W : World} (h : DgI w base g cap T id i j wr) (hj : T[j]? = some t) (ht : t.of id = false) (hB : Below wr.heap.size wr W) :
    DgI w base g cap T id (i + 1) (j + 1) (((W.setCell ⟨g, i * 3, none⟩ (.string t.bd)).setCell ⟨g, i * 3 + 1, none⟩ (.int .i64 t.fr)).setCell ⟨g, i * 3 + 2, none⟩ (.int .i64 t.tt)) := by
  obtain ⟨X, x1, x2, x3, x4, x5, x6⟩ := h
  have hjl := (List.getElem?_eq_some_iff.1 hj).1
  have hi : i < X.length := by omega
  have o2 := own_kt x5 (Kt.of_below hB)
  obtain ⟨s1, t1⟩ := World.ownsRow.stored o2 (i * 3) (.string t.bd)
  obtain ⟨s2, t2⟩ := World.ownsRow.stored s1 (i * 3 + 1) (.int .i64 t.fr)
  obtain ⟨s3, t3⟩ := World.ownsRow.stored s2 (i * 3 + 2) (.int .i64 t.tt)
  rw [cellsT_set X i hi t] at s3
  refine ⟨X.set i t, by simpa using x1, ?_, by omega, ?_, s3, grown_trans x6 (grown_trans (grown_of_below hB _) (grown_trans t1 (grown_trans t2 t3)))⟩
  · have e : T.take (j + 1) = T.take j ++ [t] := by
      obtain ⟨h, rfl⟩ := List.getElem?_eq_some_iff.1 hj
      rw [List.take_succ_eq_append_getElem h]
    have hi' : i < (X.set i t).length := by simpa using hi
    rw [e, List.filter_append, ← x2, List.take_succ_eq_append_getElem hi', List.take_set_of_le (Nat.le_refl _)]
    simp [keepB, ht]
  · rw [List.drop_set_of_lt (by omega), show j + 1 = j + 1 from rfl, ← List.drop_drop, x4, List.drop_drop]
theorem dgI_end {w : World} {base g cap : Nat} {T : List Te} {id : ByteArray} {i : Nat} {wr : World} (h : DgI w base g cap T id i T.length wr) : i = (T.filter (keepB id)).length ∧ i < T.length := by
  obtain ⟨X, x1, x2, x3, x4, x5, x6⟩ := h
  rw [List.take_length] at x2
  refine ⟨?_, x3⟩
  rw [← x2, List.length_take_of_le (by omega)]
set_option maxHeartbeats 4000000 in
set_option maxRecDepth 100000 in
theorem deleteTb_own {w : World} {base g cap : Nat} {T : List Te} (h : w.ownsRow base 46 3 (.slice (some ⟨g, 0, none⟩) T.length cap) T.length (cellsT T)) (hn : T.length ≤ 1000) (p : Nat) (id : ByteArray) (hp : p < w.heap.size) (hc : w.cell? ⟨p, 4, none⟩ = some (.string id)) (hne : g ≠ p) :
    Calls Tryz.prog 146 #[.slice (some ⟨g, 0, none⟩) T.length cap, .func (.func 171) #[] #[.pointer (some ⟨p, 0, none⟩)]] w fun e w' => e = .returned (.slice (some ⟨g, 0, none⟩) (T.filter (keepB id)).length cap) ∧ w'.ownsRow base 46 3 (.slice (some ⟨g, 0, none⟩) (T.filter (keepB id)).length cap) (T.filter (keepB id)).length (cellsT (T.filter (keepB id))) ∧ w.grownBy w' (some g) := by
  have hIT : IsT w (.slice (some ⟨g, 0, none⟩) T.length cap) T := own_isT h
  have hle : T.length ≤ cap ∧ cap ≤ maxLen := by
    rcases h.2 with ⟨e, _⟩ | ⟨g', cap', cur, e, _, _, h1, h2, _⟩
    · cases e
    · injection e with _ _ e3; subst e3; exact ⟨h1, h2⟩
  have ci : Calls Tryz.prog 185 #[.slice (some ⟨g, 0, none⟩) T.length cap, .func (.func 171) #[] #[.pointer (some ⟨p, 0, none⟩)]] w fun e w' => e = .returned (.int .i64 (idxB4 id T 0)) ∧ Below w.heap.size w w' := by
    obtain ⟨ao, c, e, _, hT⟩ := hIT
    injection e with e1 e2 e3
    subst e1; subst e3
    exact indexB4_any hT hn p id hp hc
  have HO : Hid (w.ownsRow base 46 3 (.slice (some ⟨g, 0, none⟩) T.length cap) T.length (cellsT T)) := h
  rcases idxB4_spec id T 0 with ⟨e1, ha⟩ | ⟨k, t, hk, e1, ht, ha⟩
  · have hf : T.filter (keepB id) = T := List.filter_eq_self.2 (fun x hx => by simp [keepB, ha x hx])
    rw [hf]
    rw [e1] at ci
    clear h hIT e1 ha hf
    go_enter Tryz.func146, Tryz.ntmps146
    go_wp2_with (go_at_call 185; refine ci.mono ?_; rintro e W1 ⟨rfl, hB1⟩)
    go_ret
    exact ⟨rfl, own_kt HO.out (.of_below hB1), grown_of_below hB1 _⟩
  · rw [e1] at ci
    have hkl := (List.getElem?_eq_some_iff.1 hk).1
    have HK : Hid (T[k]? = some t ∧ t.of id = true ∧ (∀ x ∈ T.take k, x.of id = false)) := ⟨hk, ht, ha⟩
    have hk1 : ((0 + k : Nat) : Int) = (k : Int) := by simp
    rw [hk1] at ci
    have hkm : ((k : Int) == -1) = false := beq_eq_false_iff_ne.2 (by omega)
    clear h hIT e1 hk ht ha hk1
    go_enter Tryz.func146, Tryz.ntmps146
    go_wp2_with (go_at_call 185; refine ci.mono ?_; rintro e W1 ⟨rfl, hB1⟩)
    go_loopw [5, 6] (fun i j wr => ∃ a b : Nat, b ≤ T.length ∧ i = .int .i64 a ∧ j = .int .i64 b ∧ DgI w base g cap T id a b wr) (fun i j _ => T.length - (intOf j).toNat)
    case atStart => exact ⟨k, k + 1, hkl, rfl, by go_num, dgI_start HO.out HK.out.1 HK.out.2.1 HK.out.2.2 hB1⟩
    case round =>
      obtain ⟨a, b, hb, rfl, rfl, hD⟩ := hrel
      have HD : Hid (DgI w base g cap T id a b wr) := hD
      by_cases hlt : b < T.length
      · obtain ⟨t, hj⟩ : ∃ t, T[b]? = some t := ⟨T[b], by simp [hlt]⟩
        obtain ⟨X, x1, x2, x3, x4, x5, x6⟩ := hD
        have hX : X[b]? = some t := by
          have : (X.drop b)[0]? = (T.drop b)[0]? := by rw [x4]
          simpa [hj] using this
        have ce : ∀ i u, i < 3 → t.cells[i]? = some u → wr.cell? ⟨g, b * 3 + i, none⟩ = some u := fun i u hi hu => by
          have := World.ownsRow.cells x5 rfl (b * 3 + i) u ((flatK te_len X b t i hX hi).trans hu)
          rwa [Addr.add_lit, Nat.zero_add] at this
        have d0 : wr.cell? ⟨g, b * 3, none⟩ = some (.string t.bd) := ce 0 _ (by omega) rfl
        have d1 : wr.cell? ⟨g, b * 3 + 1, none⟩ = some (.int .i64 t.fr) := ce 1 _ (by omega) rfl
        have d2 : wr.cell? ⟨g, b * 3 + 2, none⟩ = some (.int .i64 t.tt) := ce 2 _ (by omega) rfl
        have ff : ∀ i, wr.frozen? ⟨g, i, none⟩ = false := fun i => World.ownsRow.frozenAt x5 i
        have hgw : g < wr.heap.size := (World.ownsRow.lt x5 g rfl).2
        have hpc : wr.cell? ⟨p, 4, none⟩ = some (.string id) := x6.cell hc (by simp; exact fun e => hne e.symm)
        have hpw : p < wr.heap.size := cell_lt hpc
        have ac : ∀ i, i < 3 → ∃ u, wr.cell? ⟨g, a * 3 + i, none⟩ = some u := fun i hi => by
          have hal : a < X.length := by omega
          have := World.ownsRow.cellAt x5 (a * 3 + i) (by omega)
          rw [this]
          have hlen : (cellsT X).length = X.length * 3 := flatK_len te_len X
          exact ⟨(cellsT X)[a * 3 + i]'(by rw [hlen]; omega), by simp⟩
        obtain ⟨v0, b0⟩ := ac 0 (by omega)
        obtain ⟨v1, b1⟩ := ac 1 (by omega)
        obtain ⟨v2, b2⟩ := ac 2 (by omega)
        rw [Nat.add_zero] at b0
        have hBa : Below wr.heap.size wr (wr.alloc (.cells #[.string t.bd, .int .i64 t.fr, .int .i64 t.tt] 46)) := b_alloc (Below.refl _ _) _
        have cf := tiesf_any t p id (wr.alloc (.cells #[.string t.bd, .int .i64 t.fr, .int .i64 t.tt] 46)) (Nat.lt_of_lt_of_le hpw hBa.size) ((hBa.cell hpw).trans hpc)
        have HB : Hid (Below wr.heap.size wr (wr.alloc (.cells #[.string t.bd, .int .i64 t.fr, .int .i64 t.tt] 46)) ∧ (∀ W2, Below (wr.alloc (.cells #[.string t.bd, .int .i64 t.fr, .int .i64 t.tt] 46)).heap.size (wr.alloc (.cells #[.string t.bd, .int .i64 t.fr, .int .i64 t.tt] 46)) W2 → (W2.cell? ⟨g, a * 3, none⟩ = some v0 ∧ W2.cell? ⟨g, a * 3 + 1, none⟩ = some v1 ∧ W2.cell? ⟨g, a * 3 + 2, none⟩ = some v2) ∧ (W2.frozen? ⟨g, a * 3, none⟩ = false ∧ W2.frozen? ⟨g, a * 3 + 1, none⟩ = false ∧ W2.frozen? ⟨g, a * 3 + 2, none⟩ = false) ∧ (W2.cell? ⟨wr.heap.size, 0, none⟩ = some (.string t.bd) ∧ W2.cell? ⟨wr.heap.size, 1, none⟩ = some (.int .i64 t.fr) ∧ W2.cell? ⟨wr.heap.size, 2, none⟩ = some (.int .i64 t.tt)))) := ⟨hBa, fun W2 h2 => by
          have hb2 := on1K hBa h2 (Nat.le_refl _)
          have hnw := (h2.block wr.heap.size (by simp)).trans (heap_alloc_new wr _)
          exact ⟨⟨(hb2.cell hgw).trans b0, (hb2.cell hgw).trans b1, (hb2.cell hgw).trans b2⟩, ⟨(hb2.frozen hgw).trans (ff _), (hb2.frozen hgw).trans (ff _), (hb2.frozen hgw).trans (ff _)⟩, cell_at hnw rfl, cell_at hnw rfl, cell_at hnw rfl⟩⟩
        have HJ : Hid (T[b]? = some t) := hj
        have hab : a < b := x3
        clear x1 x2 x3 x4 x5 x6 hX ce ff ac hj hBa b0 b1 b2
        cases he : t.of id with
        | true =>
          rw [he] at cf
          have HE : Hid (∀ W2, Below (wr.alloc (.cells #[.string t.bd, .int .i64 t.fr, .int .i64 t.tt] 46)).heap.size (wr.alloc (.cells #[.string t.bd, .int .i64 t.fr, .int .i64 t.tt] 46)) W2 → DgI w base g cap T id a (b + 1) W2) := fun W2 h2 => dgI_skip HD.out HJ.out he (on1K HB.out.1 h2 (Nat.le_refl _))
          clear he HD HJ HB HK HO
          obtain ⟨bd, fr, tt⟩ := t
          simp only at d0 d1 d2 cf HE
          go_wp2_with (go_at_call 171; refine cf.mono ?_; rintro e W2 ⟨rfl, hB2⟩)
          refine ⟨⟨a, b + 1, hlt, rfl, ?_, HE.out _ hB2⟩, ?_⟩
          · go_num
          · simp [intOf]
            omega
        | false =>
          rw [he] at cf
          have HE : Hid (∀ W2, Below (wr.alloc (.cells #[.string t.bd, .int .i64 t.fr, .int .i64 t.tt] 46)).heap.size (wr.alloc (.cells #[.string t.bd, .int .i64 t.fr, .int .i64 t.tt] 46)) W2 → DgI w base g cap T id (a + 1) (b + 1) (((W2.setCell ⟨g, a * 3, none⟩ (.string t.bd)).setCell ⟨g, a * 3 + 1, none⟩ (.int .i64 t.fr)).setCell ⟨g, a * 3 + 2, none⟩ (.int .i64 t.tt))) := fun W2 h2 => dgI_keep HD.out HJ.out he (on1K HB.out.1 h2 (Nat.le_refl _))
          clear he HD HJ HK HO
          obtain ⟨bd, fr, tt⟩ := t
          simp only at d0 d1 d2 cf HE HB
          have hal : (a : Int) < (T.length : Int) := by omega
          go_wp2_with (go_at_call 171; refine cf.mono ?_; rintro e W2 ⟨rfl, hB2⟩; obtain ⟨⟨q0, q1, q2⟩, ⟨f0, f1, f2⟩, ⟨r0, r1, r2⟩⟩ := HB.out.2 W2 hB2)
          refine ⟨⟨a + 1, b + 1, hlt, ?_, ?_, HE.out _ hB2⟩, ?_⟩
          · go_num
          · go_num
          · simp [intOf]
            omega
      · obtain rfl : b = T.length := by omega
        obtain ⟨hal, hat⟩ := dgI_end hD
        obtain ⟨X, x1, x2, x3, x4, x5, x6⟩ := hD
        obtain ⟨cur, hb0, hg, hcs, htk⟩ : ∃ cur : Array Value, base ≤ g ∧ wr.heap[g]? = some (.cells cur 46 (0, 0)) ∧ cur.size = cap * 3 ∧ cur.toList.take (T.length * 3) = cellsT X := by
          rcases x5.2 with ⟨e, _⟩ | ⟨g', cap', cur, e, h1, h2, h3, h4, h5, h6⟩
          · cases e
          · injection e with e1 _ e3
            injection e1 with e1; injection e1 with e1
            subst e1; subst e3
            exact ⟨cur, h1, h2, h5, h6⟩
        have hcl : cur.toList.length = cap * 3 := by simpa using hcs
        obtain ⟨W2, hW2⟩ : ∃ W2, W2 = wr.setRow g (cur.toList.take (a * 3) ++ (Builtin.zeroCells #[.string ⟨#[]⟩, .int .i64 0, .int .i64 0] (T.length - a)).toList ++ cur.toList.drop (a * 3 + (T.length - a) * 3)).toArray := ⟨_, rfl⟩
        have hclr : ∀ ty c, (Builtin.clear_ #[65] ty #[.slice (some ⟨g, a * 3, none⟩) (T.length - a) c]).run Tryz.prog wr = .ok (.tuple #[]) W2 := fun ty c => by
          have := run_clear_row wr 65 46 ty (.agg #[.string ⟨#[]⟩, .int .i64 0, .int .i64 0]) Tryz.underlying65 Tryz.zeroValue46 g (a * 3) (T.length - a) c (by omega) cur hg (by simp [Value.cells, hcs]; omega) (zero3_one rfl rfl rfl _)
          rw [hW2]
          exact this
        have hz3 : (Builtin.zeroCells #[.string ⟨#[]⟩, .int .i64 0, .int .i64 0] (T.length - a)).toList.length = (T.length - a) * 3 := by simp [Builtin.zeroCells]
        have HF : Hid (a = (T.filter (keepB id)).length ∧ W2.ownsRow base 46 3 (.slice (some ⟨g, 0, none⟩) a cap) a (cellsT (T.filter (keepB id))) ∧ w.grownBy W2 (some g)) := by
          have hca : cellsT (T.filter (keepB id)) = (cellsT X).take (a * 3) := by
            rw [List.take_length] at x2
            rw [← x2]; unfold cellsT; rw [flatK_take te_len]
          refine ⟨hal, ⟨?_, .inr ⟨g, cap, _, rfl, hb0, by rw [hW2]; exact setRow_heap wr g cur _ 46 _ hg, by omega, hle.2, by simp [hz3, hcl]; omega, ?_⟩⟩, ?_⟩
          · rw [hca, List.length_take_of_le (by rw [show (cellsT X).length = X.length * 3 from flatK_len te_len X]; omega)]
          · rw [hca, ← htk, List.take_take, Nat.min_eq_left (by omega)]
            simp only [List.append_assoc]
            rw [List.take_append_of_le_length (by simp [hcl]; omega), List.take_take, Nat.min_self]
          · rw [hW2]
            exact grown_trans x6 (setRow_grown wr g _)
        have hac : ¬ cap = a := by omega
        have hi1 : (a : Int) ≤ (T.length : Int) := by omega
        have hi2 : (a : Int) ≤ (cap : Int) := by omega
        clear hal x1 x2 x3 x4 x5 x6 hg hcs htk hcl hW2 hz3 HD HK HO
        go_wp2
        go_ret
        obtain ⟨f1, f2, f3⟩ := HF.out
        rw [← f1]
        exact ⟨rfl, f2, f3⟩
theorem deleteTb_any {w : World} {base : Nat} {v : Value} {T : List Te} (h : OwnTs w base v T) (hn : T.length ≤ 1000) (p : Nat) (id : ByteArray) (hp : p < w.heap.size) (hc : w.cell? ⟨p, 4, none⟩ = some (.string id)) (hne : v.ownBlock ≠ some p) :
    Calls Tryz.prog 146 #[v, .func (.func 171) #[] #[.pointer (some ⟨p, 0, none⟩)]] w fun e w' => ∃ v', e = .returned v' ∧ OwnTs w' base v' (T.filter (keepB id)) ∧ w.grownBy w' v.ownBlock := by
  rcases h.2 with ⟨rfl, h0⟩ | ⟨g, cap, cur, rfl, hb, hg, rest⟩
  · obtain rfl : T = [] := List.eq_nil_of_length_eq_zero h0
    have ci : Calls Tryz.prog 185 #[.slice none 0 0, .func (.func 171) #[] #[.pointer (some ⟨p, 0, none⟩)]] w fun e w' => e = .returned (.int .i64 (-1)) ∧ Below w.heap.size w w' := indexB4_any (N := []) (cn := 0) (ao := none) (.inl rfl) (by simp) p id hp hc
    clear h h0
    go_enter Tryz.func146, Tryz.ntmps146
    go_wp2_with (go_at_call 185; refine ci.mono ?_; rintro e W1 ⟨rfl, hB1⟩)
    go_ret
    exact ⟨_, rfl, World.ownsRow_nil _ _ _ _, grown_of_below hB1 _⟩
  · refine (deleteTb_own h hn p id hp hc (fun e => hne (by simp [Value.ownBlock, e]))).mono ?_
    rintro e w' ⟨rfl, h1, h2⟩
    exact ⟨_, rfl, h1, h2⟩
end Go.Proofs.YtahamkajkkkjdaaGreatDoor
