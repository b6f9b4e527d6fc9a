/-
  The walk of delta.changeRecord, whatever the change.
-/
import Derived.Test.YtidmfdbckpficaaM14
import Derived.Test.YtidmfdbckpficaaM09
namespace Go.Proofs.Ytidmfdbckpficaa
open Go.RowKit
set_option linter.unusedVariables false
set_option linter.unusedSimpArgs false

/-- The call of a change at a record. -/
def ChP (F : Nat) (q : Nat) (rv : Value) (z : Int) (r' : List Pr) (w : World) : Prop := ∀ W, Below w.heap.size w W → Calls Try.prog F #[rv, .pointer (some ⟨q, 0, none⟩)] W fun e w' => ∃ a l c, e = .returned (.tuple #[.slice a l c, errV z]) ∧ (z = 0 → OwnRc w' W.heap.size (.slice a l c) r') ∧ Below W.heap.size W w'

set_option maxHeartbeats 2000000 in
set_option maxRecDepth 100000 in
theorem change_no {w : World} {base p : Nat} {N : List Nd} {T : List Te} (h : OG w base p N T) (hs : SrtN N) (h60 : N.length ≤ 96) (id : Int) (F q : Nat) (hf : fndN id N = false) :
    Calls Try.prog 40 #[.pointer (some ⟨p, 0, none⟩), .int .i64 id, .func (.func F) #[] #[.pointer (some ⟨q, 0, none⟩)]] w fun e w' => e = .returned (.iface 60 (.int .i64 5)) ∧ Below w.heap.size w w' := by
  obtain ⟨vn, vt, hbp, hpb, hN, hT⟩ := h
  have cF := findNode_any hN.isN hs h60 id
  rw [hf] at cF
  obtain ⟨an, cn, hvn⟩ := own_slice hN.1
  subst hvn
  have x0 : w.cell? ⟨p, 0, none⟩ = some (.slice an N.length cn) := cell_at hpb rfl
  generalize loN id N = lo at *
  clear hpb hN hT hf hs
  go_enter Try.func40, Try.ntmps40
  go_wp2_with (first | (go_at_call 55; refine cF.mono ?_; rintro e W1 ⟨rfl, hB1⟩))
  go_ret
  exact ⟨rfl, hB1⟩

theorem set_same {α : Type} {l : List α} {i : Nat} {a : α} (h : l[i]? = some a) : l.set i a = l := by
  apply List.ext_getElem?
  intro j
  by_cases e : i = j
  · subst e
    rw [List.getElem?_set_self (List.getElem?_eq_some_iff.1 h).1, h]
  · rw [List.getElem?_set_ne e]
theorem cellsN_rec (N : List Nd) (k : Nat) (n : Nd) (hn : N[k]? = some n) (v : Value) (r : List Pr) : (cellsN N).set (k * 3 + 2) v = cellsN (N.set k ⟨n.id, n.kd, v, r⟩) := by
  rw [← cellsN_set N k (List.getElem?_eq_some_iff.1 hn).1 n.id n.kd v r]
  have h0 : (cellsN N)[k * 3]? = some (.int .i64 n.id) := (flatK nd_len N k n 0 hn (by omega)).trans rfl
  have h1 : (cellsN N)[k * 3 + 1]? = some (.string n.kd) := (flatK nd_len N k n 1 hn (by omega)).trans rfl
  rw [set_same h0, set_same h1]
/-- A node of a graph of the call's own has another record. -/
theorem rec_put {W : World} {base p g cn lo B : Nat} {vt v : Value} {N : List Nd} {T : List Te} {n : Nd} {r' : List Pr} (D : OGv W base p (.slice (some ⟨g, 0, none⟩) N.length cn) vt N T) (hn : N[lo]? = some n) (hO : OwnRc W B v r') (hB : base ≤ B) :
    OG (W.setCell ⟨g, lo * 3 + 2, none⟩ v) base p (N.set lo ⟨n.id, n.kd, v, r'⟩) T ∧ cN (N.set lo ⟨n.id, n.kd, v, r'⟩) = (cN N).set lo ⟨n.id, n.kd, .nilIface, r'⟩ := by
  obtain ⟨s1, s2⟩ := World.ownsRow.stored D.hN.1 (lo * 3 + 2) v
  rw [cellsN_rec N lo n hn v r'] at s1
  have k : ∀ t, 30 ≠ t → Kt t W (W.setCell ⟨g, lo * 3 + 2, none⟩ v) := fun t ht => Kt.of_own D.hN.1 ht s2
  have hp : (W.setCell ⟨g, lo * 3 + 2, none⟩ v).heap[p]? = some (.cells #[.slice (some ⟨g, 0, none⟩) N.length cn, vt] 25 (0, 0)) := D.pN s2
  refine ⟨⟨_, _, D.hb, hp, ⟨by rw [List.length_set]; exact s1, fun m hm => ?_⟩, D.hT.kt (k 40 (by decide))⟩, ?_⟩
  · rcases List.mem_or_eq_of_mem_set hm with h | rfl
    · exact (D.hN.2 m h).kt (k 38 (by decide))
    · exact OwnRc.kt (own_base hO hB) (k 38 (by decide))
  · unfold cN
    rw [List.map_set]
    rfl

set_option maxHeartbeats 4000000 in
set_option maxRecDepth 100000 in
theorem change67_yes {w : World} {base p : Nat} {N : List Nd} {T : List Te} (h : OG w base p N T) (hbw : base ≤ w.heap.size) (hs : SrtN N) (h60 : N.length ≤ 96) (id : Int) (q : Nat) (hf : fndN id N = true) {n : Nd} (hn : N[loN id N]? = some n) {z : Int} {r' : List Pr}
    (hch : ChP 41 q n.rv z r' w) :
    Calls Try.prog 40 #[.pointer (some ⟨p, 0, none⟩), .int .i64 id, .func (.func 41) #[] #[.pointer (some ⟨q, 0, none⟩)]] w fun e w' => e = .returned (errV z) ∧ (z = 0 → ∃ N', cN N' = (cN N).set (loN id N) ⟨n.id, n.kd, .nilIface, r'⟩ ∧ OG w' base p N' T) ∧ Below base w w' := by
  obtain ⟨vn, vt, hbp, hpb, hN, hT⟩ := h
  have D : OGv w base p vn vt N T := ⟨hbp, hpb, hN, hT⟩
  have cF := findNode_any hN.isN hs h60 id
  rw [hf] at cF
  have hlt := fndN_lt hf
  obtain ⟨an, cn, hvn⟩ := own_slice hN.1
  obtain ⟨am, cm, hvt⟩ := own_slice hT
  subst hvn hvt
  obtain ⟨g, rfl⟩ : ∃ g, an = some ⟨g, 0, none⟩ := by
    rcases hN.1.2 with ⟨e, h0⟩ | ⟨g', cap', cur, e, _⟩
    · omega
    · injection e with e1; exact ⟨g', e1⟩
  have hcap : N.length ≤ cn := by
    rcases hN.1.2 with ⟨e, h0⟩ | ⟨g', cap', cur, e, _, _, h1, _⟩
    · cases e
    · injection e with _ _ e3; subst e3; exact h1
  have hnm := List.mem_of_getElem? hn
  obtain ⟨av, lv, cv, hv⟩ := (hN.2 n hnm).sl
  generalize loN id N = lo at *
  have x0 : w.cell? ⟨p, 0, none⟩ = some (.slice (some ⟨g, 0, none⟩) N.length cn) := cell_at hpb rfl
  have HX : Hid (∀ W, Below w.heap.size w W → OGv W base p (.slice (some ⟨g, 0, none⟩) N.length cn) (.slice am T.length cm) N T ∧ W.cell? ⟨p, 0, none⟩ = some (.slice (some ⟨g, 0, none⟩) N.length cn) ∧ W.cell? ⟨g, lo * 3 + 2, none⟩ = some n.rv ∧ W.frozen? ⟨g, lo * 3 + 2, none⟩ = false) := fun W hB => by
    have D' := D.on hB
    have := World.ownsRow.cells D'.hN.1 rfl (lo * 3 + 2) n.rv ((flatK nd_len N lo n 2 hn (by omega)).trans rfl)
    rw [Addr.add_lit, Nat.zero_add] at this
    exact ⟨D', cell_at D'.hp rfl, this, World.ownsRow.frozenAt D'.hN.1 _⟩
  have HN : Hid (N[lo]? = some n) := hn
  obtain ⟨ni, kd, rv, rc⟩ := n
  simp only at hv HX hch ⊢
  subst hv
  clear hpb hN hT hf hs D hn hnm
  by_cases hz : z = 0
  · subst hz
    rw [show errV 0 = .nilIface from rfl]
    unfold ChP at hch
    rw [show errV 0 = .nilIface from rfl] at hch
    go_enter Try.func40, Try.ntmps40
    go_wp2_with (first | (go_at_call 55; refine cF.mono ?_; rintro e W1 ⟨rfl, hB1⟩; obtain ⟨D1, y0, y1, y2⟩ := HX.out W1 hB1; have c2 := hch W1 hB1; clear D1) | (go_at_call 41; refine c2.mono ?_; rintro e W2 ⟨a2, l2, c2', rfl, hO2, hB2⟩; refine Hid.out ?_))
    refine Lib.hid ?_
    obtain ⟨D2, t0, t1, t2⟩ := HX.out W2 (on1K hB1 hB2 (Nat.le_refl _))
    have hO := hO2 (by trivial)
    have HO := Lib.hid (And.intro hO (And.intro D2 (And.intro (on1K hB1 hB2 (Nat.le_refl _)) hB1.size)))
    clear hO2 hO D2 hB1 hB2 c2 cF hch y0 y1 y2 HX
    go_wp2
    go_ret
    obtain ⟨o1, o2, o3, o4⟩ := HO.out
    obtain ⟨r1, r2⟩ := rec_put o2 HN.out o1 (Nat.le_trans hbw o4)
    exact ⟨rfl, fun _ => ⟨_, r2, r1⟩, (o3.mono hbw).setCell (World.ownsRow.lt o2.hN.1 g rfl).1 _⟩
  · rw [errV_ne hz]
    unfold ChP at hch
    rw [errV_ne hz] at hch
    have HZ := Lib.hid hz
    clear hz
    go_enter Try.func40, Try.ntmps40
    go_wp2_with (first | (go_at_call 55; refine cF.mono ?_; rintro e W1 ⟨rfl, hB1⟩; obtain ⟨D1, y0, y1, y2⟩ := HX.out W1 hB1; have c2 := hch W1 hB1; clear D1) | (go_at_call 41; refine c2.mono ?_; rintro e W2 ⟨a2, l2, c2', rfl, hO2, hB2⟩))
    go_ret
    exact ⟨rfl, fun h => absurd h HZ.out, (on1K hB1 hB2 (Nat.le_refl _)).mono hbw⟩
set_option maxHeartbeats 4000000 in
set_option maxRecDepth 100000 in
theorem change69_yes {w : World} {base p : Nat} {N : List Nd} {T : List Te} (h : OG w base p N T) (hbw : base ≤ w.heap.size) (hs : SrtN N) (h60 : N.length ≤ 96) (id : Int) (q : Nat) (hf : fndN id N = true) {n : Nd} (hn : N[loN id N]? = some n) {z : Int} {r' : List Pr}
    (hch : ChP 43 q n.rv z r' w) :
    Calls Try.prog 40 #[.pointer (some ⟨p, 0, none⟩), .int .i64 id, .func (.func 43) #[] #[.pointer (some ⟨q, 0, none⟩)]] w fun e w' => e = .returned (errV z) ∧ (z = 0 → ∃ N', cN N' = (cN N).set (loN id N) ⟨n.id, n.kd, .nilIface, r'⟩ ∧ OG w' base p N' T) ∧ Below base w w' := by
  obtain ⟨vn, vt, hbp, hpb, hN, hT⟩ := h
  have D : OGv w base p vn vt N T := ⟨hbp, hpb, hN, hT⟩
  have cF := findNode_any hN.isN hs h60 id
  rw [hf] at cF
  have hlt := fndN_lt hf
  obtain ⟨an, cn, hvn⟩ := own_slice hN.1
  obtain ⟨am, cm, hvt⟩ := own_slice hT
  subst hvn hvt
  obtain ⟨g, rfl⟩ : ∃ g, an = some ⟨g, 0, none⟩ := by
    rcases hN.1.2 with ⟨e, h0⟩ | ⟨g', cap', cur, e, _⟩
    · omega
    · injection e with e1; exact ⟨g', e1⟩
  have hcap : N.length ≤ cn := by
    rcases hN.1.2 with ⟨e, h0⟩ | ⟨g', cap', cur, e, _, _, h1, _⟩
    · cases e
    · injection e with _ _ e3; subst e3; exact h1
  have hnm := List.mem_of_getElem? hn
  obtain ⟨av, lv, cv, hv⟩ := (hN.2 n hnm).sl
  generalize loN id N = lo at *
  have x0 : w.cell? ⟨p, 0, none⟩ = some (.slice (some ⟨g, 0, none⟩) N.length cn) := cell_at hpb rfl
  have HX : Hid (∀ W, Below w.heap.size w W → OGv W base p (.slice (some ⟨g, 0, none⟩) N.length cn) (.slice am T.length cm) N T ∧ W.cell? ⟨p, 0, none⟩ = some (.slice (some ⟨g, 0, none⟩) N.length cn) ∧ W.cell? ⟨g, lo * 3 + 2, none⟩ = some n.rv ∧ W.frozen? ⟨g, lo * 3 + 2, none⟩ = false) := fun W hB => by
    have D' := D.on hB
    have := World.ownsRow.cells D'.hN.1 rfl (lo * 3 + 2) n.rv ((flatK nd_len N lo n 2 hn (by omega)).trans rfl)
    rw [Addr.add_lit, Nat.zero_add] at this
    exact ⟨D', cell_at D'.hp rfl, this, World.ownsRow.frozenAt D'.hN.1 _⟩
  have HN : Hid (N[lo]? = some n) := hn
  obtain ⟨ni, kd, rv, rc⟩ := n
  simp only at hv HX hch ⊢
  subst hv
  clear hpb hN hT hf hs D hn hnm
  by_cases hz : z = 0
  · subst hz
    rw [show errV 0 = .nilIface from rfl]
    unfold ChP at hch
    rw [show errV 0 = .nilIface from rfl] at hch
    go_enter Try.func40, Try.ntmps40
    go_wp2_with (first | (go_at_call 55; refine cF.mono ?_; rintro e W1 ⟨rfl, hB1⟩; obtain ⟨D1, y0, y1, y2⟩ := HX.out W1 hB1; have c2 := hch W1 hB1; clear D1) | (go_at_call 43; refine c2.mono ?_; rintro e W2 ⟨a2, l2, c2', rfl, hO2, hB2⟩; refine Hid.out ?_))
    refine Lib.hid ?_
    obtain ⟨D2, t0, t1, t2⟩ := HX.out W2 (on1K hB1 hB2 (Nat.le_refl _))
    have hO := hO2 (by trivial)
    have HO := Lib.hid (And.intro hO (And.intro D2 (And.intro (on1K hB1 hB2 (Nat.le_refl _)) hB1.size)))
    clear hO2 hO D2 hB1 hB2 c2 cF hch y0 y1 y2 HX
    go_wp2
    go_ret
    obtain ⟨o1, o2, o3, o4⟩ := HO.out
    obtain ⟨r1, r2⟩ := rec_put o2 HN.out o1 (Nat.le_trans hbw o4)
    exact ⟨rfl, fun _ => ⟨_, r2, r1⟩, (o3.mono hbw).setCell (World.ownsRow.lt o2.hN.1 g rfl).1 _⟩
  · rw [errV_ne hz]
    unfold ChP at hch
    rw [errV_ne hz] at hch
    have HZ := Lib.hid hz
    clear hz
    go_enter Try.func40, Try.ntmps40
    go_wp2_with (first | (go_at_call 55; refine cF.mono ?_; rintro e W1 ⟨rfl, hB1⟩; obtain ⟨D1, y0, y1, y2⟩ := HX.out W1 hB1; have c2 := hch W1 hB1; clear D1) | (go_at_call 43; refine c2.mono ?_; rintro e W2 ⟨a2, l2, c2', rfl, hO2, hB2⟩))
    go_ret
    exact ⟨rfl, fun h => absurd h HZ.out, (on1K hB1 hB2 (Nat.le_refl _)).mono hbw⟩
end Go.Proofs.Ytidmfdbckpficaa
