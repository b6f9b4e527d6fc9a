/-
  The walk of delta.changeRecord, whatever the change.
-/
import Derived.Test.YtifhigajonafdaaGreatS10
import Derived.Test.YtifhigajonafdaaGreatS07
import Derived.Test.YtifhigajonafdaaGreatS02
import Derived.Lib.Hide
namespace Go.Proofs.YtifhigajonafdaaGreat
open Go.RowKit
set_option linter.unusedVariables false
set_option linter.unusedSimpArgs false

def ChP (F : Nat) (q : Nat) (rv : Value) (z : Int) (r' : List Pr) (w : World) : Prop := ∀ W, Below w.heap.size w W → Calls Tryz.prog F #[rv, .pointer (some ⟨q, 0, none⟩)] W fun e w' => ∃ a l c, e = .returned (.tuple #[.slice a l c, errV z]) ∧ (z = 0 → OwnRc w' W.heap.size (.slice a l c) r') ∧ Below W.heap.size W w'

set_option maxHeartbeats 2000000 in
set_option maxRecDepth 100000 in
theorem change_no {w : World} {base p : Nat} {N : List Nd} {T : List Te} (h : OG w base p N T) (hs : SrtN N) (h60 : N.length ≤ 96) (id : Int) (F q : Nat) (hf : fndN id N = false) :
    Calls Tryz.prog 79 #[.pointer (some ⟨p, 0, none⟩), .int .i64 id, .func (.func F) #[] #[.pointer (some ⟨q, 0, none⟩)]] w fun e w' => e = .returned (.iface 74 (.int .i64 5)) ∧ Below w.heap.size w w' := by
  obtain ⟨vn, vt, hbp, hpb, hN, hT⟩ := h
  have cF := findNode_any hN.isN hs h60 id
  rw [hf] at cF
  obtain ⟨an, cn, hvn⟩ := own_slice hN.1
  subst hvn
  have x0 : w.cell? ⟨p, 0, none⟩ = some (.slice an N.length cn) := cell_at hpb rfl
  generalize loN id N = lo at *
  clear hpb hN hT hf hs
  go_enter Tryz.func79, Tryz.ntmps79
  go_wp2_with (first | (go_at_call 107; refine cF.mono ?_; rintro e W1 ⟨rfl, hB1⟩))
  go_ret
  exact ⟨rfl, hB1⟩

theorem set_same {α : Type} {l : List α} {i : Nat} {a : α} (h : l[i]? = some a) : l.set i a = l := by
  apply List.ext_getElem?
  intro j
  by_cases e : i = j
  · subst e
    rw [List.getElem?_set_self (List.getElem?_eq_some_iff.1 h).1, h]
  · rw [List.getElem?_set_ne e]
theorem cellsN_rec (N : List Nd) (k : Nat) (n : Nd) (hn : N[k]? = some n) (v : Value) (r : List Pr) : (cellsN N).set (k * 3 + 2) v = cellsN (N.set k ⟨n.id, n.kd, v, r⟩) := by
  rw [← cellsN_set N k (List.getElem?_eq_some_iff.1 hn).1 n.id n.kd v r]
  have h0 : (cellsN N)[k * 3]? = some (.int .i64 n.id) := (flatK nd_len N k n 0 hn (by omega)).trans rfl
  have h1 : (cellsN N)[k * 3 + 1]? = some (.string n.kd) := (flatK nd_len N k n 1 hn (by omega)).trans rfl
  rw [set_same h0, set_same h1]
theorem rec_put {W : World} {base p g cn lo B : Nat} {vt v : Value} {N : List Nd} {T : List Te} {n : Nd} {r' : List Pr} (D : OGv W base p (.slice (some ⟨g, 0, none⟩) N.length cn) vt N T) (hn : N[lo]? = some n) (hO : OwnRc W B v r') (hB : base ≤ B) :
    OG (W.setCell ⟨g, lo * 3 + 2, none⟩ v) base p (N.set lo ⟨n.id, n.kd, v, r'⟩) T ∧ cN (N.set lo ⟨n.id, n.kd, v, r'⟩) = (cN N).set lo ⟨n.id, n.kd, .nilIface, r'⟩ := by
  obtain ⟨s1, s2⟩ := World.ownsRow.stored D.hN.1 (lo * 3 + 2) v
  rw [cellsN_rec N lo n hn v r'] at s1
  have k : ∀ t, 48 ≠ t → Kt t W (W.setCell ⟨g, lo * 3 + 2, none⟩ v) := fun t ht => Kt.of_own D.hN.1 ht s2
  have hp : (W.setCell ⟨g, lo * 3 + 2, none⟩ v).heap[p]? = some (.cells #[.slice (some ⟨g, 0, none⟩) N.length cn, vt] 29 (0, 0)) := D.pN s2
  refine ⟨⟨_, _, D.hb, hp, ⟨by rw [List.length_set]; exact s1, fun m hm => ?_⟩, D.hT.kt (k 54 (by decide))⟩, ?_⟩
  · rcases List.mem_or_eq_of_mem_set hm with h | rfl
    · exact (D.hN.2 m h).kt (k 52 (by decide))
    · exact OwnRc.kt (own_base hO hB) (k 52 (by decide))
  · unfold cN
    rw [List.map_set]
    rfl

set_option maxHeartbeats 4000000 in
set_option maxRecDepth 100000 in
theorem change67_yes {w : World} {base p : Nat} {N : List Nd} {T : List Te} (h : OG w base p N T) (hbw : base ≤ w.heap.size) (hs : SrtN N) (h60 : N.length ≤ 96) (id : Int) (q : Nat) (hf : fndN id N = true) {n : Nd} (hn : N[loN id N]? = some n) {z : Int} {r' : List Pr}
    (hch : ChP 80 q n.rv z r' w) :
    Calls Tryz.prog 79 #[.pointer (some ⟨p, 0, none⟩), .int .i64 id, .func (.func 80) #[] #[.pointer (some ⟨q, 0, none⟩)]] w fun e w' => e = .returned (errV z) ∧ (z = 0 → ∃ N', cN N' = (cN N).set (loN id N) ⟨n.id, n.kd, .nilIface, r'⟩ ∧ OG w' base p N' T) ∧ Below base w w' := by
  obtain ⟨vn, vt, hbp, hpb, hN, hT⟩ := h
  have D : OGv w base p vn vt N T := ⟨hbp, hpb, hN, hT⟩
  have cF := findNode_any hN.isN hs h60 id
  rw [hf] at cF
  have hlt := fndN_lt hf
  obtain ⟨an, cn, hvn⟩ := own_slice hN.1
  obtain ⟨am, cm, hvt⟩ := own_slice hT
  subst hvn hvt
  obtain ⟨g, rfl⟩ : ∃ g, an = some ⟨g, 0, none⟩ := by
    rcases hN.1.2 with ⟨e, h0⟩ | ⟨g', cap', cur, e, _⟩
    · omega
    · injection e with e1; exact ⟨g', e1⟩
  have hcap : N.length ≤ cn := by
    rcases hN.1.2 with ⟨e, h0⟩ | ⟨g', cap', cur, e, _, _, h1, _⟩
    · cases e
    · injection e with _ _ e3; subst e3; exact h1
  have hnm := List.mem_of_getElem? hn
  obtain ⟨av, lv, cv, hv⟩ := (hN.2 n hnm).sl
  generalize loN id N = lo at *
  have x0 : w.cell? ⟨p, 0, none⟩ = some (.slice (some ⟨g, 0, none⟩) N.length cn) := cell_at hpb rfl
  have HX : Hid (∀ W, Below w.heap.size w W → OGv W base p (.slice (some ⟨g, 0, none⟩) N.length cn) (.slice am T.length cm) N T ∧ W.cell? ⟨p, 0, none⟩ = some (.slice (some ⟨g, 0, none⟩) N.length cn) ∧ W.cell? ⟨g, lo * 3 + 2, none⟩ = some n.rv ∧ W.frozen? ⟨g, lo * 3 + 2, none⟩ = false) := fun W hB => by
    have D' := D.on hB
    have := World.ownsRow.cells D'.hN.1 rfl (lo * 3 + 2) n.rv ((flatK nd_len N lo n 2 hn (by omega)).trans rfl)
    rw [Addr.add_lit, Nat.zero_add] at this
    exact ⟨D', cell_at D'.hp rfl, this, World.ownsRow.frozenAt D'.hN.1 _⟩
  have HN : Hid (N[lo]? = some n) := hn
  obtain ⟨ni, kd, rv, rc⟩ := n
  simp only at hv HX hch ⊢
  subst hv
  clear hpb hN hT hf hs D hn hnm
  by_cases hz : z = 0
  · subst hz
    rw [show errV 0 = .nilIface from rfl]
    unfold ChP at hch
    rw [show errV 0 = .nilIface from rfl] at hch
    go_enter Tryz.func79, Tryz.ntmps79
    go_wp2_with (first | (go_at_call 107; refine cF.mono ?_; rintro e W1 ⟨rfl, hB1⟩; obtain ⟨D1, y0, y1, y2⟩ := HX.out W1 hB1; have c2 := hch W1 hB1; clear D1) | (go_at_call 80; refine c2.mono ?_; rintro e W2 ⟨a2, l2, c2', rfl, hO2, hB2⟩; refine Hid.out ?_))
    refine Lib.hid ?_
    obtain ⟨D2, t0, t1, t2⟩ := HX.out W2 (on1K hB1 hB2 (Nat.le_refl _))
    have hO := hO2 (by trivial)
    have HO := Lib.hid (And.intro hO (And.intro D2 (And.intro (on1K hB1 hB2 (Nat.le_refl _)) hB1.size)))
    clear hO2 hO D2 hB1 hB2 c2 cF hch y0 y1 y2 HX
    go_wp2
    go_ret
    obtain ⟨o1, o2, o3, o4⟩ := HO.out
    obtain ⟨r1, r2⟩ := rec_put o2 HN.out o1 (Nat.le_trans hbw o4)
    exact ⟨rfl, fun _ => ⟨_, r2, r1⟩, (o3.mono hbw).setCell (World.ownsRow.lt o2.hN.1 g rfl).1 _⟩
  · rw [errV_ne hz]
    unfold ChP at hch
    rw [errV_ne hz] at hch
    have HZ := Lib.hid hz
    clear hz
    go_enter Tryz.func79, Tryz.ntmps79
    go_wp2_with (first | (go_at_call 107; refine cF.mono ?_; rintro e W1 ⟨rfl, hB1⟩; obtain ⟨D1, y0, y1, y2⟩ := HX.out W1 hB1; have c2 := hch W1 hB1; clear D1) | (go_at_call 80; refine c2.mono ?_; rintro e W2 ⟨a2, l2, c2', rfl, hO2, hB2⟩))
    go_ret
    exact ⟨rfl, fun h => absurd h HZ.out, (on1K hB1 hB2 (Nat.le_refl _)).mono hbw⟩
set_option maxHeartbeats 4000000 in
set_option maxRecDepth 100000 in
theorem change69_yes {w : World} {base p : Nat} {N : List Nd} {T : List Te} (h : OG w base p N T) (hbw : base ≤ w.heap.size) (hs : SrtN N) (h60 : N.length ≤ 96) (id : Int) (q : Nat) (hf : fndN id N = true) {n : Nd} (hn : N[loN id N]? = some n) {z : Int} {r' : List Pr}
    (hch : ChP 82 q n.rv z r' w) :
    Calls Tryz.prog 79 #[.pointer (some ⟨p, 0, none⟩), .int .i64 id, .func (.func 82) #[] #[.pointer (some ⟨q, 0, none⟩)]] w fun e w' => e = .returned (errV z) ∧ (z = 0 → ∃ N', cN N' = (cN N).set (loN id N) ⟨n.id, n.kd, .nilIface, r'⟩ ∧ OG w' base p N' T) ∧ Below base w w' := by
  obtain ⟨vn, vt, hbp, hpb, hN, hT⟩ := h
  have D : OGv w base p vn vt N T := ⟨hbp, hpb, hN, hT⟩
  have cF := findNode_any hN.isN hs h60 id
  rw [hf] at cF
  have hlt := fndN_lt hf
  obtain ⟨an, cn, hvn⟩ := own_slice hN.1
  obtain ⟨am, cm, hvt⟩ := own_slice hT
  subst hvn hvt
  obtain ⟨g, rfl⟩ : ∃ g, an = some ⟨g, 0, none⟩ := by
    rcases hN.1.2 with ⟨e, h0⟩ | ⟨g', cap', cur, e, _⟩
    · omega
    · injection e with e1; exact ⟨g', e1⟩
  have hcap : N.length ≤ cn := by
    rcases hN.1.2 with ⟨e, h0⟩ | ⟨g', cap', cur, e, _, _, h1, _⟩
    · cases e
    · injection e with _ _ e3; subst e3; exact h1
  have hnm := List.mem_of_getElem? hn
  obtain ⟨av, lv, cv, hv⟩ := (hN.2 n hnm).sl
  generalize loN id N = lo at *
  have x0 : w.cell? ⟨p, 0, none⟩ = some (.slice (some ⟨g, 0, none⟩) N.length cn) := cell_at hpb rfl
  have HX : Hid (∀ W, Below w.heap.size w W → OGv W base p (.slice (some ⟨g, 0, none⟩) N.length cn) (.slice am T.length cm) N T ∧ W.cell? ⟨p, 0, none⟩ = some (.slice (some ⟨g, 0, none⟩) N.length cn) ∧ W.cell? ⟨g, lo * 3 + 2, none⟩ = some n.rv ∧ W.frozen? ⟨g, lo * 3 + 2, none⟩ = false) := fun W hB => by
    have D' := D.on hB
    have := World.ownsRow.cells D'.hN.1 rfl (lo * 3 + 2) n.rv ((flatK nd_len N lo n 2 hn (by omega)).trans rfl)
    rw [Addr.add_lit, Nat.zero_add] at this
    exact ⟨D', cell_at D'.hp rfl, this, World.ownsRow.frozenAt D'.hN.1 _⟩
  have HN : Hid (N[lo]? = some n) := hn
  obtain ⟨ni, kd, rv, rc⟩ := n
  simp only at hv HX hch ⊢
  subst hv
  clear hpb hN hT hf hs D hn hnm
  by_cases hz : z = 0
  · subst hz
    rw [show errV 0 = .nilIface from rfl]
    unfold ChP at hch
    rw [show errV 0 = .nilIface from rfl] at hch
    go_enter Tryz.func79, Tryz.ntmps79
    go_wp2_with (first | (go_at_call 107; refine cF.mono ?_; rintro e W1 ⟨rfl, hB1⟩; obtain ⟨D1, y0, y1, y2⟩ := HX.out W1 hB1; have c2 := hch W1 hB1; clear D1) | (go_at_call 82; refine c2.mono ?_; rintro e W2 ⟨a2, l2, c2', rfl, hO2, hB2⟩; refine Hid.out ?_))
    refine Lib.hid ?_
    obtain ⟨D2, t0, t1, t2⟩ := HX.out W2 (on1K hB1 hB2 (Nat.le_refl _))
    have hO := hO2 (by trivial)
    have HO := Lib.hid (And.intro hO (And.intro D2 (And.intro (on1K hB1 hB2 (Nat.le_refl _)) hB1.size)))
    clear hO2 hO D2 hB1 hB2 c2 cF hch y0 y1 y2 HX
    go_wp2
    go_ret
    obtain ⟨o1, o2, o3, o4⟩ := HO.out
    obtain ⟨r1, r2⟩ := rec_put o2 HN.out o1 (Nat.le_trans hbw o4)
    exact ⟨rfl, fun _ => ⟨_, r2, r1⟩, (o3.mono hbw).setCell (World.ownsRow.lt o2.hN.1 g rfl).1 _⟩
  · rw [errV_ne hz]
    unfold ChP at hch
    rw [errV_ne hz] at hch
    have HZ := Lib.hid hz
    clear hz
    go_enter Tryz.func79, Tryz.ntmps79
    go_wp2_with (first | (go_at_call 107; refine cF.mono ?_; rintro e W1 ⟨rfl, hB1⟩; obtain ⟨D1, y0, y1, y2⟩ := HX.out W1 hB1; have c2 := hch W1 hB1; clear D1) | (go_at_call 82; refine c2.mono ?_; rintro e W2 ⟨a2, l2, c2', rfl, hO2, hB2⟩))
    go_ret
    exact ⟨rfl, fun h => absurd h HZ.out, (on1K hB1 hB2 (Nat.le_refl _)).mono hbw⟩
end Go.Proofs.YtifhigajonafdaaGreat

/-
  The walks of record.find and record.Get.
-/
namespace Go.Proofs.YtifhigajonafdaaGreat
open Go.RowKit
set_option linter.unusedVariables false
set_option linter.unusedSimpArgs false

theorem rErr_len {L : List Pr} (h : rErr L = 0) : L.length ≤ 8 := by
  unfold rErr at h; split at h
  · exact absurd h (by decide)
  · omega
theorem on1R {W0 W W' : World} (hK : Below W0.heap.size W0 W) (hb : Below W.heap.size W W') : Below W0.heap.size W0 W' := hK.trans (hb.mono hK.size)
def idxP (nm : List UInt8) : List Pr → Nat → Int
  | [], _ => -1
  | p :: r, k => if (p.nm.toList == nm) = true then k else idxP nm r (k + 1)
set_option maxHeartbeats 1000000 in
theorem risName_any (p : Pr) (b : Nat) (s : ByteArray) (w : World) (hc : w.cell? ⟨b, 0, none⟩ = some (.string s)) (hb : b < w.heap.size) :
    Calls Tryz.prog 144 #[p.one, .pointer (some ⟨b, 0, none⟩)] w fun e w' => e = .returned (.bool (p.nm.toList == s.toList)) ∧ w' = w.alloc (.cells #[.string p.nm, .int .i64 p.t, .int .i64 p.n, .string p.s] 52) := by
  go_enter Tryz.func144, Tryz.ntmps144
  go_wp2
  go_ret
  exact ⟨rfl, rfl⟩
set_option maxHeartbeats 4000000 in
set_option maxRecDepth 100000 in
theorem rindex_some (b off cap : Nat) (L : List Pr) (bn : Nat) (s : ByteArray) (w : World) (hb : b < w.heap.size) (hL : Lies w b off L) (hn : L.length ≤ 8) (hbn : bn < w.heap.size) (hc : w.cell? ⟨bn, 0, none⟩ = some (.string s)) :
    Calls Tryz.prog 143 #[.slice (some ⟨b, off, none⟩) L.length cap, .func (.func 144) #[] #[.pointer (some ⟨bn, 0, none⟩)]] w fun e w' => e = .returned (.int .i64 (idxP s.toList L 0)) ∧ Below w.heap.size w w' := by
  go_enter Tryz.func143, Tryz.ntmps143
  go_wp2
  go_loopw [8] (fun i wr => ∃ k : Nat, k ≤ L.length ∧ i = .int .i64 k ∧ idxP s.toList L 0 = idxP s.toList (L.drop k) k ∧ Below w.heap.size w wr) (fun i _ => L.length - (intOf i).toNat)
  case atStart => exact ⟨0, Nat.zero_le _, rfl, rfl, Below.refl _ _⟩
  case round =>
    obtain ⟨k, hk, rfl, hi, hB⟩ := hrel
    have HI : Hid (idxP s.toList L 0 = idxP s.toList (L.drop k) k) := hi
    clear hi
    by_cases hlt : k < L.length
    · obtain ⟨p, hp⟩ : ∃ p, L[k]? = some p := ⟨L[k], by simp [hlt]⟩
      obtain ⟨c0, c1, c2, c3⟩ := hL k p hp
      have d0 := (hB.cell (p := ⟨b, off + k * 4, none⟩) hb).trans c0
      have d1 := (hB.cell (p := ⟨b, off + k * 4 + 1, none⟩) hb).trans c1
      have d2 := (hB.cell (p := ⟨b, off + k * 4 + 2, none⟩) hb).trans c2
      have d3 := (hB.cell (p := ⟨b, off + k * 4 + 3, none⟩) hb).trans c3
      have HD : Hid (L.drop k = p :: L.drop (k + 1)) := drop_at hp
      have cn := risName_any p bn s wr ((hB.cell (p := ⟨bn, 0, none⟩) hbn).trans hc) (Nat.lt_of_lt_of_le hbn hB.size)
      clear c0 c1 c2 c3 hp hL hc
      by_cases hq : (p.nm.toList == s.toList) = true
      · have H : Hid (idxP s.toList L 0 = k) := by
          show _ = _
          rw [HI.out, HD.out]; unfold idxP; rw [if_pos hq]
        rw [hq] at cn
        clear HI HD hq
        go_wp2_with (go_at_call 144; refine cn.mono ?_; rintro e w' ⟨rfl, rfl⟩)
        go_ret
        exact ⟨ret_v (by rw [H.out]; rfl), b_alloc hB _⟩
      · have H : Hid (idxP s.toList L 0 = idxP s.toList (L.drop (k + 1)) (k + 1)) := by
          show _ = _
          rw [HI.out, HD.out]; conv => lhs; unfold idxP
          rw [if_neg hq]
        have hq' : (p.nm.toList == s.toList) = false := by simpa using hq
        rw [hq'] at cn
        clear HI HD hq hq'
        go_wp2_with (go_at_call 144; refine cn.mono ?_; rintro e w' ⟨rfl, rfl⟩)
        go_roundw
        case rel => exact ⟨k + 1, by omega, by go_num, H.out, b_alloc hB _⟩
        case measure => simp [intOf]; omega
    · have hd : L.drop k = [] := List.drop_eq_nil_of_le (by omega)
      have H : Hid (idxP s.toList L 0 = -1) := by
        show _ = _
        rw [HI.out, hd]; rfl
      clear HI hd hL hc
      go_wp2
      go_ret
      exact ⟨ret_v (by rw [H.out]; rfl), hB⟩
set_option maxHeartbeats 1000000 in
theorem rindex_nil (ao : Option Addr) (c : Nat) (f : Value) (w : World) :
    Calls Tryz.prog 143 #[.slice ao 0 c, f] w fun e w' => e = .returned (.int .i64 (-1)) ∧ Below w.heap.size w w' := by
  go_enter Tryz.func143, Tryz.ntmps143
  go_wp2
  go_loopw [8] (fun i wr => i = .int .i64 0 ∧ wr = w) (fun i _ => 0)
  case atStart => exact ⟨rfl, rfl⟩
  case round =>
    obtain ⟨rfl, rfl⟩ := hrel
    go_wp2
    go_ret
    exact ⟨rfl, Below.refl _ _⟩
theorem rindex_any {v : Value} {L : List Pr} {w : World} (h : IsR w v L) (hn : L.length ≤ 8) (bn : Nat) (s : ByteArray) (hbn : bn < w.heap.size) (hc : w.cell? ⟨bn, 0, none⟩ = some (.string s)) :
    Calls Tryz.prog 143 #[v, .func (.func 144) #[] #[.pointer (some ⟨bn, 0, none⟩)]] w fun e w' => e = .returned (.int .i64 (idxP s.toList L 0)) ∧ Below w.heap.size w w' := by
  obtain ⟨ao, cap, rfl, rfl | ⟨b, off, rfl, hb, hl⟩⟩ := h
  · exact rindex_nil _ _ _ w
  · exact rindex_some b off cap L bn s w hb hl hn hbn hc

theorem idxP_spec (nm : List UInt8) (L : List Pr) : ∀ k, idxP nm L k = -1 ∨ ∃ j q, idxP nm L k = ((k + j : Nat) : Int) ∧ L[j]? = some q ∧ (q.nm.toList == nm) = true := by
  induction L with
  | nil => intro k; left; rfl
  | cons p r ih =>
    intro k
    by_cases h : (p.nm.toList == nm) = true
    · right; exact ⟨0, p, by unfold idxP; rw [if_pos h]; simp, rfl, h⟩
    · have e : idxP nm (p :: r) k = idxP nm r (k + 1) := by
        conv => lhs; unfold idxP
        rw [if_neg h]
      rw [e]
      rcases ih (k + 1) with h1 | ⟨j, q, h1, h2, h3⟩
      · exact .inl h1
      · exact .inr ⟨j + 1, q, by rw [h1]; congr 1; omega, by simpa using h2, h3⟩

def rfErr (nm : List UInt8) (L : List Pr) : Int := if rErr L = 0 then (if idxP nm L 0 = -1 then 5 else 0) else rErr L
def rfAt (nm : List UInt8) (L : List Pr) : Int := if rfErr nm L = 0 then idxP nm L 0 else 0

set_option maxHeartbeats 4000000 in
set_option maxRecDepth 100000 in
theorem rfind_any {v : Value} {L : List Pr} {w : World} (h : IsR w v L) (hs : Sz L) (hm : L.length ≤ maxLen) (s : ByteArray) :
    Calls Tryz.prog 113 #[v, .string s] w fun e w' => e = .returned (.tuple #[.int .i64 (rfAt s.toList L), errV (rfErr s.toList L)]) ∧ Below w.heap.size w w' := by
  have hB0 : Below w.heap.size w (w.alloc (.cells #[.string s] 9)) := b_alloc (Below.refl _ _) _
  have c1 := rcheck_r (h.on hB0) hs hm
  by_cases e1 : rErr L = 0
  · have hn := rErr_len e1
    rw [e1, errV_0] at c1
    have H2 : Hid (IsR w v L ∧ L.length ≤ 8 ∧ rErr L = 0) := ⟨h, hn, e1⟩
    rcases idxP_spec s.toList L 0 with hx | ⟨j, q, hx, hq, _⟩
    · have HE : Hid (rfErr s.toList L = 5 ∧ rfAt s.toList L = 0 ∧ idxP s.toList L 0 = -1) := by
        have e5 : rfErr s.toList L = 5 := by unfold rfErr; rw [if_pos e1, if_pos hx]
        exact ⟨e5, by unfold rfAt; rw [if_neg (by rw [e5]; decide)], hx⟩
      clear h hs hm e1 hn hx
      go_enter Tryz.func113, Tryz.ntmps113
      go_wp2_with (go_at_call 90; refine c1.mono ?_; rintro e W1 ⟨rfl, hB1⟩; refine Hid.out ?_)
      refine Lib.hid ?_
      have hB := on1R hB0 hB1
      have c2 := rindex_any (H2.out.1.on hB) H2.out.2.1 w.heap.size s (Nat.lt_of_lt_of_le (by simp) hB1.size) ((hB1.cell (p := ⟨w.heap.size, 0, none⟩) (by simp)).trans (by simp))
      rw [HE.out.2.2] at c2
      clear c1
      go_wp2_with (go_at_call 143; refine c2.mono ?_; rintro e W2 ⟨rfl, hB2⟩)
      go_ret2
      exact ⟨ret_v (by rw [HE.out.1, HE.out.2.1]; rfl), on1R hB hB2⟩
    · have hj : j < L.length := (List.getElem?_eq_some_iff.1 hq).1
      have HE : Hid (rfErr s.toList L = 0 ∧ rfAt s.toList L = j ∧ idxP s.toList L 0 = j) := by
        have hx' : idxP s.toList L 0 = (j : Int) := by simpa using hx
        have e5 : rfErr s.toList L = 0 := by unfold rfErr; rw [if_pos e1, if_neg (by rw [hx']; omega)]
        exact ⟨e5, by unfold rfAt; rw [if_pos e5, hx'], hx'⟩
      have hj8 : j < 8 := by omega
      clear h hs hm e1 hx hq hn hj
      go_enter Tryz.func113, Tryz.ntmps113
      go_wp2_with (go_at_call 90; refine c1.mono ?_; rintro e W1 ⟨rfl, hB1⟩; refine Hid.out ?_)
      refine Lib.hid ?_
      have hB := on1R hB0 hB1
      have c2 := rindex_any (H2.out.1.on hB) H2.out.2.1 w.heap.size s (Nat.lt_of_lt_of_le (by simp) hB1.size) ((hB1.cell (p := ⟨w.heap.size, 0, none⟩) (by simp)).trans (by simp))
      rw [HE.out.2.2] at c2
      clear c1
      go_wp2_with (go_at_call 143; refine c2.mono ?_; rintro e W2 ⟨rfl, hB2⟩)
      go_ret2
      exact ⟨ret_v (by rw [HE.out.1, HE.out.2.1]; rfl), on1R hB hB2⟩
  · have HE : Hid (rfErr s.toList L = rErr L ∧ ¬ rErr L = 0 ∧ rfAt s.toList L = 0) := by
      have e5 : rfErr s.toList L = rErr L := by unfold rfErr; rw [if_neg e1]
      exact ⟨e5, e1, by unfold rfAt; rw [if_neg (by rw [e5]; exact e1)]⟩
    rw [errV_ne e1] at c1
    clear h hs hm e1
    go_enter Tryz.func113, Tryz.ntmps113
    go_wp2_with (go_at_call 90; refine c1.mono ?_; rintro e W1 ⟨rfl, hB1⟩)
    go_ret2
    exact ⟨ret_v (by rw [HE.out.1, errV_ne HE.out.2.1, HE.out.2.2]; rfl), on1R hB0 hB1⟩

def getV (nm : List UInt8) (L : List Pr) : Value :=
  if rfErr nm L = 0 then (match L[(idxP nm L 0).toNat]? with | some q => .agg #[.int .i64 q.t, .int .i64 q.n, .string q.s] | none => .agg #[.int .i64 0, .int .i64 0, .string ⟨#[]⟩]) else .agg #[.int .i64 0, .int .i64 0, .string ⟨#[]⟩]

set_option maxHeartbeats 4000000 in
set_option maxRecDepth 100000 in
theorem get_any {v : Value} {L : List Pr} {w : World} (h : IsR w v L) (hs : Sz L) (hm : L.length ≤ maxLen) (s : ByteArray) :
    Calls Tryz.prog 129 #[v, .string s] w fun e w' => e = .returned (.tuple #[getV s.toList L, errV (rfErr s.toList L)]) ∧ Below w.heap.size w w' := by
  have hB0 : Below w.heap.size w (w.alloc (.cells #[.int .i64 0, .int .i64 0, .string ⟨#[]⟩] 50)) := b_alloc (Below.refl _ _) _
  have c1 := rfind_any (h.on hB0) hs hm s
  by_cases e1 : rfErr s.toList L = 0
  · have e2 : rErr L = 0 := by
      unfold rfErr at e1; split at e1
      · assumption
      · exact absurd e1 (by assumption)
    have hx : ¬ idxP s.toList L 0 = -1 := by
      intro e; unfold rfErr at e1; rw [if_pos e2, if_pos e] at e1; exact absurd e1 (by decide)
    obtain ⟨j, q, hj, hq, _⟩ := (idxP_spec s.toList L 0).resolve_left hx
    have hj' : idxP s.toList L 0 = (j : Int) := by simpa using hj
    have HG : Hid (getV s.toList L = .agg #[.int .i64 q.t, .int .i64 q.n, .string q.s] ∧ rfErr s.toList L = 0) := by
      refine ⟨?_, e1⟩
      unfold getV; rw [if_pos e1, hj']; simp [hq]
    have hA : rfAt s.toList L = (j : Int) := by unfold rfAt; rw [if_pos e1, hj']
    rw [e1, errV_0, hA] at c1
    obtain ⟨ao, cap, rfl, rfl | ⟨b, off, rfl, hb, hl⟩⟩ := h
    · simp at hq
    · obtain ⟨c0, d1, d2, d3⟩ := hl j q hq
      have hjl : j < L.length := (List.getElem?_eq_some_iff.1 hq).1
      have hn := rErr_len e2
      have hbn : ¬ b = w.heap.size := by omega
      clear hs hm e1 e2 hx hj hj' hq hA hl c0
      go_enter Tryz.func129, Tryz.ntmps129
      go_wp2_with (go_at_call 113; refine c1.mono ?_; rintro e W1 ⟨rfl, hB1⟩; refine Hid.out ?_)
      refine Lib.hid ?_
      have hB := on1R hB0 hB1
      have f1 := (hB.cell (p := ⟨b, off + j * 4 + 1, none⟩) hb).trans d1
      have f2 := (hB.cell (p := ⟨b, off + j * 4 + 2, none⟩) hb).trans d2
      have f3 := (hB.cell (p := ⟨b, off + j * 4 + 3, none⟩) hb).trans d3
      have hzs : w.heap.size < W1.heap.size := Nat.lt_of_lt_of_le (by simp) hB1.size
      have g0 := hB1.cell (p := ⟨w.heap.size, 0, none⟩) (by simp)
      have g1 := hB1.cell (p := ⟨w.heap.size, 1, none⟩) (by simp)
      have g2 := hB1.cell (p := ⟨w.heap.size, 2, none⟩) (by simp)
      have k0 := hB1.frozen (p := ⟨w.heap.size, 0, none⟩) (by simp)
      have k1 := hB1.frozen (p := ⟨w.heap.size, 1, none⟩) (by simp)
      have k2 := hB1.frozen (p := ⟨w.heap.size, 2, none⟩) (by simp)
      simp at g0 g1 g2 k0 k1 k2
      clear c1 d1 d2 d3
      go_wp2
      exact bodyPost_ret (v := .tuple #[.agg #[.int .i64 q.t, .int .i64 q.n, .string q.s], .nilIface]) (by simp [results, Tryz.results129, go_sem, g0, g1, g2, hzs]) rfl
        ⟨ret_v (by rw [HG.out.1, HG.out.2]; rfl), ((hB.setCell (by simp) _).setCell (by simp) _).setCell (by simp) _⟩
  · have hA : rfAt s.toList L = 0 := by unfold rfAt; rw [if_neg e1]
    have HG : Hid (getV s.toList L = .agg #[.int .i64 0, .int .i64 0, .string ⟨#[]⟩] ∧ ¬ rfErr s.toList L = 0) := by
      refine ⟨?_, e1⟩
      unfold getV; rw [if_neg e1]
    rw [errV_ne e1, hA] at c1
    generalize rfErr s.toList L = ee at c1 HG ⊢
    clear h hs hm e1 hA
    go_enter Tryz.func129, Tryz.ntmps129
    go_wp2_with (go_at_call 113; refine c1.mono ?_; rintro e W1 ⟨rfl, hB1⟩; refine Hid.out ?_)
    refine Lib.hid ?_
    have hB := on1R hB0 hB1
    have hzs : w.heap.size < W1.heap.size := Nat.lt_of_lt_of_le (by simp) hB1.size
    have g0 := hB1.cell (p := ⟨w.heap.size, 0, none⟩) (by simp)
    have g1 := hB1.cell (p := ⟨w.heap.size, 1, none⟩) (by simp)
    have g2 := hB1.cell (p := ⟨w.heap.size, 2, none⟩) (by simp)
    have k0 := hB1.frozen (p := ⟨w.heap.size, 0, none⟩) (by simp)
    have k1 := hB1.frozen (p := ⟨w.heap.size, 1, none⟩) (by simp)
    have k2 := hB1.frozen (p := ⟨w.heap.size, 2, none⟩) (by simp)
    simp at g0 g1 g2 k0 k1 k2
    clear c1
    go_wp2
    exact bodyPost_ret (v := .tuple #[.agg #[.int .i64 0, .int .i64 0, .string ⟨#[]⟩], .iface 74 (.int .i64 ee)]) (by simp [results, Tryz.results129, go_sem, g0, g1, g2, hzs]) rfl
      ⟨ret_v (by rw [HG.out.1, errV_ne HG.out.2]), ((hB.setCell (by simp) _).setCell (by simp) _).setCell (by simp) _⟩
end Go.Proofs.YtifhigajonafdaaGreat
