import Derived.Test.YtahamkajkkkjdaaGreatDoorM44
import Derived.Test.YtahamkajkkkjdaaGreatDoorM22
import Derived.Deep.RegionLaw
import Derived.Deep.DeepCutAuto
import Derived.Test.YtahamkajkkkjdaaGreatDoorM40
import Derived.Deep.RegionHeld
import Derived.Deep.RegionHeld3
import Derived.Deep.RegionHeldLaw
import Derived.Deep.MidRow
import Derived.Deep.WholeRow
import Derived.Test.YtahamkajkkkjdaaGreatDoorM43
namespace Go.Proofs.YtahamkajkkkjdaaGreatDoor
open Go.RowKit
set_option linter.unusedVariables false
set_option linter.unusedSimpArgs false
theorem szN_c {X M : List Nd} (h : cN X = cN M) (hz : SzN M) : SzN X := fun x hx => by
  obtain ⟨i, hi⟩ := List.getElem?_of_mem hx
  have h9 : (cN X)[i]? = some x.c := by unfold cN; rw [List.getElem?_map, hi]; rfl
  rw [h] at h9
  unfold cN at h9
  rw [List.getElem?_map] at h9
  obtain ⟨y, hy, e9⟩ := Option.map_eq_some_iff.1 h9
  have e1 : x.kd = y.kd := (congrArg Nd.kd e9).symm
  have e2 : x.rc = y.rc := (congrArg Nd.rc e9).symm
  rw [e1, e2]
  exact hz y (List.mem_of_getElem? hy)
section
variable {w1 w : World} {p : Nat} {c : Ch} {K : List Nm} {L : List Kd} {B : List Bd} {N : List Nd} {T : List Te} {M : List Nd} {k : Nat} {uk ub ks fn vn vt vm : Value}
def DnP (w1 w : World) (p : Nat) (c : Ch) (L : List Kd) (B : List Bd) (M : List Nd) (T : List Te) (e : Ending) (w' : World) : Prop :=
  ∃ X, cN X = cN M ∧ (confB L B X (T.filter (keepB (drp c))) = true → ∃ xk xb un ut R, e = .returned (.tuple #[.agg #[xk, xb], .agg #[un, ut], .nilIface]) ∧ R.map kq3 = L.map kq3 ∧ OwnKs w' w1.heap.size xk R ∧ OwnBs w' w1.heap.size xb B ∧ OwnNs w' w1.heap.size un X ∧ OwnTs w' w1.heap.size ut (T.filter (keepB (drp c)))) ∧ (confB L B X (T.filter (keepB (drp c))) = false → e = .returned (.tuple #[.agg #[.slice none 0 0, .slice none 0 0], .agg #[.slice none 0 0, .slice none 0 0], errV 9])) ∧ w.grownBy w' (some p)
theorem grown_setB {w W : World} {r : Option Nat} (h : w.grownBy W r) {b i : Nat} (hb : w.heap.size ≤ b) (v : Value) : w.grownBy (W.setCell ⟨b, i, none⟩ v) r :=
  ⟨h.os, h.tape, h.output, by rw [World.size_setCell]; exact h.size, fun x hx hne => (heap_setCell_other W ⟨b, i, none⟩ x v (by show x ≠ b; omega)).trans (h.block x hx hne)⟩
set_option maxHeartbeats 8000000 in
set_option maxRecDepth 100000 in
theorem done_any (h : Mv w1 w p c K L B N T M k uk ub ks fn vn vt vm) (hk : k = N.length) (hl : N.length ≤ 60) (ht : T.length ≤ 120) (hrl : ∀ x ∈ M, x.rc.length ≤ 1000) (hzK : SzK L) (hzB : SzB B) (hzM : SzN M) (hzT : SzT T) (hlL : L.length ≤ 1000) (hlB : B.length ≤ 1000) (hsL : ∀ x ∈ L, x.of.length * 16 ≤ 140737488355328 ∧ x.fs.length * 32 ≤ 140737488355328) :
    Calls Tryz.prog 105 #[.pointer (some ⟨p, 0, none⟩)] w (DnP w1 w p c L B M T) := by
  obtain ⟨⟨u1, u2, u3, rfl⟩, ⟨b1, b2, b3, rfl⟩, ⟨k1, k2, k3, rfl⟩, ⟨n1, n2, n3, rfl⟩, ⟨t1, t2, t3, rfl⟩, ⟨a, cap, rfl⟩, hf1⟩ := h.sl
  obtain ⟨W0, hW0⟩ : ∃ W0, W0 = (w.alloc (.cells #[.slice none 0 0, .slice none 0 0] 34)).alloc (.cells #[.slice none 0 0, .slice none 0 0] 67) := ⟨_, rfl⟩
  have hB0 : Below w.heap.size w W0 := by rw [hW0]; exact b_alloc (b_alloc (Below.refl _ _) _) _
  have hz0 : W0.heap.size = w.heap.size + 2 := by rw [hW0]; simp
  have n0 : W0.heap[w.heap.size]? = some (.cells #[.slice none 0 0, .slice none 0 0] 34 (0, 0)) := by rw [hW0]; exact (heap_alloc_old _ _ (by simp)).trans (heap_alloc_new w _)
  have n1' : W0.heap[w.heap.size + 1]? = some (.cells #[.slice none 0 0, .slice none 0 0] 67 (0, 0)) := by
    have := heap_alloc_new (w.alloc (.cells #[.slice none 0 0, .slice none 0 0] 34)) (.cells #[.slice none 0 0, .slice none 0 0] 67)
    rw [World.size_alloc] at this; rw [hW0]; exact this
  have h0 := h.on hB0
  have cl := left_any h0 (by omega)
  rw [show (N.length : Int) - k = 0 by omega] at cl
  have HG : Hid (∀ W, Below W0.heap.size W0 W → Calls Tryz.prog 137 #[.pointer (some ⟨p, 0, none⟩)] W fun e w' => ∃ a1 l1 c1 a2 l2 c2 X, e = .returned (.agg #[.slice a1 l1 c1, .slice a2 l2 c2]) ∧ cN X = cN M ∧ OwnNs w' W.heap.size (.slice a1 l1 c1) X ∧ OwnTs w' W.heap.size (.slice a2 l2 c2) T ∧ Below W.heap.size W w') := fun W hB => (mgraph_any (h0.on hB) hl ht hrl).mono (by
    rintro e w' ⟨un, ut, X, he, h1, h2, h3, h4⟩
    obtain ⟨a1, c1, rfl⟩ := own_slice h2.1
    obtain ⟨a2, c2, rfl⟩ := own_slice h3
    exact ⟨_, _, _, _, _, _, X, he, h1, h2, h3, h4⟩)
  have HH := Lib.hid (And.intro h (And.intro hB0 (And.intro hz0 (And.intro n0 (And.intro n1' (And.intro hzK (And.intro hzB (And.intro hzM (And.intro hzT (And.intro hlL (And.intro hlB (And.intro hsL (And.intro hl ht)))))))))))))
  clear h h0 hk hl ht hrl hzK hzB hzM hzT hlL hlB hsL hB0 hz0 n0 n1'
  go_enter Tryz.func105, Tryz.ntmps105
  go_upto_region 1 with fail
  rw [← hW0]
  clear hW0
  go_upto_region 3 with (go_at_call 103; refine cl.mono ?_; rintro e W1 ⟨rfl, hB1⟩)
  have cG := HG.out W1 hB1
  clear cl HG
  go_upto_region 4 with (go_at_call 137; refine cG.mono ?_; rintro e W2 ⟨a1, l1, c1, a2, l2, c2, X, rfl, hX, hO, hOt, hB2⟩)
  clear cG
  obtain ⟨W3, hW3⟩ : ∃ W3, W3 = W2.alloc (.cells #[.slice a1 l1 c1, .slice a2 l2 c2] 67) := ⟨_, rfl⟩
  rw [← hW3]
  have hB3 : Below W2.heap.size W2 W3 := by rw [hW3]; exact b_alloc (Below.refl _ _) _
  have y3 : W3.heap[W2.heap.size]? = some (.cells #[.slice a1 l1 c1, .slice a2 l2 c2] 67 (0, 0)) := by rw [hW3]; exact heap_alloc_new W2 _
  have hq0 : w.heap.size + 2 ≤ W2.heap.size := by have h7 := hB1.size; have h8 := hB2.size; have h9 := HH.out.2.2.1; omega
  have hB03 : Below W0.heap.size W0 W3 := on1K hB1 (on1K hB2 hB3 (Nat.le_refl _)) (Nat.le_refl _)
  have hw13 : w1.heap.size ≤ W1.heap.size := by have h7 := HH.out.1.hB.size; have h8 := HH.out.2.1.size; have h9 := hB1.size; omega
  have hO3 : OwnNs W3 w1.heap.size (.slice a1 l1 c1) X := by
    have := hO.kt (.of_below hB3) (.of_below hB3)
    exact ⟨own_base this.1 hw13, fun x hx => own_base (this.2 x hx) hw13⟩
  have hwW1 : w.heap.size ≤ W1.heap.size := by have h8 := HH.out.2.1.size; have h9 := hB1.size; omega
  have hOt3 : OwnTs W3 w.heap.size (.slice a2 l2 c2) T := own_base (hOt.kt (.of_below hB3)) hwW1
  have hqw : W2.heap.size < W3.heap.size := (Array.getElem?_eq_some_iff.1 y3).1
  clear hW3 hO hOt hB1 hB2 hB3 hw13 hwW1
  generalize W2.heap.size = q at *
  clear W1 W2
  have hpx := ((HH.out.1.on HH.out.2.1).on hB03).hp
  have z0 := (hB03.block _ (Array.getElem?_eq_some_iff.1 HH.out.2.2.2.1).1).trans HH.out.2.2.2.1
  have z1 := (hB03.block _ (Array.getElem?_eq_some_iff.1 HH.out.2.2.2.2.1).1).trans HH.out.2.2.2.2.1
  have c0 : W3.cell? ⟨p, 0, none⟩ = some (.slice u1 u2 u3) := cell_at hpx rfl
  have c1' : W3.cell? ⟨p, 1, none⟩ = some (.slice b1 b2 b3) := cell_at hpx rfl
  have c2' : W3.cell? ⟨p, 2, none⟩ = some (.slice k1 k2 k3) := cell_at hpx rfl
  have c3 : W3.cell? ⟨p, 3, none⟩ = some fn := cell_at hpx rfl
  have c4 : W3.cell? ⟨p, 4, none⟩ = some (.string (drp c)) := cell_at hpx rfl
  have q1 : W3.cell? ⟨q, 1, none⟩ = some (.slice a2 l2 c2) := cell_at y3 rfl
  have hw1w : w1.heap.size ≤ w.heap.size := HH.out.1.hB.size
  have hw3 : w.heap.size + 2 ≤ W3.heap.size := by omega
  have hpw : p < w.heap.size := (Array.getElem?_eq_some_iff.1 HH.out.1.hp).1
  have hpq : ¬ p = q := by omega
  have cT := wties_any (w := W3.drew) (uk := .slice u1 u2 u3) (ub := .slice b1 b2 b3) (ks := .slice k1 k2 k3) (fn := fn) (drp c) (show OwnTs W3.drew w.heap.size (.slice a2 l2 c2) T from hOt3) (by have := HH.out.2.2.2.2.2.2.2.2.2.2.2.2.2; omega) (show w.heap.size ≤ W3.heap.size by omega)
  have HT : Hid (∀ W4 v4, OwnTs W4 w.heap.size v4 (T.filter (keepB (drp c))) → (∀ b, b < W3.drew.heap.size → (Value.slice a2 l2 c2).ownBlock ≠ some b → W4.heap[b]? = W3.drew.heap[b]?) → Below w.heap.size W3.drew W4 → (W4.cell? ⟨q, 1, none⟩ = some (.slice a2 l2 c2) ∧ W4.frozen? ⟨q, 1, none⟩ = false) ∧ ∀ W5, W5 = W4.setCell ⟨q, 1, none⟩ v4 → W5.heap[p]? = some (.cells #[.slice u1 u2 u3, .slice b1 b2 b3, .slice k1 k2 k3, fn, .string (drp c), .slice n1 n2 n3, .slice t1 t2 t3, .slice a N.length cap, .int .i64 k] 226 (0, 0)) ∧ W5.heap[q]? = some (.cells #[.slice a1 l1 c1, v4] 67 (0, 0)) ∧ W5.heap[w.heap.size]? = some (.cells #[.slice none 0 0, .slice none 0 0] 34 (0, 0)) ∧ W5.heap[w.heap.size + 1]? = some (.cells #[.slice none 0 0, .slice none 0 0] 67 (0, 0)) ∧ OwnNs W5 w1.heap.size (.slice a1 l1 c1) X ∧ OwnTs W5 w1.heap.size v4 (T.filter (keepB (drp c))) ∧ Below w.heap.size w W5 ∧ W3.heap.size ≤ W5.heap.size) := fun W4 v4 ho hbl hB4 => by
    have kb : ∀ {b : Nat} {cs : Array Value} {t : TypeId}, W3.heap[b]? = some (.cells cs t (0, 0)) → t ≠ 46 → W4.heap[b]? = some (.cells cs t (0, 0)) := fun {b cs t} hb hne => (hbl b (Array.getElem?_eq_some_iff.1 hb).1 (row_apart hOt3 hb hne)).trans hb
    have yq := kb y3 (by decide)
    refine ⟨⟨cell_at yq rfl, frz_at yq⟩, fun W5 hW5 => ?_⟩
    have kk : ∀ t : TypeId, (46 : TypeId) ≠ t → (67 : TypeId) ≠ t → Kt t W3 W5 := fun t n1 n2 => by
      rw [hW5]
      exact (show Kt t W3 W4 from ⟨hB4.size, fun b cs hb => kb hb (Ne.symm n1)⟩).ty ⟨_, yq⟩ n2 _ _
    have ot : ∀ b, b ≠ q → W5.heap[b]? = W4.heap[b]? := fun b hb => by rw [hW5]; exact heap_setCell_other W4 ⟨q, 1, none⟩ b v4 hb
    refine ⟨(ot _ (by omega)).trans (kb hpx (by decide)), ?_, (ot _ (by omega)).trans (kb z0 (by decide)), (ot _ (by omega)).trans (kb z1 (by decide)), hO3.kt (kk _ (by decide) (by decide)) (kk _ (by decide) (by decide)), ?_, ?_, ?_⟩
    · rw [hW5]; exact heap_setCell_same W4 q 1 _ 67 _ yq
    · rw [hW5]; exact own_base (ho.kt ((Kt.refl _ _).ty ⟨_, yq⟩ (by decide) _ _)) hw1w
    · rw [hW5]; exact ((HH.out.2.1.trans (hB03.mono HH.out.2.1.size)).trans ⟨hB4.os, hB4.tape, hB4.output, hB4.size, hB4.block⟩).setCell (by show w.heap.size ≤ q; omega) _
    · rw [hW5]; simp; exact hB4.size
  clear hO3 hOt3 y3 hpx z0 z1 hB03
  go_cut [] (fun wx => ∃ a4 p4, (wx.heap[p]? = some (.cells #[.slice u1 u2 u3, .slice b1 b2 b3, .slice k1 k2 k3, fn, .string (drp c), .slice n1 n2 n3, .slice t1 t2 t3, .slice a N.length cap, .int .i64 k] 226 (0, 0)) ∧ wx.heap[q]? = some (.cells #[.slice a1 l1 c1, .slice a4 (T.filter (keepB (drp c))).length p4] 67 (0, 0))) ∧ (wx.heap[w.heap.size]? = some (.cells #[.slice none 0 0, .slice none 0 0] 34 (0, 0)) ∧ wx.heap[w.heap.size + 1]? = some (.cells #[.slice none 0 0, .slice none 0 0] 67 (0, 0))) ∧ OwnNs wx w1.heap.size (.slice a1 l1 c1) X ∧ OwnTs wx w1.heap.size (.slice a4 (T.filter (keepB (drp c))).length p4) (T.filter (keepB (drp c))) ∧ Below w.heap.size w wx ∧ W3.heap.size ≤ wx.heap.size)
  case first =>
    go_region_law (first | (go_simp; go_at_call 138; refine cT.mono ?_; rintro e W4 ⟨v4, rfl, ho4, hb4, hB4⟩; obtain ⟨⟨x1, x2⟩, hW⟩ := HT.out W4 v4 ho4 hb4 hB4; obtain ⟨a4, p4, rfl⟩ := own_slice ho4; have HW := Lib.hid hW; clear hW ho4 hb4 hB4))
    all_goals
      go_wp2
      go_meet
      obtain ⟨y1, y2, y3, y4, y5, y6, y7, y8⟩ := HW.out _ rfl
      exact ⟨a4, p4, ⟨y1, y2⟩, ⟨y3, y4⟩, y5, y6, y7, y8⟩
  case rest =>
    obtain ⟨a4, p4, ⟨y1, y2⟩, ⟨y3, y4⟩, y5, y6, y7, y8⟩ := hcut
    clear cT HT c0 c1' c2' c3 c4 q1
    generalize wc = W5 at *
    obtain ⟨T', hT'⟩ : ∃ T', T' = T.filter (keepB (drp c)) := ⟨_, rfl⟩
    rw [← hT'] at y2 y6
    have hBw5 : Below w1.heap.size w1 W5 := HH.out.1.hB.trans (y7.mono hw1w)
    have cf := conforms_any (w := W5.drew) (vs := .agg #[.slice u1 u2 u3, .slice b1 b2 b3]) (vg := .agg #[.slice a1 l1 c1, .slice a4 T'.length p4]) (L := L) (B := B) (N := X) (T := T') ⟨_, _, rfl, HH.out.1.hK.on (b_drew hBw5), HH.out.1.hP.on (b_drew hBw5), HH.out.2.2.2.2.2.1, HH.out.1.hb.on (b_drew hBw5), HH.out.2.2.2.2.2.2.1⟩ ⟨_, _, rfl, y5.isN.on (b_drew (Below.refl _ W5)), y6.isT.on (b_drew (Below.refl _ W5)), szN_c hX HH.out.2.2.2.2.2.2.2.1, by rw [hT']; exact fun x hx => HH.out.2.2.2.2.2.2.2.2.1 x (List.mem_filter.1 hx).1, by have h8 : X.length = M.length := by { have := congrArg List.length hX; simpa [cN] using this }; have h9 := HH.out.1.hlen; have h10 := HH.out.2.2.2.2.2.2.2.2.2.2.2.2.1; unfold maxLen; omega, by have h8 : T'.length ≤ T.length := (by rw [hT']; exact List.length_filter_le _ _); have h10 := HH.out.2.2.2.2.2.2.2.2.2.2.2.2.2; unfold maxLen; omega⟩
    have HR : Hid (∀ W6, Below W5.heap.size W5 W6 → Calls Tryz.prog 102 #[.pointer (some ⟨p, 0, none⟩)] W6 fun e w' => e = .returned (.tuple #[]) ∧ w.grownBy w' (some p) ∧ w'.heap[w.heap.size]? = some (.cells #[.slice none 0 0, .slice none 0 0] 34 (0, 0)) ∧ w'.heap[w.heap.size + 1]? = some (.cells #[.slice none 0 0, .slice none 0 0] 67 (0, 0))) := fun W6 hB6 => by
      have k1 := (hB6.block _ (Array.getElem?_eq_some_iff.1 y1).1).trans y1
      have k3 := (hB6.block _ (Array.getElem?_eq_some_iff.1 y3).1).trans y3
      have k4 := (hB6.block _ (Array.getElem?_eq_some_iff.1 y4).1).trans y4
      refine (restart_any k1 HH.out.1.hge (by have := hB6.size; omega) (HH.out.1.hN.on (on1K hBw5 hB6 (by omega))) (by have := HH.out.2.2.2.2.2.2.2.2.2.2.2.2.1; omega)).mono ?_
      rintro e w' ⟨u, he, _, _, r3, r4⟩
      have h6 := y7.trans (hB6.mono (by omega))
      exact ⟨he, ⟨r3.os.trans h6.os, r3.tape.trans h6.tape, r3.output.trans h6.output, Nat.le_trans h6.size r3.size, fun b hb hne => (r4 b (by have := h6.size; omega) (fun e => hne (by rw [e]))).trans (h6.block b hb)⟩, (r4 _ (Array.getElem?_eq_some_iff.1 k3).1 (by omega)).trans k3, (r4 _ (Array.getElem?_eq_some_iff.1 k4).1 (by omega)).trans k4⟩
    have HC : Hid (∀ W6, Below W5.heap.size W5 W6 → W6.cell? ⟨p, 0, none⟩ = some (.slice u1 u2 u3) ∧ W6.cell? ⟨p, 1, none⟩ = some (.slice b1 b2 b3) ∧ W6.cell? ⟨q, 0, none⟩ = some (.slice a1 l1 c1) ∧ W6.cell? ⟨q, 1, none⟩ = some (.slice a4 T'.length p4)) := fun W6 hB6 => by
      have k1 := (hB6.block _ (Array.getElem?_eq_some_iff.1 y1).1).trans y1
      have k2 := (hB6.block _ (Array.getElem?_eq_some_iff.1 y2).1).trans y2
      exact ⟨cell_at k1 rfl, cell_at k1 rfl, cell_at k2 rfl, cell_at k2 rfl⟩
    obtain ⟨s0, s1, s2, s3⟩ := HC.out W5 (Below.refl _ _)
    have HY := Lib.hid (And.intro y3 (And.intro y4 (And.intro y5 (And.intro y6 (And.intro y7 (And.intro hBw5 hX))))))
    have hn1 : ¬ w.heap.size = p := by omega
    have hn2 : ¬ w.heap.size = q := by omega
    have hn3 : ¬ w.heap.size + 1 = p := by omega
    have hn4 : ¬ w.heap.size + 1 = q := by omega
    have hs5 : w.heap.size + 2 ≤ W5.heap.size := by omega
    clear y1 y2 y3 y4 y5 y6 y7 y8 hBw5 hX
    have HTe := Lib.hid hT'
    clear hT'
    generalize inE L B X T' = ie at *
    go_upto_region 5 with fail
    have HIE : Hid (∃ ev, ev = errV ie) := ⟨_, rfl⟩
    go_cut [6, 7] (fun s6 s7 wx => s6 = .bool (confB L B X T') ∧ s7 = errV ie ∧ Below W5.heap.size W5 wx)
    case first =>
      go_region_held (fun w' => w'.cell? ⟨p, 0, none⟩ = some (.slice u1 u2 u3) ∧ w'.cell? ⟨p, 1, none⟩ = some (.slice b1 b2 b3) ∧ w'.cell? ⟨q, 0, none⟩ = some (.slice a1 l1 c1) ∧ w'.cell? ⟨q, 1, none⟩ = some (.slice a4 T'.length p4)) (go_keep) (first | (go_at_call 53; refine cf.mono ?_; rintro e W6 ⟨rfl, hB6'⟩; have hB6 := b_undrew hB6'; obtain ⟨v0, v1, v2, v3⟩ := HC.out W6 hB6; have HB6 := Lib.hid hB6; clear hB6 hB6'))
      all_goals
        go_wp2
        go_meet
        exact ⟨rfl, rfl, HB6.out⟩
    case rest =>
    obtain ⟨rfl, rfl, hB6⟩ := hcut
    have HB6 := Lib.hid hB6
    clear hB6 HIE cf s0 s1 s2 s3
    generalize errV ie = ev at *
    generalize wc = W6 at *
    obtain ⟨v0, v1, v2, v3⟩ := HC.out W6 HB6.out
    cases hbb : confB L B X T' with
    | false =>
      have cR := HR.out W6 HB6.out
      have HF : Hid (∀ W8, w.grownBy W8 (some p) → DnP w1 w p c L B M T (.returned (.tuple #[.agg #[.slice none 0 0, .slice none 0 0], .agg #[.slice none 0 0, .slice none 0 0], .iface 76 (.int .i64 9)])) W8) := fun W8 hB8 => ⟨X, HY.out.2.2.2.2.2.2, fun h => (by rw [← HTe.out, hbb] at h; cases h), fun _ => rfl, hB8⟩
      clear HR HC HY hbb
      go_upto_region 8 with (go_at_call 102; refine cR.mono ?_; rintro e W7 ⟨rfl, hB7, k3, k4⟩)
      have e0 : W7.cell? ⟨w.heap.size, 0, none⟩ = some (.slice none 0 0) := cell_at k3 rfl
      have e1 : W7.cell? ⟨w.heap.size, 1, none⟩ = some (.slice none 0 0) := cell_at k3 rfl
      have e2 : W7.cell? ⟨w.heap.size + 1, 0, none⟩ = some (.slice none 0 0) := cell_at k4 rfl
      have e3 : W7.cell? ⟨w.heap.size + 1, 1, none⟩ = some (.slice none 0 0) := cell_at k4 rfl
      have f0 : W7.frozen? ⟨w.heap.size, 0, none⟩ = false := frz_at k3
      have f1 : W7.frozen? ⟨w.heap.size, 1, none⟩ = false := frz_at k3
      have f2 : W7.frozen? ⟨w.heap.size + 1, 0, none⟩ = false := frz_at k4
      have f3 : W7.frozen? ⟨w.heap.size + 1, 1, none⟩ = false := frz_at k4
      have HB7 := Lib.hid (And.intro hB7 (And.intro k3 k4))
      clear hB7 k3 k4 cR
      go_wp2
      refine bodyPost_ret (v := .tuple #[.agg #[.slice none 0 0, .slice none 0 0], .agg #[.slice none 0 0, .slice none 0 0], .iface 76 (.int .i64 9)]) ?_ rfl (HF.out _ ?_)
      · have t0 := heap_setCell_same _ _ 1 _ 34 (.slice none 0 0) (heap_setCell_same W7 _ 0 _ 34 (.slice none 0 0) HB7.out.2.1)
        have hne : w.heap.size + 1 ≠ w.heap.size := by omega
        have t1 : ((W7.setCell ⟨w.heap.size, 0, none⟩ (.slice none 0 0)).setCell ⟨w.heap.size, 1, none⟩ (.slice none 0 0)).heap[w.heap.size + 1]? = _ := (heap_setCell_other _ ⟨w.heap.size, 1, none⟩ _ _ hne).trans ((heap_setCell_other _ ⟨w.heap.size, 0, none⟩ _ _ hne).trans HB7.out.2.2)
        simp [results, Tryz.results105, go_sem, e0, e1, e2, e3]
      · exact grown_setB (grown_setB (grown_setB (grown_setB HB7.out.1 (Nat.le_refl _) _) (Nat.le_refl _) _) (by omega) _) (by omega) _
    | true =>
      have HS : Hid (∀ W, Below W6.heap.size W6 W → Calls Tryz.prog 13 #[.agg #[.slice u1 u2 u3, .slice b1 b2 b3]] W fun e w' => ∃ g1 g2 g3 g4 g5 g6 R, e = .returned (.agg #[.slice g1 g2 g3, .slice g4 g5 g6]) ∧ R.map kq3 = L.map kq3 ∧ OwnKs w' W.heap.size (.slice g1 g2 g3) R ∧ OwnBs w' W.heap.size (.slice g4 g5 g6) B ∧ Below W.heap.size W w') := fun W hB => by
        have hb := on1K HY.out.2.2.2.2.2.1 (on1K HB6.out hB (Nat.le_refl _)) (by omega)
        refine (scopyA_any (HH.out.1.hK.on hb) (HH.out.1.hP.on hb) (HH.out.1.hb.on hb) HH.out.2.2.2.2.2.2.2.2.2.1 HH.out.2.2.2.2.2.2.2.2.2.2.1 HH.out.2.2.2.2.2.2.2.2.2.2.2.1).mono ?_
        rintro e w' ⟨xk, xb, R, he, r1, r2, r3, r4, _⟩
        obtain ⟨g1, g3, rfl⟩ := own_slice r2.1
        obtain ⟨g4, g6, rfl⟩ := own_slice r3
        exact ⟨_, _, _, _, _, _, R, he, r1, r2, r3, r4⟩
      have cS := HS.out W6.drew (b_drew (Below.refl _ W6))
      have HD : Hid (∀ W7, Below W6.heap.size W6 W7 → (W7.cell? ⟨p, 0, none⟩ = some (.slice u1 u2 u3) ∧ W7.cell? ⟨p, 1, none⟩ = some (.slice b1 b2 b3) ∧ W7.cell? ⟨q, 0, none⟩ = some (.slice a1 l1 c1) ∧ W7.cell? ⟨q, 1, none⟩ = some (.slice a4 T'.length p4)) ∧ W7.heap[w.heap.size]? = some (.cells #[.slice none 0 0, .slice none 0 0] 34 (0, 0)) ∧ W7.heap[w.heap.size + 1]? = some (.cells #[.slice none 0 0, .slice none 0 0] 67 (0, 0))) := fun W7 h7 => ⟨HC.out W7 (on1K HB6.out h7 (Nat.le_refl _)), by
        have hb := on1K HB6.out h7 (Nat.le_refl _)
        exact ⟨(hb.block _ (Array.getElem?_eq_some_iff.1 HY.out.1).1).trans HY.out.1, (hb.block _ (Array.getElem?_eq_some_iff.1 HY.out.2.1).1).trans HY.out.2.1⟩⟩
      have HF : Hid (∀ W7 g1 g2 g3 g4 g5 g6 R, Below W6.heap.size W6 W7 → R.map kq3 = L.map kq3 → OwnKs W7 W6.heap.size (.slice g1 g2 g3) R → OwnBs W7 W6.heap.size (.slice g4 g5 g6) B → ∀ W8, W8 = (((W7.setCell ⟨w.heap.size, 0, none⟩ (.slice g1 g2 g3)).setCell ⟨w.heap.size, 1, none⟩ (.slice g4 g5 g6)).setCell ⟨w.heap.size + 1, 0, none⟩ (.slice a1 l1 c1)).setCell ⟨w.heap.size + 1, 1, none⟩ (.slice a4 T'.length p4) → (W8.cell? ⟨w.heap.size, 0, none⟩ = some (.slice g1 g2 g3) ∧ W8.cell? ⟨w.heap.size, 1, none⟩ = some (.slice g4 g5 g6) ∧ W8.cell? ⟨w.heap.size + 1, 0, none⟩ = some (.slice a1 l1 c1) ∧ W8.cell? ⟨w.heap.size + 1, 1, none⟩ = some (.slice a4 T'.length p4)) ∧ DnP w1 w p c L B M T (.returned (.tuple #[.agg #[.slice g1 g2 g3, .slice g4 g5 g6], .agg #[.slice a1 l1 c1, .slice a4 T'.length p4], .nilIface])) W8) := by
        intro W7 g1 g2 g3 g4 g5 g6 R hB7 hR oK oB W8 hW8
        obtain ⟨_, k3, k4⟩ := HD.out W7 hB7
        have hne : w.heap.size + 1 ≠ w.heap.size := by omega
        have hne' : w.heap.size ≠ w.heap.size + 1 := by omega
        have t0 := heap_setCell_same _ _ 1 _ 34 (.slice g4 g5 g6) (heap_setCell_same W7 _ 0 _ 34 (.slice g1 g2 g3) k3)
        have t1 := (heap_setCell_other ((W7.setCell ⟨w.heap.size, 0, none⟩ (.slice g1 g2 g3))) ⟨w.heap.size, 1, none⟩ _ (.slice g4 g5 g6) hne).trans ((heap_setCell_other W7 ⟨w.heap.size, 0, none⟩ _ (.slice g1 g2 g3) hne).trans k4)
        have r1 : W8.heap[w.heap.size + 1]? = some (.cells #[.slice a1 l1 c1, .slice a4 T'.length p4] 67 (0, 0)) := by rw [hW8]; exact heap_setCell_same _ _ 1 _ 67 _ (heap_setCell_same _ _ 0 _ 67 _ t1)
        have r0 : W8.heap[w.heap.size]? = some (.cells #[.slice g1 g2 g3, .slice g4 g5 g6] 34 (0, 0)) := by rw [hW8]; exact (heap_setCell_other _ ⟨w.heap.size + 1, 1, none⟩ _ _ hne').trans ((heap_setCell_other _ ⟨w.heap.size + 1, 0, none⟩ _ _ hne').trans t0)
        have kk : ∀ t : TypeId, (34 : TypeId) ≠ t → (67 : TypeId) ≠ t → Kt t W7 W8 := fun t m1 m2 => by
          rw [hW8]
          exact ((((Kt.refl _ _).ty ⟨_, k3⟩ m1 _ _).ty (Ty.set ⟨_, k3⟩ _ _ _) m1 _ _).ty ⟨_, t1⟩ m2 _ _).ty (Ty.set ⟨_, t1⟩ _ _ _) m2 _ _
        have k5 : ∀ t : TypeId, (34 : TypeId) ≠ t → (67 : TypeId) ≠ t → Kt t W5 W8 := fun t m1 m2 => ((Kt.of_below HB6.out).trans (.of_below hB7)).trans (kk t m1 m2)
        have hbs : w1.heap.size ≤ W6.heap.size := by have := HB6.out.size; omega
        have zk := oK.kt (kk 30 (by decide) (by decide)) (kk 9 (by decide) (by decide)) (kk 56 (by decide) (by decide))
        refine ⟨⟨cell_at r0 rfl, cell_at r0 rfl, cell_at r1 rfl, cell_at r1 rfl⟩, X, HY.out.2.2.2.2.2.2, fun _ => ?_, fun h => (by rw [← HTe.out, hbb] at h; cases h), ?_⟩
        · rw [← HTe.out]
          exact ⟨_, _, _, _, R, rfl, hR, ⟨own_base zk.1 hbs, fun x hx => ⟨own_base (zk.2 x hx).1 hbs, own_base (zk.2 x hx).2 hbs⟩⟩, own_base (own_kt oB (kk 54 (by decide) (by decide))) hbs, HY.out.2.2.1.kt (k5 _ (by decide) (by decide)) (k5 _ (by decide) (by decide)), HY.out.2.2.2.1.kt (k5 _ (by decide) (by decide))⟩
        · rw [hW8]
          have hb := HY.out.2.2.2.2.1.trans ((on1K HB6.out hB7 (Nat.le_refl _)).mono (by omega))
          exact grown_of_below ((((hb.setCell (Nat.le_refl _) _).setCell (Nat.le_refl _) _).setCell (by show w.heap.size ≤ w.heap.size + 1; omega) _).setCell (by show w.heap.size ≤ w.heap.size + 1; omega) _) (some p)
      clear HR HC HY HS
      go_upto_region 9 with fail
      go_region_held (fun w' => w'.cell? ⟨p, 0, none⟩ = some (.slice u1 u2 u3) ∧ w'.cell? ⟨p, 1, none⟩ = some (.slice b1 b2 b3) ∧ w'.cell? ⟨q, 0, none⟩ = some (.slice a1 l1 c1) ∧ w'.cell? ⟨q, 1, none⟩ = some (.slice a4 T'.length p4)) (go_keep) (first | (go_at_call 13; refine cS.mono ?_; rintro e W7 ⟨g1, g2, g3, g4, g5, g6, R, rfl, hR, oK, oB, hB7'⟩; have hB7 := b_undrew hB7'; obtain ⟨⟨v0', v1', v2', v3'⟩, k3, k4⟩ := HD.out W7 hB7; have hE := HF.out W7 g1 g2 g3 g4 g5 g6 R hB7 hR oK oB; have e0 : W7.cell? ⟨w.heap.size, 0, none⟩ = some (.slice none 0 0) := cell_at k3 rfl; have e1 : W7.cell? ⟨w.heap.size, 1, none⟩ = some (.slice none 0 0) := cell_at k3 rfl; have e2 : W7.cell? ⟨w.heap.size + 1, 0, none⟩ = some (.slice none 0 0) := cell_at k4 rfl; have e3 : W7.cell? ⟨w.heap.size + 1, 1, none⟩ = some (.slice none 0 0) := cell_at k4 rfl; have f0 : W7.frozen? ⟨w.heap.size, 0, none⟩ = false := frz_at k3; have f1 : W7.frozen? ⟨w.heap.size, 1, none⟩ = false := frz_at k3; have f2 : W7.frozen? ⟨w.heap.size + 1, 0, none⟩ = false := frz_at k4; have f3 : W7.frozen? ⟨w.heap.size + 1, 1, none⟩ = false := frz_at k4; have HE := Lib.hid hE; clear hE k3 k4 oK oB hB7 hB7' hR))
      all_goals
        go_wp2
        obtain ⟨⟨z0, z1, z2, z3⟩, hD⟩ := HE.out _ rfl
        refine bodyPost_ret (v := .tuple #[.agg #[.slice g1 g2 g3, .slice g4 g5 g6], .agg #[.slice a1 l1 c1, .slice a4 T'.length p4], .nilIface]) ?_ rfl hD
        simp [results, Tryz.results105, go_sem, z0, z1, z2, z3]
end
theorem three_below (W0 : World) (a b c : Obj) : Below W0.heap.size W0 (((W0.alloc a).alloc b).alloc c).drew := b_drew (b_alloc (b_alloc (b_alloc (Below.refl _ _) _) _) _)
set_option maxHeartbeats 8000000 in
set_option maxRecDepth 100000 in
theorem turnOf_any (c : Ch) (hw1 : c.wh = 1) (w : World) (ho : ∃ a l c', c.kd.vo = .slice a l c') (hf : ∃ a l c', c.kd.vf = .slice a l c') :
    Calls Tryz.prog 135 #[c.one] w fun e w' => ∃ fn, e = .returned fn ∧ Turns w' c fn ∧ Below w.heap.size w w' := by
  obtain ⟨wh, nm, ⟨kn, ko, kf, vo, vf⟩, ⟨bn, bf, bt, mn, mx⟩, ⟨fn, ft, fm, fk⟩, vt, vn, vs, tn⟩ := c
  obtain ⟨ao, lo1, co, q1⟩ := ho
  obtain ⟨af, lf1, cf, q2⟩ := hf
  simp only at q1 q2 hw1
  subst q1 q2
  obtain ⟨W0, hW0⟩ : ∃ W0, W0 = w.alloc (.cells #[.int .i64 wh, .string (bs nm), .string (bs kn), .slice ao lo1 co, .slice af lf1 cf, .string (bs bn), .string (bs bf), .string (bs bt), .int .i64 mn, .int .i64 mx, .string (bs fn), .int .i64 ft, .bool fm, .bool fk, .int .i64 vt, .int .i64 vn, .string (bs vs), .string (bs tn)] 58) := ⟨_, rfl⟩
  have hB0 : Below w.heap.size w W0 := by rw [hW0]; exact b_alloc (Below.refl _ _) _
  have n0 : W0.heap[w.heap.size]? = some (.cells #[.int .i64 wh, .string (bs nm), .string (bs kn), .slice ao lo1 co, .slice af lf1 cf, .string (bs bn), .string (bs bf), .string (bs bt), .int .i64 mn, .int .i64 mx, .string (bs fn), .int .i64 ft, .bool fm, .bool fk, .int .i64 vt, .int .i64 vn, .string (bs vs), .string (bs tn)] 58 (0, 0)) := by rw [hW0]; exact heap_alloc_new w _
  have hz0 : W0.heap.size = w.heap.size + 1 := by rw [hW0]; simp
  have d0 : W0.cell? ⟨w.heap.size, 0, none⟩ = some (.int .i64 wh) := cell_at n0 rfl
  have d10 : W0.cell? ⟨w.heap.size, 10, none⟩ = some (.string (bs fn)) := cell_at n0 rfl
  have d14 : W0.cell? ⟨w.heap.size, 14, none⟩ = some (.int .i64 vt) := cell_at n0 rfl
  have d15 : W0.cell? ⟨w.heap.size, 15, none⟩ = some (.int .i64 vn) := cell_at n0 rfl
  have d16 : W0.cell? ⟨w.heap.size, 16, none⟩ = some (.string (bs vs)) := cell_at n0 rfl
  have d17 : W0.cell? ⟨w.heap.size, 17, none⟩ = some (.string (bs tn)) := cell_at n0 rfl
  have HB := Lib.hid hB0
  have HZ := Lib.hid hz0
  have hne0 : ¬ w.heap.size = W0.heap.size := by omega
  have hne1 : ¬ w.heap.size = W0.heap.size + 1 := by omega
  have hne2 : ¬ w.heap.size = W0.heap.size + 2 := by omega
  clear hB0 n0 hz0
  have u0 := fun o1 => cell_old d0 o1
  have v0 := fun o1 o2 => cell_old (cell_old d0 o1) o2
  have x0 := fun o1 o2 o3 => cell_old (cell_old (cell_old d0 o1) o2) o3
  have u10 := fun o1 => cell_old d10 o1
  have v10 := fun o1 o2 => cell_old (cell_old d10 o1) o2
  have x10 := fun o1 o2 o3 => cell_old (cell_old (cell_old d10 o1) o2) o3
  have u14 := fun o1 => cell_old d14 o1
  have v14 := fun o1 o2 => cell_old (cell_old d14 o1) o2
  have x14 := fun o1 o2 o3 => cell_old (cell_old (cell_old d14 o1) o2) o3
  have u15 := fun o1 => cell_old d15 o1
  have v15 := fun o1 o2 => cell_old (cell_old d15 o1) o2
  have x15 := fun o1 o2 o3 => cell_old (cell_old (cell_old d15 o1) o2) o3
  have u16 := fun o1 => cell_old d16 o1
  have v16 := fun o1 o2 => cell_old (cell_old d16 o1) o2
  have x16 := fun o1 o2 o3 => cell_old (cell_old (cell_old d16 o1) o2) o3
  have u17 := fun o1 => cell_old d17 o1
  have v17 := fun o1 o2 => cell_old (cell_old d17 o1) o2
  have x17 := fun o1 o2 o3 => cell_old (cell_old (cell_old d17 o1) o2) o3
  have h3 : ¬ wh = 3 := by omega
  have h4 : ¬ wh = 4 := by omega
  have h7 : ¬ wh = 7 := by omega
  clear hw1
  have H3 := Lib.hid (And.intro h3 (And.intro h4 h7))
  have b3 : (wh == 3) = false := by simpa using h3
  have b4 : (wh == 4) = false := by simpa using h4
  have b7 : (wh == 7) = false := by simpa using h7
  clear h3 h4 h7
  go_enter Tryz.func135, Tryz.ntmps135
  go_upto_region 1 with fail
  rw [← hW0]
  clear hW0
  first | (go_region_held3 (fun w' => w'.cell? ⟨w.heap.size, 0, none⟩ = some (.int .i64 wh) ∧ w'.cell? ⟨w.heap.size, 10, none⟩ = some (.string (bs fn)) ∧ w'.cell? ⟨w.heap.size, 14, none⟩ = some (.int .i64 vt) ∧ w'.cell? ⟨w.heap.size, 15, none⟩ = some (.int .i64 vn) ∧ w'.cell? ⟨w.heap.size, 16, none⟩ = some (.string (bs vs)) ∧ w'.cell? ⟨w.heap.size, 17, none⟩ = some (.string (bs tn))) (go_keep) (fail)) | fail
  all_goals
    rename_i hH
    obtain ⟨y0, _⟩ := hH
    go_wp2
    go_ret
    refine ⟨_, rfl, .inr (.inr (.inr ⟨H3.out.1, H3.out.2.1, H3.out.2.2, rfl⟩)), on1K HB.out (three_below W0 _ _ _) (Nat.le_refl _)⟩
theorem Turns.kt {w w' : World} {c : Ch} {fn : Value} (h : Turns w c fn) (k9 : Kt 9 w w') (k35 : Kt 42 w w') : Turns w' c fn := by
  rcases h with ⟨h, p, q, e, h1, h2⟩ | ⟨h, p, e, h1⟩ | ⟨h, p, q, e, h1, h2⟩ | h
  · exact .inl ⟨h, p, q, e, k9.2 _ _ h1, k35.2 _ _ h2⟩
  · exact .inr (.inl ⟨h, p, e, k9.2 _ _ h1⟩)
  · exact .inr (.inr (.inl ⟨h, p, q, e, k9.2 _ _ h1, k9.2 _ _ h2⟩))
  · exact .inr (.inr (.inr h))
abbrev set5 (w : World) (b : Nat) (v0 v1 v2 v3 v4 : Value) : World := ((((w.setCell ⟨b, 0, none⟩ v0).setCell ⟨b, 1, none⟩ v1).setCell ⟨b, 2, none⟩ v2).setCell ⟨b, 3, none⟩ v3).setCell ⟨b, 4, none⟩ v4
theorem set5_heap {w : World} {b : Nat} {x0 x1 x2 x3 x4 : Value} {t : TypeId} (h : w.heap[b]? = some (.cells #[x0, x1, x2, x3, x4] t (0, 0))) (v0 v1 v2 v3 v4 : Value) : (set5 w b v0 v1 v2 v3 v4).heap[b]? = some (.cells #[v0, v1, v2, v3, v4] t (0, 0)) :=
  heap_setCell_same _ _ 4 _ t _ (heap_setCell_same _ _ 3 _ t _ (heap_setCell_same _ _ 2 _ t _ (heap_setCell_same _ _ 1 _ t _ (heap_setCell_same w _ 0 _ t _ h))))
theorem set5_kt {w : World} {b : Nat} {t t' : TypeId} (h : Ty w b t') (hne : t' ≠ t) (v0 v1 v2 v3 v4 : Value) : Kt t w (set5 w b v0 v1 v2 v3 v4) :=
  (((((Kt.refl _ _).ty h hne _ _).ty (h.set _ _ _) hne _ _).ty ((h.set _ _ _).set _ _ _) hne _ _).ty (((h.set _ _ _).set _ _ _).set _ _ _) hne _ _).ty ((((h.set _ _ _).set _ _ _).set _ _ _).set _ _ _) hne _ _
theorem set5_below {B b : Nat} {a w : World} (h : Below B a w) (hb : B ≤ b) (v0 v1 v2 v3 v4 : Value) : Below B a (set5 w b v0 v1 v2 v3 v4) := ((((h.setCell hb _).setCell hb _).setCell hb _).setCell hb _).setCell hb _
def WyP (w : World) (L : List Kd) (B : List Bd) (c : Ch) (e : Ending) (w' : World) : Prop :=
  ∃ uk ub ks fn M, e = .returned (.tuple #[.agg #[uk, ub, ks, fn, .string (drp c)], .nilIface]) ∧ M.map kq3 = (cK L c).map kq3 ∧ OwnKs w' w.heap.size uk M ∧ OwnBs w' w.heap.size ub (cB B c) ∧ w'.ownsRow w.heap.size 9 1 ks (kdsA L c).length (cellsS (kdsA L c)) ∧ Turns w' c fn ∧ Below w.heap.size w w'
theorem do_yes {w : World} {vk vb : Value} {L : List Kd} {B : List Bd} (c : Ch) (hK : IsK w vk L) (hP : Parts w L) (hz : SzK L) (hb : IsB w vb B) (hzb : SzB B) (hc : ChIs w c) (hcz : ChSz c) (h0 : doE L B c = 0) :
    Calls Tryz.prog 51 #[.agg #[vk, vb], c.one] w fun e w' => ∃ a1 l1 c1 a2 l2 c2 M, e = .returned (.tuple #[.agg #[.slice a1 l1 c1, .slice a2 l2 c2], .nilIface]) ∧ M.map kq3 = (cK L c).map kq3 ∧ OwnKs w' w.heap.size (.slice a1 l1 c1) M ∧ OwnBs w' w.heap.size (.slice a2 l2 c2) (cB B c) ∧ Below w.heap.size w w' :=
  (do_any c hK hP hz hb hzb hc hcz).mono (by
    rintro e w' ⟨uk, ub, M, he, h1, h2, h3, h4⟩
    have hr : (allA L B [c]).1 = 0 := by rw [one_err]; exact h0
    obtain ⟨_, _, e3⟩ := one_yes hr
    rw [e3] at he h1 h3
    obtain ⟨a1, c1, rfl⟩ := own_slice h2.1
    obtain ⟨a2, c2, rfl⟩ := own_slice h3
    exact ⟨_, _, _, _, _, _, M, he, h1, h2, h3, h4⟩)
theorem kinds_yes {w : World} {vk vb : Value} {L : List Kd} {B : List Bd} (c : Ch) (hK : IsK w vk L) (hP : Parts w L) (hz : SzK L) (hb : IsB w vb B) (hzb : SzB B) (hc : ChIs w c) (hcz : ChSz c) (h0 : doE L B c = 0) :
    Calls Tryz.prog 134 #[.agg #[vk, vb], c.one] w fun e w' => ∃ a l c', e = .returned (.tuple #[.slice a l c', .nilIface]) ∧ w'.ownsRow w.heap.size 9 1 (.slice a l c') (kdsA L c).length (cellsS (kdsA L c)) ∧ Below w.heap.size w w' :=
  (ckinds_any c hK hP hz hb hzb hc hcz).mono (by
    rintro e w' ⟨v, he, h1, h2⟩
    rw [h0, errV_0] at he
    rw [if_pos h0] at h1
    obtain ⟨a, c', rfl⟩ := own_slice h1
    exact ⟨a, _, c', he, h1, h2⟩)
end Go.Proofs.YtahamkajkkkjdaaGreatDoor
