/-
  The walk of two.
-/
import Derived.Test.YtikjmingkadjcaaGreatDoorA47
import Derived.Test.YtikjmingkadjcaaGreatDoorA46
import Derived.Test.YtikjmingkadjcaaGreatDoorA03
import Derived.Test.YtikjmingkadjcaaGreatDoorA24
import Derived.Laws.StructEq
import Derived.Deep.RegionHeld
import Derived.BigQuiet
namespace Go.Proofs.YtikjmingkadjcaaGreatDoor
open Go.RowKit
set_option linter.unusedVariables false
set_option linter.unusedSimpArgs false

abbrev twW (w : World) (a b c d : Value) : World := (box2 w #[a, b] 25 #[c, d] 29).alloc (.cells #[.slice none 0 0, .slice none 0 0] 29)
theorem twW_all (w : World) (a b c d : Value) : Below w.heap.size w (twW w a b c d) ∧ (twW w a b c d).heap[w.heap.size + 2]? = some (.cells #[.slice none 0 0, .slice none 0 0] 29 (0, 0)) ∧ (twW w a b c d).heap.size = w.heap.size + 3 ∧
    (twW w a b c d).cell? ⟨w.heap.size, 0, none⟩ = some a ∧ (twW w a b c d).cell? ⟨w.heap.size, 1, none⟩ = some b ∧ (twW w a b c d).cell? ⟨w.heap.size + 1, 0, none⟩ = some c ∧ (twW w a b c d).cell? ⟨w.heap.size + 1, 1, none⟩ = some d := by
  have hz : (box2 w #[a, b] 25 #[c, d] 29).heap.size = w.heap.size + 2 := box2_size _ _ _ _ _
  have hn := heap_alloc_new (box2 w #[a, b] 25 #[c, d] 29) (.cells #[.slice none 0 0, .slice none 0 0] 29)
  rw [hz] at hn
  exact ⟨b_alloc (box2_below _ _ _ _ _) _, hn, by show ((box2 w #[a, b] 25 #[c, d] 29).alloc _).heap.size = _; rw [World.size_alloc, hz], cell_old (box2_a _ _ _ _ _ rfl) _, cell_old (box2_a _ _ _ _ _ rfl) _, cell_old (box2_b _ _ _ _ _ rfl) _, cell_old (box2_b _ _ _ _ _ rfl) _⟩

set_option maxHeartbeats 8000000 in
set_option maxRecDepth 100000 in
theorem two_bad {vs vg vl vk : Value} {L : List Kd} {B : List Bd} {N : List Nd} {T : List Te} {l k : List Opx} {w : World} (hs : IsSc w vs L B) (hg : IsG w vg N T) (hl : IsO w vl l) (hk : IsO w vk k) (h0 : cfE L B N T ≠ 0) :
    Calls Tryz.prog 12 #[vs, vg, vl, vk] w (TwP w N T l k) := by
  obtain ⟨ak, nk, ck, ab, nb, cb, hvs⟩ := isSc_slD hs
  obtain ⟨an, nn, cn, am, nm, cm, hvg⟩ := isG_sl hg
  subst hvs hvg
  obtain ⟨W0, hW0⟩ : ∃ W0, W0 = twW w (.slice ak nk ck) (.slice ab nb cb) (.slice an nn cn) (.slice am nm cm) := ⟨_, rfl⟩
  have hA := twW_all w (.slice ak nk ck) (.slice ab nb cb) (.slice an nn cn) (.slice am nm cm)
  rw [← hW0] at hA
  obtain ⟨hB0, n0, hz0, y0, y1, y2, y3⟩ := hA
  have c := snew_no (hs.on hB0) (hg.on hB0) h0
  have h9 := cf9 L B N T
  obtain ⟨al, cl, hvl, _⟩ := hl
  obtain ⟨ao, co, hvk, _⟩ := hk
  subst hvl hvk
  generalize cfE L B N T = z at c h9 h0
  have HZ := Lib.hid (And.intro h0 h9)
  have HB := Lib.hid (And.intro hB0 (And.intro n0 hz0))
  clear hs hg h0 h9 hB0 n0 hz0
  go_enter Tryz.func12, Tryz.ntmps12
  go_upto_region 1 with fail
  unfold twW box2 at hW0
  rw [← hW0]
  clear hW0
  go_wp2_with (first | (go_at_call 5; refine c.mono ?_; rintro e W1 ⟨rfl, hB1⟩; have m0 := (hB1.block _ (by have := HB.out.2.2; omega)).trans HB.out.2.1; have z0 : W1.cell? ⟨w.heap.size + 2, 0, none⟩ = some (.slice none 0 0) := cell_at m0 rfl; have z1 : W1.cell? ⟨w.heap.size + 2, 1, none⟩ = some (.slice none 0 0) := cell_at m0 rfl; have f0 : W1.frozen? ⟨w.heap.size + 2, 0, none⟩ = false := frz_at m0; have f1 : W1.frozen? ⟨w.heap.size + 2, 1, none⟩ = false := frz_at m0; have H1 := Lib.hid hB1; clear hB1 m0))
  refine bodyPost_ret (v := .tuple #[.agg #[.slice none 0 0, .slice none 0 0], .iface 79 (.int .i64 z)]) ?_ rfl ⟨_, _, _, _, _, _, z, by rw [errV_ne HZ.out.1], HZ.out.2, fun h => absurd h HZ.out.1, ((on1K HB.out.1 H1.out (Nat.le_refl _)).setCell (by show w.heap.size ≤ w.heap.size + 2; omega) _).setCell (by show w.heap.size ≤ w.heap.size + 2; omega) _⟩
  simp [results, Tryz.results12, go_sem, z0, z1]

set_option maxHeartbeats 16000000 in
set_option maxRecDepth 100000 in
theorem two_good {vs vg vl vk : Value} {L : List Kd} {B : List Bd} {N : List Nd} {T : List Te} {l k : List Opx} {w : World} (hs : IsSc w vs L B) (hg : IsG w vg N T) (hl : IsO w vl l) (hk : IsO w vk k) (h0 : cfE L B N T = 0) (l40 : l.length ≤ 40) (k40 : k.length ≤ 40) (el : opS.err l (cN N) T = 0) (ek : opS.err k (cN N) T = 0) (zl : RcB l) (zk : RcB k) (hd : ∀ y ∈ touA T l, y ∉ touA T k) :
    Calls Tryz.prog 12 #[vs, vg, vl, vk] w (TwP w N T l k) := by
  obtain ⟨ak, nk, ck, ab, nb, cb, hvs⟩ := isSc_slD hs
  obtain ⟨an, nn, cn, am, nm, cm, hvg⟩ := isG_sl hg
  subst hvs hvg
  obtain ⟨W0, hW0⟩ : ∃ W0, W0 = twW w (.slice ak nk ck) (.slice ab nb cb) (.slice an nn cn) (.slice am nm cm) := ⟨_, rfl⟩
  have hA := twW_all w (.slice ak nk ck) (.slice ab nb cb) (.slice an nn cn) (.slice am nm cm)
  rw [← hW0] at hA
  obtain ⟨hB0, n0, hz0, y0, y1, y2, y3⟩ := hA
  have c := snew_yes (hs.on hB0) (hg.on hB0) h0
  have hok : BsOk (nwS L B N T) := nwS_ok h0 (let ⟨_, _, _, _, _, h, _⟩ := hs; h) (let ⟨_, _, _, _, _, _, _, h⟩ := hs; h)
  have HL : Hid (IsO w vl l) := hl
  have HK : Hid (IsO w vk k) := hk
  obtain ⟨al, cl, hvl, hlc, hlo⟩ := hl
  obtain ⟨ao, co, hvk, hkc, hko⟩ := hk
  subst hvl hvk
  have HO : Hid (∀ p W, (Be W W0.heap.size p (nwS L B N T) → W0.heap.size ≤ W.heap.size → Calls Tryz.prog 6 #[.pointer (some ⟨p, 0, none⟩)] W fun e w' => e = .returned (.tuple #[.int .i64 1, .nilIface]) ∧ Be w' W0.heap.size p (openS (nwS L B N T)) ∧ Fr W0.heap.size W w') ∧ (Be W W0.heap.size p (openS (nwS L B N T)) → W0.heap.size ≤ W.heap.size → Calls Tryz.prog 6 #[.pointer (some ⟨p, 0, none⟩)] W fun e w' => e = .returned (.tuple #[.int .i64 2, .nilIface]) ∧ TwB w' W0.heap.size p L B (cN N) T (l.take 0) (k.take 0) ∧ Fr W0.heap.size W w')) := fun p W => ⟨fun h1 h2 => openN1 hok h1 h2, fun h1 h2 => (openN2 hok h1 h2).mono fun e w' hP => ⟨hP.1, ⟨_, hP.2.1, by simpa using tw_open hok⟩, hP.2.2⟩⟩
  have HD1 : Hid (∀ p W j o, TwB W W0.heap.size p L B (cN N) T (l.take j) (k.take 0) → W0.heap.size ≤ W.heap.size → l[j]? = some o → IsR W o.nd.rv o.nd.rc → Calls Tryz.prog 7 #[.pointer (some ⟨p, 0, none⟩), .int .i64 1, o.one] W fun e w' => e = .returned .nilIface ∧ TwB w' W0.heap.size p L B (cN N) T (l.take (j + 1)) (k.take 0) ∧ Fr W0.heap.size W w') := fun p W j o h1 h2 h3 h4 => twDo1 h1 h2 l40 el h3 zl h4
  have HD2 : Hid (∀ p W j o, TwB W W0.heap.size p L B (cN N) T l (k.take j) → W0.heap.size ≤ W.heap.size → k[j]? = some o → IsR W o.nd.rv o.nd.rc → Calls Tryz.prog 7 #[.pointer (some ⟨p, 0, none⟩), .int .i64 2, o.one] W fun e w' => e = .returned .nilIface ∧ TwB w' W0.heap.size p L B (cN N) T l (k.take (j + 1)) ∧ Fr W0.heap.size W w') := fun p W j o h1 h2 h3 h4 => twDo2 h1 h2 k40 ek h3 zk h4
  have HC2 : Hid (∀ p W, (∃ s, Be W W0.heap.size p s ∧ TwC L B (cN N) T l k s) → W0.heap.size ≤ W.heap.size → Calls Tryz.prog 8 #[.pointer (some ⟨p, 0, none⟩), .int .i64 2] W fun e w' => ∃ z, e = .returned (errV z) ∧ z ≤ 9 ∧ TwE W0.heap.size p (cN N) T l k z w' ∧ Fr W0.heap.size W w') := fun p W h1 h2 => twC2 h1 hd h2
  have HB := Lib.hid (And.intro hB0 (And.intro n0 hz0))
  have HLo : Hid (l = [] ∨ ∃ b off, al = some ⟨b, off, none⟩ ∧ b < w.heap.size ∧ LiesO w b off l) := hlo
  have HKo : Hid (k = [] ∨ ∃ b off, ao = some ⟨b, off, none⟩ ∧ b < w.heap.size ∧ LiesO w b off k) := hko
  clear hs hg h0 hB0 n0 hz0 hok hlo hko el ek zl zk hd hlc hkc
  go_enter Tryz.func12, Tryz.ntmps12
  go_upto_region 1 with fail
  unfold twW box2 at hW0
  rw [← hW0]
  clear hW0
  go_wp2_with (first | (go_at_call 5; refine c.mono ?_; rintro e W1 ⟨p, rfl, hbe0, hB1⟩; have H1 := Lib.hid (And.intro hbe0 hB1); clear hbe0 hB1) | (go_at_call 6; refine ((HO.out p _).2 H2.out.1 (Nat.le_trans H1.out.2.size H2.out.2.1.size)).mono ?_; rintro e W3 ⟨rfl, hbe2, hf2⟩; have H3 := Lib.hid (And.intro hbe2 hf2); clear hbe2 hf2) | (go_at_call 6; refine ((HO.out p _).1 H1.out.1 H1.out.2.size).mono ?_; rintro e W2 ⟨rfl, hbe1, hf1⟩; have H2 := Lib.hid (And.intro hbe1 hf1); clear hbe1 hf1))
  clear c y0 y1 y2 y3
  have hle3 : W0.heap.size ≤ W3.heap.size := Nat.le_trans H1.out.2.size (Nat.le_trans H2.out.2.1.size H3.out.2.1.size)
  have HW3 : Hid (Below W0.heap.size W0 W3) := (H1.out.2.trans H2.out.2.1).trans H3.out.2.1
  go_loopw [14] (fun i wr => ∃ j : Nat, j ≤ l.length ∧ i = .int .i64 j ∧ TwB wr W0.heap.size p L B (cN N) T (l.take j) (k.take 0) ∧ Below W0.heap.size W0 wr) (fun i _ => l.length - (intOf i).toNat)
  case atStart => exact ⟨0, Nat.zero_le _, rfl, H3.out.1, HW3.out⟩
  case round =>
    obtain ⟨j, hj, rfl, htw, hB⟩ := hrel
    by_cases hlt : j < l.length
    · obtain ⟨o, ho⟩ : ∃ o, l[j]? = some o := ⟨l[j], by simp [hlt]⟩
      rcases HLo.out with rfl | ⟨b, off, rfl, hb, hLo⟩
      · exact absurd hlt (by simp)
      obtain ⟨hc, hR⟩ := hLo j o ho
      have hbw : Below w.heap.size w wr := HB.out.1.trans (hB.mono (by have := HB.out.2.2; omega))
      have hd : ∀ i u, o.cells[i]? = some u → wr.cell? ⟨b, off + j * 11 + i, none⟩ = some u := fun i u hu => (hbw.cell hb).trans (hc i u hu)
      have cD := HD1.out p wr j o htw hB.size ho (hR.on hbw)
      obtain ⟨av, lv, cv, hv⟩ := hR.sl
      obtain ⟨wh, ⟨id, kd, rv, rc⟩, ⟨nm', pt, pn, ps⟩, ⟨bd, fr, tt⟩⟩ := o
      simp only at hv
      subst hv
      have e0 := hd 0 _ rfl
      have e1 := hd 1 _ rfl
      have e2 := hd 2 _ rfl
      have e3 := hd 3 _ rfl
      have e4 := hd 4 _ rfl
      have e5 := hd 5 _ rfl
      have e6 := hd 6 _ rfl
      have e7 := hd 7 _ rfl
      have e8 := hd 8 _ rfl
      have e9 := hd 9 _ rfl
      have e10 := hd 10 _ rfl
      simp only [Nat.add_zero] at e0
      have HBr := Lib.hid hB
      clear hd hc hR hLo ho hbw hB htw
      unfold Opx.one at cD
      simp only at cD
      go_wp2_with (first | (go_at_call 7; refine cD.mono ?_; rintro e W5 ⟨rfl, htw5, hf5⟩; have H5 := Lib.hid (And.intro htw5 hf5); clear htw5 hf5))
      have HR : Hid (∃ j' : Nat, j' ≤ l.length ∧ Value.int .i64 ((j + 1 : Nat) : Int) = .int .i64 j' ∧ TwB W5 W0.heap.size p L B (cN N) T (l.take j') (k.take 0) ∧ Below W0.heap.size W0 W5) := ⟨j + 1, by omega, rfl, H5.out.1, HBr.out.trans H5.out.2.1⟩
      refine ⟨?_, ?_⟩
      · first | exact HR.out | ((repeat apply Exists.intro); refine ⟨?_, rfl⟩; exact HR.out)
      · simp [intOf]
        try omega
    · obtain rfl : j = l.length := by omega
      rw [List.take_length] at htw
      have HX := Lib.hid (And.intro htw hB)
      clear htw hB
      obtain ⟨W4, hW4⟩ : ∃ W, W = wr := ⟨wr, rfl⟩
      subst hW4
      go_wp2
      go_loopw [15] (fun i wr => ∃ j : Nat, j ≤ k.length ∧ i = .int .i64 j ∧ TwB wr W0.heap.size p L B (cN N) T l (k.take j) ∧ Below W0.heap.size W0 wr) (fun i _ => k.length - (intOf i).toNat)
      case atStart => exact ⟨0, Nat.zero_le _, rfl, HX.out.1, HX.out.2⟩
      case round =>
        obtain ⟨j, hj, rfl, htw, hB⟩ := hrel
        by_cases hlt : j < k.length
        · obtain ⟨o, ho⟩ : ∃ o, k[j]? = some o := ⟨k[j], by simp [hlt]⟩
          rcases HKo.out with rfl | ⟨b, off, rfl, hb, hLo⟩
          · exact absurd hlt (by simp)
          obtain ⟨hc, hR⟩ := hLo j o ho
          have hbw : Below w.heap.size w wr := HB.out.1.trans (hB.mono (by have := HB.out.2.2; omega))
          have hd : ∀ i u, o.cells[i]? = some u → wr.cell? ⟨b, off + j * 11 + i, none⟩ = some u := fun i u hu => (hbw.cell hb).trans (hc i u hu)
          have cD := HD2.out p wr j o htw hB.size ho (hR.on hbw)
          obtain ⟨av, lv, cv, hv⟩ := hR.sl
          obtain ⟨wh, ⟨id, kd, rv, rc⟩, ⟨nm', pt, pn, ps⟩, ⟨bd, fr, tt⟩⟩ := o
          simp only at hv
          subst hv
          have e0 := hd 0 _ rfl
          have e1 := hd 1 _ rfl
          have e2 := hd 2 _ rfl
          have e3 := hd 3 _ rfl
          have e4 := hd 4 _ rfl
          have e5 := hd 5 _ rfl
          have e6 := hd 6 _ rfl
          have e7 := hd 7 _ rfl
          have e8 := hd 8 _ rfl
          have e9 := hd 9 _ rfl
          have e10 := hd 10 _ rfl
          simp only [Nat.add_zero] at e0
          have HBr := Lib.hid hB
          clear hd hc hR hLo ho hbw hB htw
          unfold Opx.one at cD
          simp only at cD
          go_wp2_with (first | (go_at_call 7; refine cD.mono ?_; rintro e W5 ⟨rfl, htw5, hf5⟩; have H5 := Lib.hid (And.intro htw5 hf5); clear htw5 hf5))
          have HR : Hid (∃ j' : Nat, j' ≤ k.length ∧ Value.int .i64 ((j + 1 : Nat) : Int) = .int .i64 j' ∧ TwB W5 W0.heap.size p L B (cN N) T l (k.take j') ∧ Below W0.heap.size W0 W5) := ⟨j + 1, by omega, rfl, H5.out.1, HBr.out.trans H5.out.2.1⟩
          refine ⟨?_, ?_⟩
          · first | exact HR.out | ((repeat apply Exists.intro); refine ⟨?_, rfl⟩; exact HR.out)
          · simp [intOf]
            try omega
        · obtain rfl : j = k.length := by omega
          rw [List.take_length] at htw
          obtain ⟨W6, hW6⟩ : ∃ W, W = wr := ⟨wr, rfl⟩
          subst hW6
          have n6 := (hB.block (w.heap.size + 2) (by have := HB.out.2.2; omega)).trans HB.out.2.1
          have HX6 := Lib.hid (And.intro hB n6)
          have hle6 : W0.heap.size ≤ W6.heap.size := hB.size
          have cC := twC1 htw hle6
          clear htw hB n6
          rcases cC with cC | cC
          · go_wp2_with (first | (go_at_call 8; refine cC.mono ?_; rintro e W7 ⟨rfl, hs7, hf7⟩; have hle7 : W0.heap.size ≤ W7.heap.size := Nat.le_trans hle6 hf7.1.size; have cC2 := HC2.out p W7 hs7 hle7; have H7 := Lib.hid (And.intro hf7 hle7); clear hs7 hf7 hle7 cC) | (go_at_call 8; refine cC2.mono ?_; rintro e W8 ⟨z, rfl, hz, he8, hf8⟩; have hle8 : W0.heap.size ≤ W8.heap.size := Nat.le_trans H7.out.2 hf8.1.size; have cG := twG he8 hle8; have H8 := Lib.hid (And.intro hf8 (And.intro hle8 hz)); generalize hve : errV z = ve; have HV := Lib.hid hve; clear hve he8 hf8 hle8 hz cC2) | (go_at_call 9; refine cG.mono ?_; rintro e W9 ⟨a9, n9, c9, a10, n10, c10, rfl, hr9, hB9⟩; have hB19 : Below W0.heap.size W0 W9 := ((HX6.out.1.trans H7.out.1.1).trans H8.out.1.1).trans (hB9.mono H8.out.2.1); have m9 := (hB19.block (w.heap.size + 2) (by have := HB.out.2.2; omega)).trans HB.out.2.1; have z0 : W9.cell? ⟨w.heap.size + 2, 0, none⟩ = some (.slice none 0 0) := cell_at m9 rfl; have z1 : W9.cell? ⟨w.heap.size + 2, 1, none⟩ = some (.slice none 0 0) := cell_at m9 rfl; have f0 : W9.frozen? ⟨w.heap.size + 2, 0, none⟩ = false := frz_at m9; have f1 : W9.frozen? ⟨w.heap.size + 2, 1, none⟩ = false := frz_at m9; have H9 := Lib.hid (And.intro hr9 (And.intro hB19 (And.intro m9 hB9))); clear hr9 hB19 m9 hB9 cG))
            obtain ⟨hr9, hB19, m9, hB9⟩ := H9.out
            have hw : w.heap.size ≤ W8.heap.size := by have := HB.out.2.2; have := H8.out.2.1; omega
            have hbw : Below w.heap.size w W9 := HB.out.1.trans (hB19.mono (by have := HB.out.2.2; omega))
            have kz : ∀ t, 29 ≠ t → Kt t W9 ((W9.setCell ⟨w.heap.size + 2, 0, none⟩ (.slice a9 n9 c9)).setCell ⟨w.heap.size + 2, 1, none⟩ (.slice a10 n10 c10)) := fun t ht => ((Kt.refl _ _).ty ⟨_, m9⟩ ht _ _).ty (Ty.set ⟨_, m9⟩ _ _ _) ht _ _
            refine bodyPost_ret (v := .tuple #[.agg #[.slice a9 n9 c9, .slice a10 n10 c10], ve]) ?_ rfl ⟨_, _, _, _, _, _, z, by rw [HV.out], H8.out.2.2, fun h0 => ?_, (hbw.setCell (by show w.heap.size ≤ w.heap.size + 2; omega) _).setCell (by show w.heap.size ≤ w.heap.size + 2; omega) _⟩
            · simp [results, Tryz.results12, go_sem, z0, z1]
            · obtain ⟨r0, M, r1, r2, r3⟩ := hr9 h0
              exact ⟨r0, M, r1, (r2.kt (kz _ (by decide)) (kz _ (by decide))).base hw, own_base (r3.kt (kz _ (by decide))) hw⟩
          · go_wp2_with (first | (go_at_call 8; refine cC.mono ?_; rintro e W7 ⟨z, rfl, hz, hf7⟩; have hB17 : Below W0.heap.size W0 W7 := HX6.out.1.trans hf7.1; have m7 := (hB17.block (w.heap.size + 2) (by have := HB.out.2.2; omega)).trans HB.out.2.1; have z0 : W7.cell? ⟨w.heap.size + 2, 0, none⟩ = some (.slice none 0 0) := cell_at m7 rfl; have z1 : W7.cell? ⟨w.heap.size + 2, 1, none⟩ = some (.slice none 0 0) := cell_at m7 rfl; have f0 : W7.frozen? ⟨w.heap.size + 2, 0, none⟩ = false := frz_at m7; have f1 : W7.frozen? ⟨w.heap.size + 2, 1, none⟩ = false := frz_at m7; have H7 := Lib.hid (And.intro hz hB17); clear hz hf7 hB17 m7 cC))
            have hbw : Below w.heap.size w W7 := HB.out.1.trans (H7.out.2.mono (by have := HB.out.2.2; omega))
            refine bodyPost_ret (v := .tuple #[.agg #[.slice none 0 0, .slice none 0 0], .iface 79 (.int .i64 z)]) ?_ rfl ⟨_, _, _, _, _, _, z, by rw [errV_ne H7.out.1.1], H7.out.1.2, fun h0 => absurd h0 H7.out.1.1, (hbw.setCell (by show w.heap.size ≤ w.heap.size + 2; omega) _).setCell (by show w.heap.size ≤ w.heap.size + 2; omega) _⟩
            simp [results, Tryz.results12, go_sem, z0, z1]
theorem two_any {vs vg vl vk : Value} {L : List Kd} {B : List Bd} {N : List Nd} {T : List Te} {l k : List Opx} {w : World} (hs : IsSc w vs L B) (hg : IsG w vg N T) (hl : IsO w vl l) (hk : IsO w vk k) (l40 : l.length ≤ 40) (k40 : k.length ≤ 40) (el : opS.err l (cN N) T = 0) (ek : opS.err k (cN N) T = 0) (zl : RcB l) (zk : RcB k) (hd : ∀ y ∈ touA T l, y ∉ touA T k) : Calls Tryz.prog 12 #[vs, vg, vl, vk] w (TwP w N T l k) := by
  by_cases h0 : cfE L B N T = 0
  · exact two_good hs hg hl hk h0 l40 k40 el ek zl zk hd
  · exact two_bad hs hg hl hk h0
end Go.Proofs.YtikjmingkadjcaaGreatDoor

/-
  The walk of SessionLate.
-/
namespace Go.Proofs.YtikjmingkadjcaaGreatDoor
open Go.RowKit
set_option linter.unusedVariables false
set_option linter.unusedSimpArgs false

theorem isG0 (W : World) : IsG W (.agg #[.slice none 0 0, .slice none 0 0]) [] [] :=
  ⟨_, _, rfl, ⟨none, 0, rfl, Nat.le_refl _, .inl rfl⟩, ⟨none, 0, rfl, Nat.le_refl _, .inl rfl⟩, fun n hn => (by cases hn), fun n hn => (by cases hn), Nat.zero_le _, Nat.zero_le _⟩
end Go.Proofs.YtikjmingkadjcaaGreatDoor

/-
  The walks of kinsame.Record, Node and Graph where both are the same.
-/
namespace Go.Proofs.YtikjmingkadjcaaGreatDoor
open Go.RowKit
set_option linter.unusedVariables false
set_option linter.unusedSimpArgs false

theorem strP : Tryz.prog.underlying 50 = some (.struct (Tryz.prog.fieldsOf 50)) := by kernel_rfl
theorem strV : Tryz.prog.underlying 48 = some (.struct (Tryz.prog.fieldsOf 48)) := by kernel_rfl
theorem hpPm : Tryz.prog.stoodInHeld 50 = false := by kernel_rfl
theorem hpV : Tryz.prog.stoodInHeld 48 = false := by kernel_rfl
theorem egP45 : Tryz.prog.eqGuardType Tryz.prog.depth 50 = false := by kernel_rfl
theorem eqV_any (t n t' n' : Int) (s s' : ByteArray) (d : Nat) (w : World) : (Op.equalIn (d + 1 + 1) 48 (.agg #[.int .i64 t, .int .i64 n, .string s]) (.agg #[.int .i64 t', .int .i64 n', .string s'])).run Tryz.prog w = .ok ((t == t') && (n == n') && (s.toList == s'.toList)) w := by
  have u3 := Tryz.underlying3
  have a3 := Tryz.isAgg3
  have z3 := Tryz.sizeOf3
  have u9 := Tryz.underlying9
  have a9 := Tryz.isAgg9
  have z9 := Tryz.sizeOf9
  rw [run_equalIn_agg w (d + 1) 48 _ _ strV hpV]
  simp only [Program.fieldsOf, Tryz.underlying48]
  go_simp
  by_cases h1 : t = t' <;> by_cases h2 : n = n' <;> by_cases h3 : s.toList = s'.toList <;> simp [h1, h2, h3]
def Pr.eq (p q : Pr) : Bool := (p.nm.toList == q.nm.toList) && ((p.t == q.t) && (p.n == q.n) && (p.s.toList == q.s.toList))
theorem eqP_any (p q : Pr) (w : World) : (Op.equalIn 10000 50 p.one q.one).run Tryz.prog w = .ok (p.eq q) w := by
  have u9 := Tryz.underlying9
  have a9 := Tryz.isAgg9
  have z9 := Tryz.sizeOf9
  have a56 := Tryz.isAgg48
  have z56 := Tryz.sizeOf48
  have hV : ∀ w, (Op.equalIn 9999 48 (.agg #[.int .i64 p.t, .int .i64 p.n, .string p.s]) (.agg #[.int .i64 q.t, .int .i64 q.n, .string q.s])).run Tryz.prog w = .ok ((p.t == q.t) && (p.n == q.n) && (p.s.toList == q.s.toList)) w := fun w => eqV_any p.t p.n q.t q.n p.s q.s 9997 w
  rw [show (10000 : Nat) = 9999 + 1 from rfl, run_equalIn_agg w 9999 50 _ _ strP hpPm]
  unfold Pr.eq
  generalize ((p.t == q.t) && (p.n == q.n) && (p.s.toList == q.s.toList)) = b at *
  simp only [Program.fieldsOf, Tryz.underlying50]
  go_simp
  by_cases h1 : p.nm.toList = q.nm.toList <;> cases b <;> simp [h1]
theorem pr_eq_self (p : Pr) : p.eq p = true := by simp [Pr.eq]
theorem neqP_any (p q : Pr) (w : World) : (binOp .neq 50 p.one q.one).run Tryz.prog w = .ok (.bool (!p.eq q)) w := by
  rw [run_neq_struct, eqP_any]; rfl
theorem egPP (op : BinOp) (x y : Operand) (p q : Pr) (w : World) : (eqGuard op 50 x y p.one q.one).run Tryz.prog w = .ok () w := run_eqGuard_agg w op 50 x y _ _ egP45

set_option maxHeartbeats 1000000 in
set_option maxRecDepth 100000 in
theorem srec_same {va vb : Value} {L : List Pr} {w : World} (ha : IsR w va L) (hb : IsR w vb L) (hl : L.length ≤ 1000) :
    Calls Tryz.prog 47 #[va, vb] w fun e w' => e = .returned (.bool true) ∧ Below w.heap.size w w' := by
  obtain ⟨ao, ca, rfl, h1⟩ := ha
  obtain ⟨bo, cb, rfl, h2⟩ := hb
  go_enter Tryz.func47, Tryz.ntmps47
  go_wp2
  go_loopw [5] (fun i wr => ∃ k q : Nat, k ≤ L.length ∧ i = .int .i64 k ∧ wr = w.drewN q) (fun i _ => L.length - (intOf i).toNat)
  case atStart => exact ⟨0, 0, Nat.zero_le _, rfl, rfl⟩
  case round =>
    obtain ⟨k, q, hk, rfl, rfl⟩ := hrel
    by_cases hlt : k < L.length
    · obtain ⟨x, hx⟩ : ∃ x, L[k]? = some x := ⟨L[k], by simp [hlt]⟩
      rcases h1 with rfl | ⟨b1, o1, rfl, hb1, l1⟩
      · exact absurd hlt (by simp)
      rcases h2 with rfl | ⟨b2, o2, rfl, hb2, l2⟩
      · exact absurd hlt (by simp)
      obtain ⟨c0, c1, c2, c3⟩ := l1 k x hx
      obtain ⟨d0, d1, d2, d3⟩ := l2 k x hx
      have hne := neqP_any x x
      rw [pr_eq_self] at hne
      have hgd := fun op a b => egPP op a b x x
      obtain ⟨nm, t, n, s⟩ := x
      simp only at c0 c1 c2 c3 d0 d1 d2 d3 hne hgd
      clear l1 l2 hx
      generalize hW : w.drewN q = W at *
      have e0 : W.cell? ⟨b1, o1 + k * 4, none⟩ = some (.string nm) := by rw [← hW]; exact c0
      have e1 : W.cell? ⟨b1, o1 + k * 4 + 1, none⟩ = some (.int .i64 t) := by rw [← hW]; exact c1
      have e2 : W.cell? ⟨b1, o1 + k * 4 + 2, none⟩ = some (.int .i64 n) := by rw [← hW]; exact c2
      have e3 : W.cell? ⟨b1, o1 + k * 4 + 3, none⟩ = some (.string s) := by rw [← hW]; exact c3
      have f0 : W.cell? ⟨b2, o2 + k * 4, none⟩ = some (.string nm) := by rw [← hW]; exact d0
      have f1 : W.cell? ⟨b2, o2 + k * 4 + 1, none⟩ = some (.int .i64 t) := by rw [← hW]; exact d1
      have f2 : W.cell? ⟨b2, o2 + k * 4 + 2, none⟩ = some (.int .i64 n) := by rw [← hW]; exact d2
      have f3 : W.cell? ⟨b2, o2 + k * 4 + 3, none⟩ = some (.string s) := by rw [← hW]; exact d3
      clear c0 c1 c2 c3 d0 d1 d2 d3
      go_wp2_with fail
      go_quiet (fail)
      go_wp2
      refine ⟨⟨k + 1, q + nq, hlt, ?_, by rw [← hW, World.drewN_drewN]⟩, ?_⟩
      · go_num
      · simp [intOf]
        omega
    · go_wp2
      go_ret
      exact ⟨rfl, b_drewK (Below.refl _ _) _⟩

set_option maxHeartbeats 1000000 in
set_option maxRecDepth 100000 in
theorem snode_same {id : Int} {kd : ByteArray} {va vb : Value} {L : List Pr} {w : World} (ha : IsR w va L) (hb : IsR w vb L) (hl : L.length ≤ 1000) :
    Calls Tryz.prog 32 #[.agg #[.int .i64 id, .string kd, va], .agg #[.int .i64 id, .string kd, vb]] w fun e w' => e = .returned (.bool true) ∧ Below w.heap.size w w' := by
  have ha' := ha
  have hb' := hb
  obtain ⟨ao, ca, rfl, h1⟩ := ha'
  obtain ⟨bo, cb, rfl, h2⟩ := hb'
  clear h1 h2
  have hB : Below w.heap.size w ((w.alloc (.cells #[.int .i64 id, .string kd, .slice ao L.length ca] 46)).alloc (.cells #[.int .i64 id, .string kd, .slice bo L.length cb] 46)) := b_alloc (b_alloc (Below.refl _ _) _) _
  have cR := srec_same (ha.on hB) (hb.on hB) hl
  have HK : Hid (∀ W, Below ((w.alloc (.cells #[.int .i64 id, .string kd, .slice ao L.length ca] 46)).alloc (.cells #[.int .i64 id, .string kd, .slice bo L.length cb] 46)).heap.size ((w.alloc (.cells #[.int .i64 id, .string kd, .slice ao L.length ca] 46)).alloc (.cells #[.int .i64 id, .string kd, .slice bo L.length cb] 46)) W → Below w.heap.size w W ∧ W.cell? ⟨w.heap.size, 0, none⟩ = some (.int .i64 id) ∧ W.cell? ⟨w.heap.size, 1, none⟩ = some (.string kd) ∧ W.cell? ⟨w.heap.size + 1, 0, none⟩ = some (.int .i64 id) ∧ W.cell? ⟨w.heap.size + 1, 1, none⟩ = some (.string kd)) := fun W h => by
    refine ⟨on1 hB h, ?_, ?_, ?_, ?_⟩
    · exact (h.cell (by simp; omega)).trans (by simp)
    · exact (h.cell (by simp; omega)).trans (by simp)
    · exact (h.cell (by simp)).trans (by simp)
    · exact (h.cell (by simp)).trans (by simp)
  clear hB ha hb
  go_enter Tryz.func32, Tryz.ntmps32
  go_wp2_with (first | (go_at_call 47; refine cR.mono ?_; rintro e W1 ⟨rfl, hB1⟩; obtain ⟨k0, k1, k2, k3, k4⟩ := HK.out W1 hB1; have HB1 := Lib.hid k0; clear hB1 k0))
  go_ret
  exact ⟨rfl, HB1.out⟩
theorem strT : Tryz.prog.underlying 52 = some (.struct (Tryz.prog.fieldsOf 52)) := by kernel_rfl
theorem hpT : Tryz.prog.stoodInHeld 52 = false := by kernel_rfl
theorem egT90 : Tryz.prog.eqGuardType Tryz.prog.depth 52 = false := by kernel_rfl
theorem eqT_any (t : Te) (w : World) : (Op.equalIn 10000 52 t.one t.one).run Tryz.prog w = .ok true w := by
  have u3 := Tryz.underlying3
  have a3 := Tryz.isAgg3
  have z3 := Tryz.sizeOf3
  have u9 := Tryz.underlying9
  have a9 := Tryz.isAgg9
  have z9 := Tryz.sizeOf9
  obtain ⟨bd, fr, tt⟩ := t
  rw [show (10000 : Nat) = 9999 + 1 from rfl, run_equalIn_agg w 9999 52 _ _ strT hpT]
  simp only [Program.fieldsOf, Tryz.underlying52]
  go_simp
theorem neqT_any (t : Te) (w : World) : (binOp .neq 52 t.one t.one).run Tryz.prog w = .ok (.bool false) w := by
  rw [run_neq_struct, eqT_any]; rfl
theorem egTT (op : BinOp) (x y : Operand) (p q : Te) (w : World) : (eqGuard op 52 x y p.one q.one).run Tryz.prog w = .ok () w := run_eqGuard_agg w op 52 x y _ _ egT90
set_option maxHeartbeats 4000000 in
set_option maxRecDepth 100000 in
theorem graph_same {vn vt un ut : Value} {N M : List Nd} {T : List Te} {w : World} (hN : IsN w vn N) (hT : IsT w vt T) (hM : IsN w un M) (hT' : IsT w ut T) (hc : cN N = cN M) (hl : N.length ≤ 1000) (hlt : T.length ≤ 1000) (hr : ∀ n ∈ N, n.rc.length ≤ 1000) :
    Calls Tryz.prog 14 #[.agg #[vn, vt], .agg #[un, ut]] w fun e w' => e = .returned (.bool true) ∧ Below w.heap.size w w' := by
  have hll : N.length = M.length := by have := congrArg List.length hc; simpa [cN] using this
  obtain ⟨W0, hW0⟩ : ∃ W0, W0 = (w.alloc (.cells #[vn, vt] 29)).alloc (.cells #[un, ut] 29) := ⟨_, rfl⟩
  have hB0 : Below w.heap.size w W0 := by rw [hW0]; exact b_alloc (b_alloc (Below.refl _ _) _) _
  have n0 : W0.heap[w.heap.size]? = some (.cells #[vn, vt] 29 (0, 0)) := by rw [hW0]; exact (heap_alloc_old _ _ (by simp)).trans (heap_alloc_new w _)
  have n1 : W0.heap[w.heap.size + 1]? = some (.cells #[un, ut] 29 (0, 0)) := by
    have := heap_alloc_new (w.alloc (.cells #[vn, vt] 29)) (.cells #[un, ut] 29)
    rw [World.size_alloc] at this; rw [hW0]; exact this
  have HH := Lib.hid (And.intro hB0 (And.intro hN (And.intro hT (And.intro hM (And.intro hT' hc)))))
  obtain ⟨an, cn, rfl, _⟩ := hN
  obtain ⟨am, cm, rfl, _⟩ := hT
  obtain ⟨bn, en, rfl, _⟩ := hM
  obtain ⟨bm, em, rfl, _⟩ := hT'
  rw [← hll] at n1 hW0 ⊢
  have Hll := Lib.hid hll
  clear hll
  have HX : Hid (∀ W, Below W0.heap.size W0 W → (W.cell? ⟨w.heap.size, 0, none⟩ = some (.slice an N.length cn) ∧ W.cell? ⟨w.heap.size, 1, none⟩ = some (.slice am T.length cm)) ∧ W.cell? ⟨w.heap.size + 1, 0, none⟩ = some (.slice bn N.length en) ∧ W.cell? ⟨w.heap.size + 1, 1, none⟩ = some (.slice bm T.length em)) := fun W hB => by
    have y0 := (hB.block _ (Array.getElem?_eq_some_iff.1 n0).1).trans n0
    have y1 := (hB.block _ (Array.getElem?_eq_some_iff.1 n1).1).trans n1
    exact ⟨⟨cell_at y0 rfl, cell_at y0 rfl⟩, cell_at y1 rfl, cell_at y1 rfl⟩
  obtain ⟨⟨c0, c1⟩, c2, c3⟩ := HX.out W0 (Below.refl _ _)
  clear hc n0 n1 hB0
  go_enter Tryz.func14, Tryz.ntmps14
  go_upto_region 1 with fail
  rw [← hW0]
  clear hW0
  go_wp2
  go_loopw [5] (fun i wr => ∃ k : Nat, k ≤ N.length ∧ i = .int .i64 k ∧ Below W0.heap.size W0 wr) (fun i _ => N.length - (intOf i).toNat)
  case atStart => exact ⟨0, Nat.zero_le _, rfl, Below.refl _ _⟩
  case round =>
    obtain ⟨k, hk, rfl, hB⟩ := hrel
    obtain ⟨⟨e0, e1⟩, e2, e3⟩ := HX.out wr hB
    have HBr := Lib.hid hB
    by_cases hlt : k < N.length
    · obtain ⟨n, hn⟩ : ∃ n, N[k]? = some n := ⟨N[k], by simp [hlt]⟩
      obtain ⟨m, hm⟩ : ∃ m, M[k]? = some m := ⟨M[k]'(by have := Hll.out; omega), by simp⟩
      have hcm : n.c = m.c := by
        have h1 : (cN N)[k]? = some n.c := by unfold cN; rw [List.getElem?_map, hn]; rfl
        have h2 : (cN M)[k]? = some m.c := by unfold cN; rw [List.getElem?_map, hm]; rfl
        rw [HH.out.2.2.2.2.2, h2] at h1
        exact (Option.some.inj h1).symm
      have hBw := on1K HH.out.1 hB (Nat.le_refl _)
      have gt : ∀ {v : Value} {X : List Nd} {ao : Option Addr} {cp : Nat} {x : Nd}, IsN w v X → v = .slice ao N.length cp → X[k]? = some x → ∃ b off, ao = some ⟨b, off, none⟩ ∧ (wr.cell? ⟨b, off + k * 3, none⟩ = some (.int .i64 x.id) ∧ wr.cell? ⟨b, off + k * 3 + 1, none⟩ = some (.string x.kd) ∧ wr.cell? ⟨b, off + k * 3 + 2, none⟩ = some x.rv) ∧ IsR wr x.rv x.rc := fun {v X ao cp x} h hv hx => by
        obtain ⟨a', c', e, hle, h0 | ⟨b, off, e2, hb, hL⟩⟩ := h
        · rw [h0] at hx; simp at hx
        · rw [hv] at e
          injection e with e _ _
          obtain ⟨q0, q1, q2, q3⟩ := hL k x hx
          exact ⟨b, off, e.trans e2, ⟨(hBw.cell hb).trans q0, (hBw.cell hb).trans q1, (hBw.cell hb).trans q2⟩, q3.on hBw⟩
      obtain ⟨b, off, rfl, ⟨d0, d1, d2⟩, hR1⟩ := gt HH.out.2.1 rfl hn
      obtain ⟨b', off', rfl, ⟨g0, g1, g2⟩, hR2⟩ := gt HH.out.2.2.2.1 (by rw [Hll.out]) hm
      have hrl := hr n (List.mem_of_getElem? hn)
      obtain ⟨id, kd, rv, rc⟩ := n
      obtain ⟨id', kd', rv', rc'⟩ := m
      simp only [Nd.c, Nd.mk.injEq, true_and] at hcm
      obtain ⟨rfl, rfl, rfl⟩ := hcm
      simp only at d0 d1 d2 g0 g1 g2 hR1 hR2 hrl
      have cs := snode_same (id := id) (kd := kd) (hR1.on (b_drew (Below.refl _ wr))) (hR2.on (b_drew (Below.refl _ wr))) hrl
      obtain ⟨x1, x2, x3, rfl⟩ := hR1.sl
      obtain ⟨y1, y2, y3, rfl⟩ := hR2.sl
      have HCc : Hid (∀ W1, Below wr.heap.size wr W1 → (W1.cell? ⟨w.heap.size, 0, none⟩ = some (.slice (some ⟨b, off, none⟩) N.length cn) ∧ W1.cell? ⟨w.heap.size + 1, 0, none⟩ = some (.slice (some ⟨b', off', none⟩) N.length en)) ∧ (W1.cell? ⟨b, off + k * 3, none⟩ = some (.int .i64 id) ∧ W1.cell? ⟨b, off + k * 3 + 1, none⟩ = some (.string kd) ∧ W1.cell? ⟨b, off + k * 3 + 2, none⟩ = some (.slice x1 x2 x3)) ∧ W1.cell? ⟨b', off' + k * 3, none⟩ = some (.int .i64 id) ∧ W1.cell? ⟨b', off' + k * 3 + 1, none⟩ = some (.string kd) ∧ W1.cell? ⟨b', off' + k * 3 + 2, none⟩ = some (.slice y1 y2 y3)) := fun W1 h => ⟨⟨(h.cell (cell_lt e0)).trans e0, (h.cell (cell_lt e2)).trans e2⟩, ⟨(h.cell (cell_lt d0)).trans d0, (h.cell (cell_lt d1)).trans d1, (h.cell (cell_lt d2)).trans d2⟩, (h.cell (cell_lt g0)).trans g0, (h.cell (cell_lt g1)).trans g1, (h.cell (cell_lt g2)).trans g2⟩
      have hki : (k : Int) < (N.length : Int) := by omega
      have hk0 : (0 : Int) ≤ (k : Int) := by omega
      clear hB gt hn hm hBw hR1 hR2 c0 c1 c2 c3
      go_upto_region 6 with fail
      first | (go_region_held (fun w' => (w'.cell? ⟨w.heap.size, 0, none⟩ = some (.slice (some ⟨b, off, none⟩) N.length cn) ∧ w'.cell? ⟨w.heap.size + 1, 0, none⟩ = some (.slice (some ⟨b', off', none⟩) N.length en)) ∧ (w'.cell? ⟨b, off + k * 3, none⟩ = some (.int .i64 id) ∧ w'.cell? ⟨b, off + k * 3 + 1, none⟩ = some (.string kd) ∧ w'.cell? ⟨b, off + k * 3 + 2, none⟩ = some (.slice x1 x2 x3)) ∧ w'.cell? ⟨b', off' + k * 3, none⟩ = some (.int .i64 id) ∧ w'.cell? ⟨b', off' + k * 3 + 1, none⟩ = some (.string kd) ∧ w'.cell? ⟨b', off' + k * 3 + 2, none⟩ = some (.slice y1 y2 y3)) (go_keep) (first | (go_at_call 32; refine cs.mono ?_; rintro e W1 ⟨rfl, hB1'⟩; have hB1 := b_undrew hB1'; obtain ⟨⟨v0, v1⟩, ⟨v2, v3, v4⟩, v5, v6, v7⟩ := HCc.out W1 hB1; clear hB1'))) | fail
      all_goals
        go_wp2
        refine ⟨⟨k + 1, hlt, ?_, on1K HBr.out hB1 (Nat.le_refl _)⟩, ?_⟩
        · go_num
        · simp [intOf]
          omega
    · clear hB c0 c1 c2 c3
      go_wp2
      go_loopw [7] (fun i wx => ∃ k q : Nat, k ≤ T.length ∧ i = .int .i64 k ∧ wx = wr.drewN q) (fun i _ => T.length - (intOf i).toNat)
      case atStart => exact ⟨0, 0, Nat.zero_le _, rfl, rfl⟩
      case round =>
        rename World => wx
        obtain ⟨j, q, hj, rfl, rfl⟩ := hrel
        have hBq : Below W0.heap.size W0 (wr.drewN q) := b_drewK HBr.out _
        obtain ⟨⟨k0, k1⟩, k2, k3⟩ := HX.out (wr.drewN q) hBq
        by_cases hjt : j < T.length
        · obtain ⟨x, hx⟩ : ∃ x, T[j]? = some x := ⟨T[j], by simp [hjt]⟩
          have hBw := on1K HH.out.1 hBq (Nat.le_refl _)
          have gt : ∀ {v : Value} {ao : Option Addr} {cp : Nat}, IsT w v T → v = .slice ao T.length cp → ∃ b off, ao = some ⟨b, off, none⟩ ∧ ((wr.drewN q).cell? ⟨b, off + j * 3, none⟩ = some (.string x.bd) ∧ (wr.drewN q).cell? ⟨b, off + j * 3 + 1, none⟩ = some (.int .i64 x.fr) ∧ (wr.drewN q).cell? ⟨b, off + j * 3 + 2, none⟩ = some (.int .i64 x.tt)) := fun {v ao cp} h hv => by
            obtain ⟨a', c', e, hle, h0 | ⟨b, off, e2, hb, hL⟩⟩ := h
            · rw [h0] at hx; simp at hx
            · rw [hv] at e
              injection e with e _ _
              obtain ⟨q0, q1, q2⟩ := hL j x hx
              exact ⟨b, off, e.trans e2, ⟨(hBw.cell hb).trans q0, (hBw.cell hb).trans q1, (hBw.cell hb).trans q2⟩⟩
          obtain ⟨b, off, rfl, ⟨d0, d1, d2⟩⟩ := gt HH.out.2.2.1 rfl
          obtain ⟨b', off', rfl, ⟨g0, g1, g2⟩⟩ := gt HH.out.2.2.2.2.1 rfl
          have hne := neqT_any x
          have hgd := fun op a b => egTT op a b x x
          obtain ⟨bd, fr, tt⟩ := x
          simp only at d0 d1 d2 g0 g1 g2 hne hgd
          clear gt hx hBw hBq e0 e1 e2 e3
          generalize hW : wr.drewN q = W at *
          go_wp2_with fail
          go_quiet (fail)
          go_wp2
          refine ⟨⟨j + 1, q + nq, hjt, ?_, by rw [← hW, World.drewN_drewN]⟩, ?_⟩
          · go_num
          · simp [intOf]
            omega
        · go_wp2
          go_ret
          exact ⟨rfl, on1K HH.out.1 (b_drewK HBr.out _) (Nat.le_refl _)⟩
end Go.Proofs.YtikjmingkadjcaaGreatDoor
