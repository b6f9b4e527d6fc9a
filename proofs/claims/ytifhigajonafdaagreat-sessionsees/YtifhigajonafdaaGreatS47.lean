/-
  The walk of SessionSees.
-/
import Derived.Test.YtifhigajonafdaaGreatS46
namespace Go.Proofs.YtifhigajonafdaaGreat
open Go.RowKit
set_option linter.unusedVariables false
set_option linter.unusedSimpArgs false

set_option maxHeartbeats 16000000 in
set_option maxRecDepth 100000 in
theorem ssees_any {vs vg vl vk : Value} {L : List Kd} {B : List Bd} {N : List Nd} {T : List Te} {l k : List Opx} {w : World} (hs : IsSc w vs L B) (hg : IsG w vg N T) (hl : IsO w vl l) (hk : IsO w vk k) (zl : RcB l) (zk : RcB k) :
    Calls Tryz.prog 3 #[vs, vg, vl, vk] w fun e w' => e = .returned (.bool true) ∧ Below w.heap.size w w' := by
  obtain ⟨ak, nk, ck, ab, nb, cb, hvs⟩ := isSc_slD hs
  obtain ⟨an, nn, cn, am, nm, cm, hvg⟩ := isG_sl hg
  obtain ⟨al, cl, hvl, _, hlo⟩ := id hl
  obtain ⟨ao, co, hvk, _, hko⟩ := id hk
  subst hvs hvg hvl hvk
  have HG : Hid (IsSc w (.agg #[.slice ak nk ck, .slice ab nb cb]) L B ∧ IsG w (.agg #[.slice an nn cn, .slice am nm cm]) N T) := ⟨hs, hg⟩
  have HLo : Hid ((l = [] ∨ ∃ b off, al = some ⟨b, off, none⟩ ∧ b < w.heap.size ∧ LiesO w b off l) ∧ RcB l) := ⟨hlo, zl⟩
  have HKo : Hid ((k = [] ∨ ∃ b off, ao = some ⟨b, off, none⟩ ∧ b < w.heap.size ∧ LiesO w b off k) ∧ RcB k) := ⟨hko, zk⟩
  clear hs hg hl hk zl zk hlo hko
  obtain ⟨W0, hW0⟩ : ∃ W0, W0 = apW w (.slice ak nk ck) (.slice ab nb cb) (.slice an nn cn) (.slice am nm cm) := ⟨_, rfl⟩
  have hA := apW_all w (.slice ak nk ck) (.slice ab nb cb) (.slice an nn cn) (.slice am nm cm)
  rw [← hW0] at hA
  obtain ⟨hB0, hz0, y0, y1, y2, y3, y4, y5, hsc⟩ := hA
  obtain ⟨hok, cN⟩ := fNew hsc
  have HB := Lib.hid (And.intro hB0 (And.intro hz0 hok))
  have HY := Lib.hid (And.intro y0 (And.intro y1 (And.intro y2 y3)))
  clear hB0 hz0 hok hsc y0 y1 y2 y3
  go_enter Tryz.func3, Tryz.ntmps3
  go_upto_region 2 with fail
  unfold apW box2 at hW0
  rw [← hW0]
  clear hW0
  go_upto_region 8 with (first | (go_at_call 4; refine cN.mono ?_; rintro e W1 ⟨p0, rfl, hbe, hB1⟩; have H1 := Lib.hid (And.intro hbe hB1); clear hbe hB1 cN) | (go_at_call 5; refine (fOpen HB.out.2.2 H1.out.1 H1.out.2.size).mono ?_; rintro e W2 ⟨rfl, hbe, hf⟩; have H2 := Lib.hid (And.intro hbe (And.intro (Nat.le_trans H1.out.2.size hf.1.size) hf)); clear hbe hf) | (go_at_call 6; refine (fIds HB.out.2.2 H2.out.1).mono ?_; rintro e W3 ⟨a3, c3, rfl, hB3⟩; have H3' := Lib.hid hB3; clear hB3))
  have hB3 : Below W0.heap.size W0 W3 := (H1.out.2.trans H2.out.2.2.1).trans (H3'.out.mono H2.out.2.1)
  have hlt : w.heap.size + 1 < W0.heap.size := by have := HB.out.2.1; omega
  have u0 : W3.cell? ⟨w.heap.size, 0, none⟩ = some (.slice ak nk ck) := (hB3.cell (by show w.heap.size < _; omega)).trans HY.out.1
  have u1 : W3.cell? ⟨w.heap.size, 1, none⟩ = some (.slice ab nb cb) := (hB3.cell (by show w.heap.size < _; omega)).trans HY.out.2.1
  have u2 : W3.cell? ⟨w.heap.size + 1, 0, none⟩ = some (.slice an nn cn) := (hB3.cell (by show w.heap.size + 1 < _; omega)).trans HY.out.2.2.1
  have u3 : W3.cell? ⟨w.heap.size + 1, 1, none⟩ = some (.slice am nm cm) := (hB3.cell (by show w.heap.size + 1 < _; omega)).trans HY.out.2.2.2
  have H3 : Hid (Below w.heap.size w W3 ∧ w.heap.size + 1 < W3.heap.size) := ⟨HB.out.1.trans (hB3.mono (by omega)), Nat.lt_of_lt_of_le hlt hB3.size⟩
  have HU : Hid (∀ W, Below W3.heap.size W3 W → W.cell? ⟨w.heap.size, 0, none⟩ = some (.slice ak nk ck) ∧ W.cell? ⟨w.heap.size, 1, none⟩ = some (.slice ab nb cb) ∧ W.cell? ⟨w.heap.size + 1, 0, none⟩ = some (.slice an nn cn) ∧ W.cell? ⟨w.heap.size + 1, 1, none⟩ = some (.slice am nm cm)) := fun W hB => by
    have := H3.out.2
    exact ⟨(hB.cell (by show w.heap.size < _; omega)).trans u0, (hB.cell (by show w.heap.size < _; omega)).trans u1, (hB.cell (by show w.heap.size + 1 < _; omega)).trans u2, (hB.cell (by show w.heap.size + 1 < _; omega)).trans u3⟩
  clear hB3 hlt HY y4 y5 H1 H2 H3' HB
  by_cases h0 : cfE L B N T = 0
  · obtain ⟨hok, cQ⟩ := qNew (HG.out.1.on H3.out.1) (HG.out.2.on H3.out.1) h0
    have HOK := Lib.hid (And.intro hok h0)
    clear hok h0
    go_wp2_with (first | (go_at_call 4; refine cQ.mono ?_; rintro e W4 ⟨p, rfl, hbe, hB4⟩; have H4 := Lib.hid (And.intro hbe hB4); clear hbe hB4 cQ) | (go_at_call 5; refine (qOpen2 HOK.out.1 H5.out.1 H5.out.2.1).mono ?_; rintro e W6 ⟨rfl, hbe, hf⟩; have H6 := Lib.hid (And.intro hbe hf); clear hbe hf) | (go_at_call 5; refine (qOpen1 HOK.out.1 H4.out.1 H4.out.2.size).mono ?_; rintro e W5 ⟨rfl, hbe, hf⟩; have H5 := Lib.hid (And.intro hbe (And.intro (Nat.le_trans H4.out.2.size hf.1.size) hf)); clear hbe hf))
    have HS6 : Hid (TqB W6 W3.heap.size p L B (cN N) T 0 0 (s00 (cN N) T) (s00 (cN N) T) ∧ Below W3.heap.size W3 W6) := ⟨H6.out.1, (H4.out.2.trans H5.out.2.2.1).trans H6.out.2.1⟩
    clear H4 H5 H6 u0 u1 u2 u3
    go_loopw [20] (fun i wr => ∃ j : Nat, (j ≤ l.length ∧ j ≤ 30) ∧ i = .int .i64 j ∧ (∃ x, TqB wr W3.heap.size p L B (cN N) T j 0 x (s00 (cN N) T)) ∧ Below W3.heap.size W3 wr) (fun i _ => 30 - (intOf i).toNat)
    case atStart => exact ⟨0, ⟨Nat.zero_le _, Nat.zero_le _⟩, rfl, ⟨_, HS6.out.1⟩, HS6.out.2⟩
    case round =>
      obtain ⟨j, hj, rfl, ⟨x, htq⟩, hB⟩ := hrel
      by_cases hlt : j < l.length ∧ j < 30
      · obtain ⟨o, ho⟩ : ∃ o, l[j]? = some o := ⟨l[j], by simp [hlt.1]⟩
        rcases HLo.out.1 with rfl | ⟨b, off, rfl, hb, hLo⟩
        · exact absurd hlt.1 (by simp)
        obtain ⟨hc, hR⟩ := hLo j o ho
        have hbw : Below w.heap.size w wr := on1K H3.out.1 hB (Nat.le_refl _)
        have hd : ∀ i u, o.cells[i]? = some u → wr.cell? ⟨b, off + j * 11 + i, none⟩ = some u := fun i u hu => (hbw.cell hb).trans (hc i u hu)
        have cD := tqDo1 htq hB.size hlt.2 (HLo.out.2 o (List.mem_of_getElem? ho)) (hR.on hbw)
        have hlt1 : j < l.length := hlt.1
        have hlt2 : j < 30 := hlt.2
        obtain ⟨av, lv, cv, hv⟩ := hR.sl
        obtain ⟨wh, ⟨id, kd, rv, rc⟩, ⟨nm', pt, pn, ps⟩, ⟨bd, fr, tt⟩⟩ := o
        simp only at hv
        subst hv
        have e0 := hd 0 _ rfl
        have e1 := hd 1 _ rfl
        have e2 := hd 2 _ rfl
        have e3 := hd 3 _ rfl
        have e4 := hd 4 _ rfl
        have e5 := hd 5 _ rfl
        have e6 := hd 6 _ rfl
        have e7 := hd 7 _ rfl
        have e8 := hd 8 _ rfl
        have e9 := hd 9 _ rfl
        have e10 := hd 10 _ rfl
        simp only [Nat.add_zero] at e0
        have HBr := Lib.hid hB
        clear hd hc hR hLo ho hbw hB htq hlt
        unfold Opx.one at cD
        simp only at cD
        go_wp2_with (first | (go_at_call 7; refine cD.mono ?_; rintro e W20 ⟨⟨v20, rfl⟩, hq20, hf20⟩; have H20 := Lib.hid (And.intro hq20 hf20); clear hq20 hf20))
        have HR : Hid (∃ j' : Nat, (j' ≤ l.length ∧ j' ≤ 30) ∧ Value.int .i64 ((j + 1 : Nat) : Int) = .int .i64 j' ∧ (∃ x, TqB W20 W3.heap.size p L B (cN N) T j' 0 x (s00 (cN N) T)) ∧ Below W3.heap.size W3 W20) := ⟨j + 1, ⟨by omega, by omega⟩, rfl, H20.out.1, HBr.out.trans H20.out.2.1⟩
        refine ⟨?_, ?_⟩
        · first | exact HR.out | ((repeat apply Exists.intro); refine ⟨?_, rfl⟩; exact HR.out)
        · simp [intOf]
          try omega
      · have hex : j = l.length ∨ j < l.length ∧ j = 30 := by omega
        obtain ⟨W7, hW7⟩ : ∃ W, W = wr := ⟨wr, rfl⟩
        subst hW7
        have HQ7 : Hid ((∃ i x, TqB W7 W3.heap.size p L B (cN N) T i 0 x (s00 (cN N) T)) ∧ Below W3.heap.size W3 W7) := ⟨⟨_, _, htq⟩, hB⟩
        have cS := tqSee2 htq hB.size
        clear htq hB hlt hj
        rcases hex with rfl | ⟨hlt2, rfl⟩
        all_goals
          as_aux_lemma =>
            go_upto_region 20 with (go_at_call 8; refine cS.mono ?_; rintro e W8 ⟨a8, n8, c8, b8, m8, d8, rfl, hS8, hB8⟩; have H8 := Lib.hid (And.intro hS8 hB8); clear hS8 hB8 cS)
            obtain ⟨W9, hW9⟩ : ∃ W9, W9 = W8.alloc (.cells #[.slice a8 n8 c8, .slice b8 m8 d8] 29) := ⟨_, rfl⟩
            have hBa : Below W8.heap.size W8 W9 := by rw [hW9]; exact b_alloc (Below.refl _ _) _
            have n9 : W9.heap[W8.heap.size]? = some (.cells #[.slice a8 n8 c8, .slice b8 m8 d8] 29 (0, 0)) := by rw [hW9]; exact heap_alloc_new W8 _
            rw [← hW9]
            clear hW9
            have hB79 : Below W7.heap.size W7 W9 := on1K H8.out.2 hBa (Nat.le_refl _)
            have HQ9 : Hid ((∃ i x, TqB W9 W3.heap.size p L B (cN N) T i 0 x (s00 (cN N) T)) ∧ Below W3.heap.size W3 W9 ∧ W9.heap[W8.heap.size]? = some (.cells #[.slice a8 n8 c8, .slice b8 m8 d8] 29 (0, 0)) ∧ W3.heap.size ≤ W8.heap.size) := by
              obtain ⟨⟨i, x, h⟩, hB⟩ := HQ7.out
              exact ⟨⟨i, x, h.on hB79⟩, on1K hB hB79 (Nat.le_refl _), n9, Nat.le_trans hB.size H8.out.2.size⟩
            obtain ⟨u0, u1, u2, u3⟩ := HU.out W9 HQ9.out.2.1
            have q0 : W9.cell? ⟨W8.heap.size, 0, none⟩ = some (.slice a8 n8 c8) := cell_at n9 rfl
            have q1 : W9.cell? ⟨W8.heap.size, 1, none⟩ = some (.slice b8 m8 d8) := cell_at n9 rfl
            have cE : Calls Tryz.prog 9 #[.agg #[.slice a8 n8 c8, .slice b8 m8 d8], .agg #[.slice an nn cn, .slice am nm cm]] W9 fun e w' => e = .returned (.bool true) ∧ Below W9.heap.size W9 w' := by
              have hs := H8.out.1.on hBa
              obtain ⟨M9, hM9, hG9⟩ := seG_isG hs
              exact seG_same hG9 (HG.out.2.on (on1K H3.out.1 HQ9.out.2.1 (Nat.le_refl _))) hM9 (by rw [hM9]; obtain ⟨_, _, _, _, hg⟩ := hs; exact hg)
            clear hBa hB79 n9 HQ7 H8
            go_wp2_with (go_at_call 9; refine cE.mono ?_; rintro e W10 ⟨rfl, hB10⟩; have HQ10 : Hid ((∃ i x y, TqB W10 W3.heap.size p L B (cN N) T i 0 x y) ∧ Below W3.heap.size W3 W10 ∧ W10.heap[W8.heap.size]? = some (.cells #[.slice a8 n8 c8, .slice b8 m8 d8] 29 (0, 0)) ∧ W3.heap.size ≤ W8.heap.size) := (by obtain ⟨⟨i, x, h⟩, hB, hn, hle⟩ := HQ9.out; exact ⟨⟨i, x, _, h.on hB10⟩, on1K hB hB10 (Nat.le_refl _), (hB10.block _ (Array.getElem?_eq_some_iff.1 hn).1).trans hn, hle⟩); clear hB10 cE HQ9)
            clear u0 u1 u2 u3 q0 q1
            go_loopw [24] (fun i wr => ∃ j : Nat, (j ≤ k.length ∧ j ≤ 30) ∧ i = .int .i64 j ∧ (∃ i x y, TqB wr W3.heap.size p L B (cN N) T i j x y) ∧ Below W3.heap.size W3 wr ∧ wr.heap[W8.heap.size]? = some (.cells #[.slice a8 n8 c8, .slice b8 m8 d8] 29 (0, 0))) (fun i _ => 30 - (intOf i).toNat)
            case atStart => exact ⟨0, ⟨Nat.zero_le _, Nat.zero_le _⟩, rfl, HQ10.out.1, HQ10.out.2.1, HQ10.out.2.2.1⟩
            case round =>
              obtain ⟨j, hj, rfl, ⟨ix, x, y, htq⟩, hB, hn⟩ := hrel
              have HNr := Lib.hid hn
              clear hn
              by_cases hlt : j < k.length ∧ j < 30
              · obtain ⟨o, ho⟩ : ∃ o, k[j]? = some o := ⟨k[j], by simp [hlt.1]⟩
                rcases HKo.out.1 with rfl | ⟨b, off, rfl, hb, hLo⟩
                · exact absurd hlt.1 (by simp)
                obtain ⟨hc, hR⟩ := hLo j o ho
                have hbw : Below w.heap.size w wr := on1K H3.out.1 hB (Nat.le_refl _)
                have hd : ∀ i u, o.cells[i]? = some u → wr.cell? ⟨b, off + j * 11 + i, none⟩ = some u := fun i u hu => (hbw.cell hb).trans (hc i u hu)
                have cD := tqDo2 htq hB.size hlt.2 (HKo.out.2 o (List.mem_of_getElem? ho)) (hR.on hbw)
                have hlt1 : j < k.length := hlt.1
                have hlt2 : j < 30 := hlt.2
                obtain ⟨av, lv, cv, hv⟩ := hR.sl
                obtain ⟨wh, ⟨id, kd, rv, rc⟩, ⟨nm', pt, pn, ps⟩, ⟨bd, fr, tt⟩⟩ := o
                simp only at hv
                subst hv
                have e0 := hd 0 _ rfl
                have e1 := hd 1 _ rfl
                have e2 := hd 2 _ rfl
                have e3 := hd 3 _ rfl
                have e4 := hd 4 _ rfl
                have e5 := hd 5 _ rfl
                have e6 := hd 6 _ rfl
                have e7 := hd 7 _ rfl
                have e8 := hd 8 _ rfl
                have e9 := hd 9 _ rfl
                have e10 := hd 10 _ rfl
                simp only [Nat.add_zero] at e0
                have HBr := Lib.hid hB
                clear hd hc hR hLo ho hbw hB htq hlt
                unfold Opx.one at cD
                simp only at cD
                go_wp2_with (first | (go_at_call 7; refine cD.mono ?_; rintro e W20 ⟨⟨v20, rfl⟩, hq20, hf20⟩; have H20 := Lib.hid (And.intro hq20 hf20); clear hq20 hf20))
                have HR : Hid (∃ j' : Nat, (j' ≤ k.length ∧ j' ≤ 30) ∧ Value.int .i64 ((j + 1 : Nat) : Int) = .int .i64 j' ∧ (∃ i x y, TqB W20 W3.heap.size p L B (cN N) T i j' x y) ∧ Below W3.heap.size W3 W20 ∧ W20.heap[W8.heap.size]? = some (.cells #[.slice a8 n8 c8, .slice b8 m8 d8] 29 (0, 0))) := ⟨j + 1, ⟨by omega, by omega⟩, rfl, by obtain ⟨y', h⟩ := H20.out.1; exact ⟨_, _, y', h⟩, HBr.out.trans H20.out.2.1, (H20.out.2.2 29 (by decide) (by decide) (by decide)).2 _ _ HNr.out⟩
                refine ⟨?_, ?_⟩
                · first | exact HR.out | ((repeat apply Exists.intro); refine ⟨?_, rfl⟩; exact HR.out)
                · simp [intOf]
                  try omega
              · have hex : j = k.length ∨ j < k.length ∧ j = 30 := by omega
                obtain ⟨W11, hW11⟩ : ∃ W, W = wr := ⟨wr, rfl⟩
                subst hW11
                have HQ11 := Lib.hid (And.intro htq (And.intro hB HNr.out))
                have cS := tqSee2 htq hB.size
                clear htq hB hlt hj
                rcases hex with rfl | ⟨hlt2, rfl⟩
                all_goals
                  as_aux_lemma =>
                    go_upto_region 28 with (go_at_call 8; refine cS.mono ?_; rintro e W12 ⟨a12, n12, c12, b12, m12, d12, rfl, hS12, hB12⟩; have mm := (hB12.block _ (Array.getElem?_eq_some_iff.1 HQ11.out.2.2).1).trans HQ11.out.2.2; have z0 : W12.cell? ⟨W8.heap.size, 0, none⟩ = some (.slice a8 n8 c8) := cell_at mm rfl; have z1 : W12.cell? ⟨W8.heap.size, 1, none⟩ = some (.slice b8 m8 d8) := cell_at mm rfl; have f0 : W12.frozen? ⟨W8.heap.size, 0, none⟩ = false := frz_at mm; have f1 : W12.frozen? ⟨W8.heap.size, 1, none⟩ = false := frz_at mm; have H12 := Lib.hid (And.intro hS12 (And.intro hB12 mm)); clear hS12 hB12 mm cS)
                    have hW8 := HQ10.out.2.2.2
                    have ty : Ty W12 W8.heap.size 29 := ⟨_, H12.out.2.2⟩
                    obtain ⟨W13, hW13⟩ : ∃ W13, W13 = (W12.setCell ⟨W8.heap.size, 0, none⟩ (.slice a12 n12 c12)).setCell ⟨W8.heap.size, 1, none⟩ (.slice b12 m12 d12) := ⟨_, rfl⟩
                    have HQ13 : Hid ((∃ i j, TqB W13 W3.heap.size p L B (cN N) T i j x y) ∧ Below W3.heap.size W3 W13 ∧ SeG W13 W11.heap.size (.slice a12 n12 c12) (.slice b12 m12 d12) y.eN y.eT ∧ W13.heap[W8.heap.size]? = some (.cells #[.slice a12 n12 c12, .slice b12 m12 d12] 29 (0, 0))) := by
                      rw [hW13]
                      exact ⟨⟨_, _, (HQ11.out.1.on H12.out.2.1).off ty _ _⟩, ((on1K HQ11.out.2.1 H12.out.2.1 (Nat.le_refl _)).setCell (by show W3.heap.size ≤ W8.heap.size; exact hW8) _).setCell (by show W3.heap.size ≤ W8.heap.size; exact hW8) _, H12.out.1.off ty _ _, heap_setCell_same _ _ 1 _ 29 _ (heap_setCell_same W12 _ 0 _ 29 _ H12.out.2.2)⟩
                    have cS1 : Calls Tryz.prog 8 #[.pointer (some ⟨p, 0, none⟩), .int .i64 1] W13 fun e w' => ∃ a n c a' n' c', e = .returned (.tuple #[.agg #[.slice a n c, .slice a' n' c'], .nilIface]) ∧ SeG w' W13.heap.size (.slice a n c) (.slice a' n' c') x.eN x.eT ∧ Below W13.heap.size W13 w' := by
                      obtain ⟨⟨i, j, h⟩, hB, _⟩ := HQ13.out
                      exact tqSee1 h hB.size
                    rw [← hW13]
                    clear hW8 ty hW13 z0 z1 f0 f1 H12 HQ11
                    go_upto_region 29 with (go_at_call 8; refine cS1.mono ?_; rintro e W14 ⟨a14, n14, c14, b14, m14, d14, rfl, hS14, hB14⟩; have H14 := Lib.hid (And.intro hS14 hB14); clear hS14 hB14 cS1)
                    obtain ⟨W15, hW15⟩ : ∃ W15, W15 = W14.alloc (.cells #[.slice a14 n14 c14, .slice b14 m14 d14] 29) := ⟨_, rfl⟩
                    have hBa : Below W14.heap.size W14 W15 := by rw [hW15]; exact b_alloc (Below.refl _ _) _
                    have n15 : W15.heap[W14.heap.size]? = some (.cells #[.slice a14 n14 c14, .slice b14 m14 d14] 29 (0, 0)) := by rw [hW15]; exact heap_alloc_new W14 _
                    have hB35 : Below W13.heap.size W13 W15 := on1K H14.out.2 hBa (Nat.le_refl _)
                    have HQ15 : Hid ((∃ i j, TqB W15 W3.heap.size p L B (cN N) T i j x y) ∧ Below W3.heap.size W3 W15 ∧ SeG W15 W11.heap.size (.slice a12 n12 c12) (.slice b12 m12 d12) y.eN y.eT ∧ SeG W15 W13.heap.size (.slice a14 n14 c14) (.slice b14 m14 d14) x.eN x.eT ∧ W15.heap[W8.heap.size]? = some (.cells #[.slice a12 n12 c12, .slice b12 m12 d12] 29 (0, 0)) ∧ W15.heap[W14.heap.size]? = some (.cells #[.slice a14 n14 c14, .slice b14 m14 d14] 29 (0, 0))) := by
                      obtain ⟨⟨i, j, h⟩, hB, hs, hn⟩ := HQ13.out
                      exact ⟨⟨i, j, h.on hB35⟩, on1K hB hB35 (Nat.le_refl _), hs.on hB35, H14.out.1.on hBa, box_on hn hB35, n15⟩
                    have cC : Calls Tryz.prog 10 #[.pointer (some ⟨p, 0, none⟩), .int .i64 1] W15 fun e w' => (∃ v, e = .returned v) ∧ (∃ a, SeC w' W3.heap.size p L B (cN N) T x y a) ∧ Fr W3.heap.size W15 w' := by
                      obtain ⟨⟨i, j, h⟩, hB, _⟩ := HQ15.out
                      exact tqCommit h hB.size
                    rw [← hW15]
                    clear hBa n15 hB35 hW15 H14 HQ13
                    go_upto_region 30 with (go_at_call 10; refine cC.mono ?_; rintro e W16 ⟨⟨v16, rfl⟩, ⟨a, hC⟩, hf⟩; have H16 := Lib.hid (And.intro hC hf); clear hC hf cC)
                    have HQ16 : Hid (SeC W16 W3.heap.size p L B (cN N) T x y a ∧ Below W3.heap.size W3 W16 ∧ SeG W16 W11.heap.size (.slice a12 n12 c12) (.slice b12 m12 d12) y.eN y.eT ∧ SeG W16 W13.heap.size (.slice a14 n14 c14) (.slice b14 m14 d14) x.eN x.eT ∧ W16.heap[W8.heap.size]? = some (.cells #[.slice a12 n12 c12, .slice b12 m12 d12] 29 (0, 0)) ∧ W16.heap[W14.heap.size]? = some (.cells #[.slice a14 n14 c14, .slice b14 m14 d14] 29 (0, 0))) := by
                      obtain ⟨_, hB, s1, s2, k1, k2⟩ := HQ15.out
                      exact ⟨H16.out.1, hB.trans H16.out.2.1, s1.fr H16.out.2, s2.fr H16.out.2, box_fr k1 H16.out.2, box_fr k2 H16.out.2⟩
                    have cS2 := scSee HQ16.out.1 HQ16.out.2.1.size
                    clear HQ15 H16
                    go_upto_region 31 with (go_at_call 8; refine cS2.mono ?_; rintro e W17 ⟨a17, n17, c17, b17, m17, d17, rfl, hS17, hB17⟩; have H17 := Lib.hid (And.intro hS17 hB17); clear hS17 hB17 cS2)
                    obtain ⟨W18, hW18⟩ : ∃ W18, W18 = W17.alloc (.cells #[.slice a17 n17 c17, .slice b17 m17 d17] 29) := ⟨_, rfl⟩
                    have hBa : Below W17.heap.size W17 W18 := by rw [hW18]; exact b_alloc (Below.refl _ _) _
                    have n18 : W18.heap[W17.heap.size]? = some (.cells #[.slice a17 n17 c17, .slice b17 m17 d17] 29 (0, 0)) := by rw [hW18]; exact heap_alloc_new W17 _
                    have hB68 : Below W16.heap.size W16 W18 := on1K H17.out.2 hBa (Nat.le_refl _)
                    have HQ18 : Hid (SeC W18 W3.heap.size p L B (cN N) T x y a ∧ Below W3.heap.size W3 W18 ∧ SeG W18 W13.heap.size (.slice a14 n14 c14) (.slice b14 m14 d14) x.eN x.eT ∧ W18.heap[W14.heap.size]? = some (.cells #[.slice a14 n14 c14, .slice b14 m14 d14] 29 (0, 0))) := by
                      obtain ⟨h, hB, _, s2, _, k2⟩ := HQ16.out
                      exact ⟨h.on hB68, on1K hB hB68 (Nat.le_refl _), s2.on hB68, box_on k2 hB68⟩
                    have k8 := box_on HQ16.out.2.2.2.2.1 hB68
                    have q0 : W18.cell? ⟨W8.heap.size, 0, none⟩ = some (.slice a12 n12 c12) := cell_at k8 rfl
                    have q1 : W18.cell? ⟨W8.heap.size, 1, none⟩ = some (.slice b12 m12 d12) := cell_at k8 rfl
                    have q2 : W18.cell? ⟨W17.heap.size, 0, none⟩ = some (.slice a17 n17 c17) := cell_at n18 rfl
                    have q3 : W18.cell? ⟨W17.heap.size, 1, none⟩ = some (.slice b17 m17 d17) := cell_at n18 rfl
                    have cE := seG_eq (HQ16.out.2.2.1.on hB68) (H17.out.1.on hBa)
                    rw [← hW18]
                    clear hBa n18 hB68 hW18 k8 H17 HQ16
                    go_upto_region 34 with (go_at_call 9; refine cE.mono ?_; rintro e W19 ⟨rfl, hB19⟩; have H19 := Lib.hid hB19; clear hB19 cE)
                    have cG := scGraph (HQ18.out.1.on H19.out) (Nat.le_trans HQ18.out.2.1.size H19.out.size)
                    clear q0 q1 q2 q3
                    go_upto_region 35 with (go_at_call 11; refine cG.mono ?_; rintro e W20 ⟨a20, n20, c20, b20, m20, d20, rfl, hS20, hB20⟩; have H20 := Lib.hid (And.intro hS20 hB20); clear hS20 hB20 cG)
                    obtain ⟨W21, hW21⟩ : ∃ W21, W21 = W20.alloc (.cells #[.slice a20 n20 c20, .slice b20 m20 d20] 29) := ⟨_, rfl⟩
                    have hBa : Below W20.heap.size W20 W21 := by rw [hW21]; exact b_alloc (Below.refl _ _) _
                    have n21 : W21.heap[W20.heap.size]? = some (.cells #[.slice a20 n20 c20, .slice b20 m20 d20] 29 (0, 0)) := by rw [hW21]; exact heap_alloc_new W20 _
                    have hB81 : Below W18.heap.size W18 W21 := on1K (on1K H19.out H20.out.2 (Nat.le_refl _)) hBa (Nat.le_refl _)
                    have HQ21 : Hid (SeC W21 W3.heap.size p L B (cN N) T x y a ∧ Below W3.heap.size W3 W21 ∧ SeG W21 W13.heap.size (.slice a14 n14 c14) (.slice b14 m14 d14) x.eN x.eT ∧ SeG W21 W19.heap.size (.slice a20 n20 c20) (.slice b20 m20 d20) (nowN (cN N) x a) (nowT T x a) ∧ W21.heap[W14.heap.size]? = some (.cells #[.slice a14 n14 c14, .slice b14 m14 d14] 29 (0, 0)) ∧ W21.heap[W20.heap.size]? = some (.cells #[.slice a20 n20 c20, .slice b20 m20 d20] 29 (0, 0))) := by
                      obtain ⟨h, hB, s2, k2⟩ := HQ18.out
                      exact ⟨h.on hB81, on1K hB hB81 (Nat.le_refl _), s2.on hB81, H20.out.1.on hBa, box_on k2 hB81, n21⟩
                    have q0 : W21.cell? ⟨W20.heap.size, 0, none⟩ = some (.slice a20 n20 c20) := cell_at n21 rfl
                    have q1 : W21.cell? ⟨W20.heap.size, 1, none⟩ = some (.slice b20 m20 d20) := cell_at n21 rfl
                    have cA := scAge HQ21.out.1
                    have HNW := Lib.hid (sc_now HQ21.out.1).2
                    have ha1 := (sc_now HQ21.out.1).1
                    obtain ⟨u0, u1, u2, u3⟩ := HU.out W21 HQ21.out.2.1
                    rw [← hW21]
                    clear hBa n21 hB81 hW21 H19 H20 HQ18
                    obtain rfl | rfl : a = 0 ∨ a = 1 := by omega
                    · as_aux_lemma =>
                        have cE := seG_in (N := N) (T := T) HQ21.out.2.2.2.1 (HG.out.2.on (on1K H3.out.1 HQ21.out.2.1 (Nat.le_refl _)))
                        clear ha1
                        go_upto_region 38 with (first | (go_at_call 12; refine cA.mono ?_; rintro e W99 ⟨rfl, rfl⟩) | (go_at_call 9; refine cE.mono ?_; rintro e W22 ⟨rfl, hB22⟩; have HX := HU.out W22 (on1K HQ21.out.2.1 hB22 (Nat.le_refl _)); have H22 := Lib.hid hB22; clear hB22 cE cA))
                        have k20 := box_on HQ21.out.2.2.2.2.2 H22.out
                        have q0 : W22.cell? ⟨W20.heap.size, 0, none⟩ = some (.slice a20 n20 c20) := cell_at k20 rfl
                        have q1 : W22.cell? ⟨W20.heap.size, 1, none⟩ = some (.slice b20 m20 d20) := cell_at k20 rfl
                        obtain ⟨u0, u1, u2, u3⟩ := HX
                        have cQ := qConf (HG.out.1.on (on1K H3.out.1 (on1K HQ21.out.2.1 H22.out (Nat.le_refl _)) (Nat.le_refl _))) (HQ21.out.2.2.2.1.on H22.out) HNW.out
                        have HK20 := Lib.hid k20
                        clear k20
                        go_upto_region 41 with (go_at_call 13; refine cQ.mono ?_; rintro e W23 ⟨rfl, hB23⟩; have H23 := Lib.hid hB23; clear hB23 cQ)
                        have hB13 : Below W99.heap.size W99 W23 := on1K H22.out H23.out (Nat.le_refl _)
                        have cB := scAbort (HQ21.out.1.on hB13) (Nat.le_trans HQ21.out.2.1.size hB13.size)
                        clear u0 u1 u2 u3 q0 q1
                        go_upto_region 42 with (go_at_call 14; refine cB.mono ?_; rintro e W24 ⟨rfl, hA, hf⟩; have H24 := Lib.hid (And.intro hA hf); clear hA hf cB)
                        have hB24 : Below W3.heap.size W3 W24 := (on1K HQ21.out.2.1 hB13 (Nat.le_refl _)).trans H24.out.2.1
                        have HS24 : Hid (∀ W, Below W24.heap.size W24 W → SeG W W19.heap.size (.slice a20 n20 c20) (.slice b20 m20 d20) (nowN (cN N) x 0) (nowT T x 0) ∧ W.heap[W20.heap.size]? = some (.cells #[.slice a20 n20 c20, .slice b20 m20 d20] 29 (0, 0))) := fun W hB => ⟨((HQ21.out.2.2.2.1.on hB13).fr H24.out.2).on hB, box_on (box_fr (box_on HK20.out H23.out) H24.out.2) hB⟩
                        have HGr : Hid (∀ W, Below W24.heap.size W24 W → Calls Tryz.prog 11 #[.pointer (some ⟨p, 0, none⟩)] W fun e w' => ∃ v n c v' n' c', e = .returned (.agg #[.slice v n c, .slice v' n' c']) ∧ SeG w' W.heap.size (.slice v n c) (.slice v' n' c') (nowN (cN N) x 0) (nowT T x 0) ∧ Below W.heap.size W w') := fun W hB => saGraph (H24.out.1.on hB) (Nat.le_trans hB24.size hB.size)
                        have k24 := (HS24.out W24 (Below.refl _ _)).2
                        have q0 : W24.cell? ⟨W20.heap.size, 0, none⟩ = some (.slice a20 n20 c20) := cell_at k24 rfl
                        have q1 : W24.cell? ⟨W20.heap.size, 1, none⟩ = some (.slice b20 m20 d20) := cell_at k24 rfl
                        have HB24 : Hid (Below w.heap.size w W24) := on1K H3.out.1 hB24 (Nat.le_refl _)
                        clear k24 hB24 hB13 HNW H23 H22 HQ21 HK20 H24
                        go_cut [31] (fun s31 wx => s31 = .bool true ∧ Below W24.heap.size W24 wx)
                        case first =>
                          as_aux_lemma =>
                            (go_region_law (first | (go_simp; go_at_call 11; refine (HGr.out _ (by first | exact Below.refl _ _ | exact b_drew (Below.refl _ _) | exact b_drewK (Below.refl _ _) _)).mono ?_; rintro e W25 ⟨a25, n25, c25, b25, m25, d25, rfl, hS25, hB25⟩; have hb25 : Below W24.heap.size W24 W25 := on1K (by first | exact Below.refl _ _ | exact b_drew (Below.refl _ _) | exact b_drewK (Below.refl _ _) _) hB25 (Nat.le_refl _); obtain ⟨s25, k25⟩ := HS24.out W25 hb25; have q2 : W25.cell? ⟨W20.heap.size, 0, none⟩ = some (.slice a20 n20 c20) := cell_at k25 rfl; have q3 : W25.cell? ⟨W20.heap.size, 1, none⟩ = some (.slice b20 m20 d20) := cell_at k25 rfl; have H25 := Lib.hid (And.intro hS25 (And.intro s25 hb25)); clear hS25 hB25 hb25 s25 k25) | (go_simp; go_at_call 9; refine (seG_eq H25.out.1 H25.out.2.1).mono ?_; rintro e W26 ⟨rfl, hB26⟩; have H26 := Lib.hid hB26; clear hB26)))
                            all_goals
                              go_wp2
                              go_meet
                              exact ⟨rfl, on1K H25.out.2.2 H26.out (Nat.le_refl _)⟩
                        case rest =>
                          obtain ⟨rfl, r6⟩ := hcut
                          have H6 := Lib.hid r6
                          clear r6 q0 q1
                          go_wp2
                          go_ret
                          exact ⟨rfl, on1K HB24.out H6.out (Nat.le_refl _)⟩
                    · as_aux_lemma =>
                        have k14 := HQ21.out.2.2.2.2.1
                        have q2 : W21.cell? ⟨W14.heap.size, 0, none⟩ = some (.slice a14 n14 c14) := cell_at k14 rfl
                        have q3 : W21.cell? ⟨W14.heap.size, 1, none⟩ = some (.slice b14 m14 d14) := cell_at k14 rfl
                        have cE := seG_eq (N := x.eN) (T := x.eT) HQ21.out.2.2.2.1 HQ21.out.2.2.1
                        clear k14 ha1
                        go_upto_region 38 with (first | (go_at_call 12; refine cA.mono ?_; rintro e W99 ⟨rfl, rfl⟩) | (go_at_call 9; refine cE.mono ?_; rintro e W22 ⟨rfl, hB22⟩; have HX := HU.out W22 (on1K HQ21.out.2.1 hB22 (Nat.le_refl _)); have H22 := Lib.hid hB22; clear hB22 cE cA))
                        have k20 := box_on HQ21.out.2.2.2.2.2 H22.out
                        have q0 : W22.cell? ⟨W20.heap.size, 0, none⟩ = some (.slice a20 n20 c20) := cell_at k20 rfl
                        have q1 : W22.cell? ⟨W20.heap.size, 1, none⟩ = some (.slice b20 m20 d20) := cell_at k20 rfl
                        obtain ⟨u0, u1, u2, u3⟩ := HX
                        have cQ := qConf (HG.out.1.on (on1K H3.out.1 (on1K HQ21.out.2.1 H22.out (Nat.le_refl _)) (Nat.le_refl _))) (HQ21.out.2.2.2.1.on H22.out) HNW.out
                        have HK20 := Lib.hid k20
                        clear k20
                        go_upto_region 41 with (go_at_call 13; refine cQ.mono ?_; rintro e W23 ⟨rfl, hB23⟩; have H23 := Lib.hid hB23; clear hB23 cQ)
                        have hB13 : Below W99.heap.size W99 W23 := on1K H22.out H23.out (Nat.le_refl _)
                        have cB := scAbort (HQ21.out.1.on hB13) (Nat.le_trans HQ21.out.2.1.size hB13.size)
                        clear u0 u1 u2 u3 q0 q1
                        go_upto_region 42 with (go_at_call 14; refine cB.mono ?_; rintro e W24 ⟨rfl, hA, hf⟩; have H24 := Lib.hid (And.intro hA hf); clear hA hf cB)
                        have hB24 : Below W3.heap.size W3 W24 := (on1K HQ21.out.2.1 hB13 (Nat.le_refl _)).trans H24.out.2.1
                        have HS24 : Hid (∀ W, Below W24.heap.size W24 W → SeG W W19.heap.size (.slice a20 n20 c20) (.slice b20 m20 d20) (nowN (cN N) x 1) (nowT T x 1) ∧ W.heap[W20.heap.size]? = some (.cells #[.slice a20 n20 c20, .slice b20 m20 d20] 29 (0, 0))) := fun W hB => ⟨((HQ21.out.2.2.2.1.on hB13).fr H24.out.2).on hB, box_on (box_fr (box_on HK20.out H23.out) H24.out.2) hB⟩
                        have HGr : Hid (∀ W, Below W24.heap.size W24 W → Calls Tryz.prog 11 #[.pointer (some ⟨p, 0, none⟩)] W fun e w' => ∃ v n c v' n' c', e = .returned (.agg #[.slice v n c, .slice v' n' c']) ∧ SeG w' W.heap.size (.slice v n c) (.slice v' n' c') (nowN (cN N) x 1) (nowT T x 1) ∧ Below W.heap.size W w') := fun W hB => saGraph (H24.out.1.on hB) (Nat.le_trans hB24.size hB.size)
                        have k24 := (HS24.out W24 (Below.refl _ _)).2
                        have q0 : W24.cell? ⟨W20.heap.size, 0, none⟩ = some (.slice a20 n20 c20) := cell_at k24 rfl
                        have q1 : W24.cell? ⟨W20.heap.size, 1, none⟩ = some (.slice b20 m20 d20) := cell_at k24 rfl
                        have HB24 : Hid (Below w.heap.size w W24) := on1K H3.out.1 hB24 (Nat.le_refl _)
                        clear k24 hB24 hB13 HNW H23 H22 HQ21 HK20 H24
                        go_cut [31] (fun s31 wx => s31 = .bool true ∧ Below W24.heap.size W24 wx)
                        case first =>
                          as_aux_lemma =>
                            (go_region_law (first | (go_simp; go_at_call 11; refine (HGr.out _ (by first | exact Below.refl _ _ | exact b_drew (Below.refl _ _) | exact b_drewK (Below.refl _ _) _)).mono ?_; rintro e W25 ⟨a25, n25, c25, b25, m25, d25, rfl, hS25, hB25⟩; have hb25 : Below W24.heap.size W24 W25 := on1K (by first | exact Below.refl _ _ | exact b_drew (Below.refl _ _) | exact b_drewK (Below.refl _ _) _) hB25 (Nat.le_refl _); obtain ⟨s25, k25⟩ := HS24.out W25 hb25; have q2 : W25.cell? ⟨W20.heap.size, 0, none⟩ = some (.slice a20 n20 c20) := cell_at k25 rfl; have q3 : W25.cell? ⟨W20.heap.size, 1, none⟩ = some (.slice b20 m20 d20) := cell_at k25 rfl; have H25 := Lib.hid (And.intro hS25 (And.intro s25 hb25)); clear hS25 hB25 hb25 s25 k25) | (go_simp; go_at_call 9; refine (seG_eq H25.out.1 H25.out.2.1).mono ?_; rintro e W26 ⟨rfl, hB26⟩; have H26 := Lib.hid hB26; clear hB26)))
                            all_goals
                              go_wp2
                              go_meet
                              exact ⟨rfl, on1K H25.out.2.2 H26.out (Nat.le_refl _)⟩
                        case rest =>
                          obtain ⟨rfl, r6⟩ := hcut
                          have H6 := Lib.hid r6
                          clear r6 q0 q1
                          go_wp2
                          go_ret
                          exact ⟨rfl, on1K HB24.out H6.out (Nat.le_refl _)⟩
  · have c := snew_no (HG.out.1.on H3.out.1) (HG.out.2.on H3.out.1) h0
    generalize cfE L B N T = z at c
    clear h0
    go_wp2_with (go_at_call 4; refine c.mono ?_; rintro e W4 ⟨rfl, hB4⟩; have H4 := Lib.hid hB4; clear hB4 c)
    go_ret
    exact ⟨rfl, on1K H3.out.1 H4.out (Nat.le_refl _)⟩
end Go.Proofs.YtifhigajonafdaaGreat
