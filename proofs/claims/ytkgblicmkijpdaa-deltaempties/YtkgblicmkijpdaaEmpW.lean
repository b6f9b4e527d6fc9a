/-
  The walk of DeltaEmpties.
-/
import Derived.Test.YtkgblicmkijpdaaEmpN
import Derived.Deep.DeepCutAuto
import Derived.Deep.RegionLaw
namespace Go.Proofs.Ytkgblicmkijpdaa
open Go.RowKit
set_option linter.unusedVariables false
set_option linter.unusedSimpArgs false

abbrev zN3 : Obj := .cells #[.int .i64 0, .string ⟨#[]⟩, .slice none 0 0] 30
theorem many_21 (w : World) : Calls Try.prog 10 #[.int .i64 2, .int .i64 1] w fun e w' => ∃ an cn am cm N, e = .returned (.agg #[.slice an 2 cn, .slice am 1 cm]) ∧ (N.length = 2 ∧ IsN w' (.slice an 2 cn) N ∧ (∀ (j : Nat) (x : Nd), N[j]? = some x → x.id = (j : Int) + 1 ∧ x.kd = ⟨#[97]⟩ ∧ x.rc = [prK ((j : Int) + 1)])) ∧ IsT w' (.slice am 1 cm) (rowT 1) ∧ Below w.heap.size w w' :=
  (many_any 2 1 (by omega) (by omega) w).mono fun e w' h => by
    obtain ⟨an, cn, am, cm, rfl, ⟨N, base, _, h1, h2, h3, _⟩, h4, h5⟩ := h
    exact ⟨an, cn, am, cm, N, rfl, ⟨h1, h2, h3⟩, h4, h5⟩

set_option maxHeartbeats 8000000 in
set_option maxRecDepth 100000 in
theorem empties_any {vn vt : Value} {N : List Nd} {T : List Te} {w : World} (hN : IsN w vn N) (hT : IsT w vt T) (zN : SzN N) (zT : SzT T) (lN : N.length ≤ maxLen) (lT : T.length ≤ maxLen) :
    Calls Try.prog 4 #[.agg #[vn, vt]] w fun e w' => e = .returned (.bool true) ∧ Below w.heap.size w w' := by
  obtain ⟨W0, hW0⟩ : ∃ W0, W0 = w.alloc (.cells #[vn, vt] 25) := ⟨_, rfl⟩
  have hB0 : Below w.heap.size w W0 := by rw [hW0]; exact b_alloc (Below.refl _ _) _
  have hs0 : W0.heap.size = w.heap.size + 1 := by rw [hW0]; simp
  have n0 : W0.heap[w.heap.size]? = some (.cells #[vn, vt] 25 (0, 0)) := by rw [hW0]; exact heap_alloc_new w _
  have cG := fun W (hB : Below W0.heap.size W0 W) => gcheck_any (hN.on (on1K hB0 hB (Nat.le_refl _))) (hT.on (on1K hB0 hB (Nat.le_refl _))) zN zT lN lT
  have HI : Hid (IsN w vn N ∧ IsT w vt T ∧ Below w.heap.size w W0 ∧ SzN N ∧ SzT T) := ⟨hN, hT, hB0, zN, zT⟩
  have HX : Hid (∀ W, Below W0.heap.size W0 W → W.cell? ⟨w.heap.size, 0, none⟩ = some vn ∧ W.cell? ⟨w.heap.size, 1, none⟩ = some vt ∧ w.heap.size < W.heap.size) := fun W hB => by
    have := (hB.block w.heap.size (by omega)).trans n0
    exact ⟨cell_at this rfl, cell_at this rfl, (Array.getElem?_eq_some_iff.1 this).1⟩
  obtain ⟨an, cn, hvn, hcn, hNN⟩ := hN
  obtain ⟨am, cm, hvt, hcm, hTT⟩ := hT
  subst hvn hvt
  have HNT : Hid ((N = [] ∨ ∃ b off, an = some ⟨b, off, none⟩ ∧ b < w.heap.size ∧ LiesN w b off N) ∧ (T = [] ∨ ∃ b off, am = some ⟨b, off, none⟩ ∧ b < w.heap.size ∧ LiesT w b off T)) := ⟨hNN, hTT⟩
  have c15 := many_21 W0
  clear hB0 n0 hNN hTT
  go_enter Try.func4, Try.ntmps4
  go_upto_region 1 with fail
  rw [← hW0]
  clear hW0
  go_wp2_with (first | (go_at_call 10; refine c15.mono ?_; rintro e W1 ⟨a1, c1, a2, c2, N2, rfl, ⟨hl2, hN2, hr2⟩, hT2, hB1⟩; have cf := fact_two hl2 hr2 hN2 hT2; clear hl2 hr2 hN2 hT2) | (go_at_call 6; refine cf.mono ?_; rintro e W2 ⟨a3, c3, a4, c4, rfl, hB2⟩; refine Hid.out ?_))
  refine Lib.hid ?_
  have hB3 : Below W0.heap.size W0 (W2.alloc (.cells #[.slice a3 1 c3, .slice a4 0 c4] 25)) := b_alloc (on1K hB1 hB2 (Nat.le_refl _)) _
  have cg := cG _ hB3
  obtain ⟨y0, y1, y2⟩ := HX.out _ hB3
  have HB3 := Lib.hid hB3
  clear hB1 hB2 cf c15 hB3
  by_cases he : gErr N T = 0
  · rw [he, errV_0] at cg
    have HE : Hid (gErr N T = 0) := he
    obtain ⟨l60, l120, _, _⟩ := gErr_lens he
    clear he
    go_wp2_with (first | (go_at_call 11; refine cg.mono ?_; rintro e W4 ⟨rfl, hB4⟩; refine Hid.out ?_))
    refine Lib.hid ?_
    have HB4 : Hid (Below W0.heap.size W0 W4) := on1K HB3.out hB4 (Nat.le_refl _)
    clear hB4 y0 y1 y2 cg HB3
    have cNo : ∀ W, Below W0.heap.size W0 W → ∀ id, Calls Try.prog 12 #[.agg #[.slice an N.length cn, .slice am T.length cm], .int .i64 id] W (NoP W N T id) := fun W hB id => node_any (HI.out.1.on (on1K HI.out.2.2.1 hB (Nat.le_refl _))) (HI.out.2.1.on (on1K HI.out.2.2.1 hB (Nat.le_refl _))) zN zT HE.out (gErr_rc8 HE.out) id
    go_wp2
    go_loopw [5, 6] (fun s5 s6 wr => ∃ i : Nat, i ≤ T.length ∧ s6 = .int .i64 i ∧ s5 = .int .i64 ((T.take i).filter (looseT N)).length ∧ Below W0.heap.size W0 wr) (fun _ s6 _ => T.length - (intOf s6).toNat)
    case atStart => exact ⟨0, Nat.zero_le _, rfl, rfl, HB4.out⟩
    case round =>
      obtain ⟨i, hi, rfl, rfl, hBr⟩ := hrel
      have HBr : Hid (Below W0.heap.size W0 wr) := hBr
      obtain ⟨x0, x1, x2⟩ := HX.out wr hBr
      by_cases hlt : i < T.length
      · obtain ⟨t, ht⟩ : ∃ t, T[i]? = some t := ⟨T[i], by simp [hlt]⟩
        have HC : Hid (((T.take (i + 1)).filter (looseT N)).length = ((T.take i).filter (looseT N)).length + (if looseT N t = true then 1 else 0)) := take_count (looseT N) ht
        have hle : ((T.take i).filter (looseT N)).length ≤ 120 := Nat.le_trans (List.length_filter_le _ _) (by rw [List.length_take]; omega)
        generalize ((T.take i).filter (looseT N)).length = l at *
        rcases HNT.out.2 with h0 | ⟨b, off, hab, hb, hLL⟩
        · rw [h0] at hlt; exact absurd hlt (by simp)
        subst hab
        have HD : Hid (∀ W, Below W0.heap.size W0 W → W.cell? ⟨b, off + i * 3 + 1, none⟩ = some (.int .i64 t.fr) ∧ W.cell? ⟨b, off + i * 3 + 2, none⟩ = some (.int .i64 t.tt)) := fun W hB => by
          obtain ⟨c0, c1, c2⟩ := hLL i t ht
          have hbw := on1K HI.out.2.2.1 hB (Nat.le_refl _)
          exact ⟨(hbw.cell hb).trans c1, (hbw.cell hb).trans c2⟩
        obtain ⟨d1, d2⟩ := HD.out wr hBr
        have cN1 := fun W hB => cNo W hB t.fr
        have cN2 := fun W hB => cNo W hB t.tt
        unfold NoP at cN1 cN2
        obtain ⟨E1, hE1⟩ : ∃ E, E = errV (fE N T t.fr) := ⟨_, rfl⟩
        obtain ⟨E2, hE2⟩ : ∃ E, E = errV (fE N T t.tt) := ⟨_, rfl⟩
        rw [← hE1] at cN1
        rw [← hE2] at cN2
        have HEE : Hid (E1 = errV (fE N T t.fr) ∧ E2 = errV (fE N T t.tt)) := ⟨hE1, hE2⟩
        clear hE1 hE2 hLL hBr cNo cG ht
        have q0 := cell_old (w := wr.drew) x0
        have q1 := cell_old (w := wr.drew) x1
        have q2 := cell_old (w := wr.drew) d1
        have hbr : b < wr.heap.size := cell_lt d1
        have hn1 : ¬ w.heap.size = wr.heap.size := by omega
        have hn2 : ¬ b = wr.heap.size := by omega
        go_upto_region 10 with fail
        go_cut [8] (fun s wx => s = E1 ∧ Below W0.heap.size W0 wx)
        case first =>
          go_region_law (first | (go_simp; go_at_call 12; refine (cN1 _ (by first | exact b_drew HBr.out | exact b_alloc (b_drew HBr.out) _)).mono ?_; rintro e W2 ⟨i1, k1, a5, l5, c5, rfl, _, hB2'⟩; have hb2 : Hid (Below W0.heap.size W0 W2) := on1K (by first | exact b_drew HBr.out | exact b_alloc (b_drew HBr.out) _) hB2' (Nat.le_refl _); (try (have kb : W2.heap[wr.heap.size]? = some zN3 := (hB2'.block _ (by simp)).trans (heap_alloc_new wr.drew _); have y5 : W2.cell? ⟨wr.heap.size, 0, none⟩ = some (.int .i64 0) := cell_at kb rfl; have y6 : W2.cell? ⟨wr.heap.size, 1, none⟩ = some (.string ⟨#[]⟩) := cell_at kb rfl; have y7 : W2.cell? ⟨wr.heap.size, 2, none⟩ = some (.slice none 0 0) := cell_at kb rfl; have f5 : W2.frozen? ⟨wr.heap.size, 0, none⟩ = false := frz_at kb; have f6 : W2.frozen? ⟨wr.heap.size, 1, none⟩ = false := frz_at kb; have f7 : W2.frozen? ⟨wr.heap.size, 2, none⟩ = false := frz_at kb; clear kb)); clear hB2'))
          all_goals
            go_wp2
            go_meet
            first
              | exact ⟨rfl, b_alloc hb2.out _⟩
              | exact ⟨rfl, below_set3 hb2.out HBr.out.size _ _ _ _ _ _⟩
        case rest =>
        obtain ⟨rfl, hBc⟩ := hcut
        clear x0 x1 x2 d1 d2 q0 q1 q2 hbr hn1 hn2 HBr cN1
        obtain ⟨x0, x1, x2⟩ := HX.out wc hBc
        obtain ⟨d1, d2⟩ := HD.out wc hBc
        have HBc := Lib.hid hBc
        clear hBc
        have q0 := cell_old (w := wc.drew) x0
        have q1 := cell_old (w := wc.drew) x1
        have q2 := cell_old (w := wc.drew) d2
        have hbr : b < wc.heap.size := cell_lt d1
        have hn1 : ¬ w.heap.size = wc.heap.size := by omega
        have hn2 : ¬ b = wc.heap.size := by omega
        go_upto_region 11 with fail
        go_cut [10] (fun s wx => s = E2 ∧ Below W0.heap.size W0 wx)
        case first =>
          go_region_law (first | (go_simp; go_at_call 12; refine (cN2 _ (by first | exact b_drew HBc.out | exact b_alloc (b_drew HBc.out) _)).mono ?_; rintro e W2 ⟨i1, k1, a5, l5, c5, rfl, _, hB2'⟩; have hb2 : Hid (Below W0.heap.size W0 W2) := on1K (by first | exact b_drew HBc.out | exact b_alloc (b_drew HBc.out) _) hB2' (Nat.le_refl _); (try (have kb : W2.heap[wc.heap.size]? = some zN3 := (hB2'.block _ (by simp)).trans (heap_alloc_new wc.drew _); have y5 : W2.cell? ⟨wc.heap.size, 0, none⟩ = some (.int .i64 0) := cell_at kb rfl; have y6 : W2.cell? ⟨wc.heap.size, 1, none⟩ = some (.string ⟨#[]⟩) := cell_at kb rfl; have y7 : W2.cell? ⟨wc.heap.size, 2, none⟩ = some (.slice none 0 0) := cell_at kb rfl; have f5 : W2.frozen? ⟨wc.heap.size, 0, none⟩ = false := frz_at kb; have f6 : W2.frozen? ⟨wc.heap.size, 1, none⟩ = false := frz_at kb; have f7 : W2.frozen? ⟨wc.heap.size, 2, none⟩ = false := frz_at kb; clear kb)); clear hB2'))
          all_goals
            go_wp2
            go_meet
            first
              | exact ⟨rfl, b_alloc hb2.out _⟩
              | exact ⟨rfl, below_set3 hb2.out HBc.out.size _ _ _ _ _ _⟩
        case rest =>
        obtain ⟨rfl, hBd⟩ := hcut
        obtain ⟨e1, e2⟩ := HEE.out
        have HBd := Lib.hid hBd
        have HG := HE
        clear HEE hBd x0 x1 x2 d1 d2 q0 q1 q2 hbr hn1 hn2 HBc cN2 HD HNT
        have hlw : (l : Int) + 1 ≤ 121 := by omega
        cases h1 : hasId N t.fr with
        | true =>
          rw [fE_ok HG.out h1, errV_0] at e1
          have hf : looseT N t = false := by simp [looseT, h1]
          rw [hf] at HC
          subst e1
          have HC' : Hid (((T.take (i + 1)).filter (looseT N)).length = l) := by show _ = _; simpa using HC.out
          clear HC e2 h1 hf
          go_wp2
          refine ⟨⟨i + 1, hlt, ?_, ?_, HBd.out⟩, ?_⟩
          · go_num
          · rw [HC'.out]
          · simp [intOf]
            omega
        | false =>
          rw [fE_no HG.out h1, show errV 5 = .iface 60 (.int .i64 5) from rfl] at e1
          subst e1
          cases h2 : hasId N t.tt with
          | true =>
            rw [fE_ok HG.out h2, errV_0] at e2
            have hf : looseT N t = false := by simp [looseT, h2]
            rw [hf] at HC
            subst e2
            have HC' : Hid (((T.take (i + 1)).filter (looseT N)).length = l) := by show _ = _; simpa using HC.out
            clear HC h1 h2 hf
            go_wp2
            refine ⟨⟨i + 1, hlt, ?_, ?_, HBd.out⟩, ?_⟩
            · go_num
            · rw [HC'.out]
            · simp [intOf]
              omega
          | false =>
            rw [fE_no HG.out h2, show errV 5 = .iface 60 (.int .i64 5) from rfl] at e2
            have hf : looseT N t = true := by simp [looseT, h1, h2]
            rw [hf] at HC
            subst e2
            have HC' : Hid (((T.take (i + 1)).filter (looseT N)).length = l + 1) := by show _ = _; simpa using HC.out
            clear HC h1 h2 hf
            go_wp2
            refine ⟨⟨i + 1, hlt, ?_, ?_, HBd.out⟩, ?_⟩
            · go_num
            · rw [HC'.out]
              go_num
            · simp [intOf]
              omega
      · obtain rfl : i = T.length := by omega
        rw [List.take_length]
        have hle : (T.filter (looseT N)).length ≤ 120 := Nat.le_trans (List.length_filter_le _ _) l120
        obtain ⟨l, hl⟩ : ∃ l, l = (T.filter (looseT N)).length := ⟨_, rfl⟩
        rw [← hl] at hle ⊢
        have HL := Lib.hid hl
        have HS : Hid (EmI W0 N T wr.heap.size 0 (wr.alloc (.cells #[.slice an N.length cn, .slice am T.length cm] 25)) ∧ W0.heap.size ≤ wr.heap.size) := ⟨em_start HI.out.1 HI.out.2.1 zN zT HE.out HI.out.2.2.1 HBr.out, HBr.out.size⟩
        clear hl cNo cG hBr HB4 hi
        obtain ⟨Wq, hWq⟩ : ∃ Wq, Wq = wr := ⟨wr, rfl⟩
        subst hWq
        go_wp2
        go_loopw [12] (fun s12 wr => ∃ i : Nat, i ≤ N.length ∧ s12 = .int .i64 i ∧ EmI W0 N T Wq.heap.size i wr) (fun s12 _ => N.length - (intOf s12).toNat)
        case atStart => exact ⟨0, Nat.zero_le _, rfl, HS.out.1⟩
        case round =>
          obtain ⟨i, hi, rfl, hM⟩ := hrel
          obtain ⟨vn, vt, M, U, m1, m2, m3, m4, m5, m6, m7, m8⟩ := hM
          by_cases hlt : i < N.length
          · obtain ⟨n, hn⟩ : ∃ n, N[i]? = some n := ⟨N[i], by simp [hlt]⟩
            rcases HNT.out.1 with h0 | ⟨b, off, hab, hb, hLL⟩
            · rw [h0] at hlt; exact absurd hlt (by simp)
            subst hab
            obtain ⟨c0, _, _, _⟩ := hLL i n hn
            have hbw := on1K HI.out.2.2.1 m8 (Nat.le_refl _)
            have d0 : wr.cell? ⟨b, off + i * 3, none⟩ = some (.int .i64 n.id) := (hbw.cell hb).trans c0
            obtain ⟨x0, x1, x2⟩ := HX.out wr m8
            obtain ⟨hf, hlo⟩ := em_first m3 hn
            have cD := fun W (hB : Below wr.heap.size wr W) => doG (m2 W (grown_of_below hB _)).1 (m2 W (grown_of_below hB _)).2 m6 m7 m5 n.id hf
            rw [hlo] at cD
            obtain ⟨a5, c5, hv5, _⟩ := (m2 wr (grown_of_below (Below.refl _ _) _)).1
            obtain ⟨a6, c6, hv6, _⟩ := (m2 wr (grown_of_below (Below.refl _ _) _)).2
            subst hv5 hv6
            have p0 : wr.cell? ⟨Wq.heap.size, 0, none⟩ = some (.slice a5 M.length c5) := cell_at m1 rfl
            have p1 : wr.cell? ⟨Wq.heap.size, 1, none⟩ = some (.slice a6 U.length c6) := cell_at m1 rfl
            have hqw : Wq.heap.size < wr.heap.size := (Array.getElem?_eq_some_iff.1 m1).1
            have HK : Hid (wr.heap[Wq.heap.size]? = some (.cells #[.slice a5 M.length c5, .slice a6 U.length c6] 25 (0, 0)) ∧ Below W0.heap.size W0 wr ∧ N[i]? = some n ∧ U = (N.take i).foldl (fun U n => U.filter (keepT n.id)) T ∧ SzT U) := ⟨m1, m8, hn, m4, m7⟩
            have q0 := cell_old (w := wr.drew) x0
            have q1 := cell_old (w := wr.drew) d0
            have q2 := cell_old (w := wr.drew) p0
            have q3 := cell_old (w := wr.drew) p1
            have hbr : b < wr.heap.size := cell_lt d0
            have hn1 : ¬ w.heap.size = wr.heap.size := by omega
            have hn2 : ¬ b = wr.heap.size := by omega
            have hn3 : ¬ Wq.heap.size = wr.heap.size := by omega
            clear m1 m2 m3 m4 m5 m6 m7 m8 hn hlo hf hbw c0 hLL x1
            generalize hid : n.id = id at *
            go_upto_region 18 with fail
            go_cut [13, 14] (fun s13 s14 wx => EmC W0 (.slice a5 M.length c5) (.slice a6 U.length c6) ((cN N).drop (i + 1)) (U.filter (keepT id)) Wq.heap.size s13 s14 wx)
            case first =>
              go_region_law (first | (go_simp; go_at_call 6; refine (cD _ (by first | exact b_drew (Below.refl _ wr) | exact b_alloc (b_drew (Below.refl _ wr)) _)).mono ?_; rintro e W2 ⟨un, ut, M2, rfl, ⟨hM2, hO2, hT2, hg2⟩, hB2'⟩; obtain ⟨a7, c7, hv7⟩ := own_slice hO2.1; obtain ⟨a8, c8, hv8⟩ := own_slice hT2; subst hv7 hv8; have hb2 : Hid (Below wr.heap.size wr W2) := on1K (by first | exact b_drew (Below.refl _ wr) | exact b_alloc (b_drew (Below.refl _ wr)) _) hB2' (Nat.le_refl _); (try (have kb : W2.heap[wr.heap.size]? = some (.cells #[.slice none 0 0, .slice none 0 0] 25 (0, 0)) := (hB2'.block _ (by simp)).trans (heap_alloc_new wr.drew _); have y5 : W2.cell? ⟨wr.heap.size, 0, none⟩ = some (.slice none 0 0) := cell_at kb rfl; have y6 : W2.cell? ⟨wr.heap.size, 1, none⟩ = some (.slice none 0 0) := cell_at kb rfl; have f5 : W2.frozen? ⟨wr.heap.size, 0, none⟩ = false := frz_at kb; have f6 : W2.frozen? ⟨wr.heap.size, 1, none⟩ = false := frz_at kb; replace kb := Lib.hid kb)); clear hB2'; have HO := Lib.hid (And.intro hM2 (And.intro hO2 (And.intro hT2 hg2))); clear hM2 hO2 hT2 hg2))
              all_goals
                go_wp2
                go_meet
                have hq5 := (hb2.out.block _ hqw).trans HK.out.1
                first
                  | exact emC_alloc HO.out.2.1 HO.out.2.2.1 HO.out.1 HO.out.2.2.2 hq5 (on1K HK.out.2.1 hb2.out (Nat.le_refl _))
                  | exact emC_set kb.out hn3 HK.out.2.1.size HO.out.2.1 HO.out.2.2.1 HO.out.1 HO.out.2.2.2 hq5 (on1K HK.out.2.1 hb2.out (Nat.le_refl _))
            case rest =>
            obtain ⟨p2, un, ut, M2, rfl, rfl, r1, r2, r3, r4, r5, r6, r7⟩ := hcut
            obtain ⟨a7, c7, hv7⟩ := own_slice r2.1
            obtain ⟨a8, c8, hv8⟩ := own_slice r3
            subst hv7 hv8
            have z0 : wc.cell? ⟨p2, 0, none⟩ = some (.slice a7 M2.length c7) := cell_at r1 rfl
            have z1 : wc.cell? ⟨p2, 1, none⟩ = some (.slice a8 (U.filter (keepT id)).length c8) := cell_at r1 rfl
            have t0 : wc.cell? ⟨Wq.heap.size, 0, none⟩ = some (.slice a5 M.length c5) := cell_at r6 rfl
            have t1 : wc.cell? ⟨Wq.heap.size, 1, none⟩ = some (.slice a6 U.length c6) := cell_at r6 rfl
            have f0 : wc.frozen? ⟨Wq.heap.size, 0, none⟩ = false := frz_at r6
            have f1 : wc.frozen? ⟨Wq.heap.size, 1, none⟩ = false := frz_at r6
            have HE2 : Hid (EmI W0 N T Wq.heap.size (i + 1) ((wc.setCell ⟨Wq.heap.size, 0, none⟩ (.slice a7 M2.length c7)).setCell ⟨Wq.heap.size, 1, none⟩ (.slice a8 (U.filter (keepT id)).length c8))) := by
              subst hid
              exact em_step HK.out.2.2.1 HK.out.2.2.2.1 r2 r3 r4 r5 r6 r7 HS.out.2 zN HK.out.2.2.2.2
            clear r1 r2 r3 r4 r5 r6 r7 x0 d0 p0 p1 q0 q1 q2 q3 cD HK
            go_wp2
            refine ⟨⟨i + 1, hlt, ?_, HE2.out⟩, ?_⟩
            · go_num
            · simp [intOf]
              omega
          · obtain rfl : i = N.length := by omega
            have hM0 : M.length = 0 := by
              have := congrArg List.length m3
              rw [List.length_drop, cN_len, cN_len] at this
              omega
            have hU : U.length = l := by
              rw [m4, List.take_length, keep_all, HL.out]
            obtain ⟨a5, c5, hv5, _⟩ := (m2 wr (grown_of_below (Below.refl _ _) _)).1
            obtain ⟨a6, c6, hv6, _⟩ := (m2 wr (grown_of_below (Below.refl _ _) _)).2
            subst hv5 hv6
            rw [hM0, hU] at m1
            have p0 : wr.cell? ⟨Wq.heap.size, 0, none⟩ = some (.slice a5 0 c5) := cell_at m1 rfl
            have p1 : wr.cell? ⟨Wq.heap.size, 1, none⟩ = some (.slice a6 l c6) := cell_at m1 rfl
            obtain ⟨x0, x1, x2⟩ := HX.out wr m8
            have HF : Hid (Below w.heap.size w wr) := on1K HI.out.2.2.1 m8 (Nat.le_refl _)
            clear m1 m2 m3 m4 m5 m6 m7 m8 hM0 hU
            go_wp2
            go_ret
            exact ⟨rfl, HF.out⟩
  · rw [errV_ne he] at cg
    go_wp2_with (first | (go_at_call 11; refine cg.mono ?_; rintro e W4 ⟨rfl, hB4⟩))
    go_ret
    exact ⟨rfl, on1K HI.out.2.2.1 (on1K HB3.out hB4 (Nat.le_refl _)) (Nat.le_refl _)⟩
end Go.Proofs.Ytkgblicmkijpdaa
