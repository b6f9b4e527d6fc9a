/-
  The walk of kinref1.Fields.
-/
import Derived.Test.YtgjlonilbhlneaaGreatDoorM26
namespace Go.Proofs.YtgjlonilbhlneaaGreatDoor
open Go.RowKit
set_option linter.unusedVariables false
set_option linter.unusedSimpArgs false

theorem drop_isF {W : World} {g cg t : Nat} {al : List Fd} (hl : LiesF W g 0 al) (hg : g < W.heap.size) (hc : al.length ≤ cg) (hm : cg ≤ maxLen) (ht : t ≤ al.length) : IsF W (.slice (some ⟨g, t * 4, none⟩) (al.length - t) (cg - t)) (al.drop t) := by
  have := liesF_drop hl t
  rw [Nat.zero_add] at this
  exact .inr ⟨g, t * 4, cg - t, by rw [List.length_drop], by rw [List.length_drop]; omega, by omega, hg, this⟩
theorem drop_none {W : World} {ao : Option Addr} {c t : Nat} {al : List Fd} (h : al.length ≤ t) (hc : c ≤ maxLen) (hn : ao = none → c = 0) : IsF W (.slice ao 0 c) (al.drop t) := .inl ⟨ao, c, rfl, List.drop_eq_nil_of_le h, hc, hn⟩

set_option maxHeartbeats 16000000 in
set_option maxRecDepth 100000 in
theorem rfields_some (b off cap : Nat) (L : List Kd) (a : Nm) (ja : Nat) (q : Kd) (w : World) (hb : b < w.heap.size) (hL : LiesK w b off L) (hP : Parts w L) (hS : Small L) (hn : L.length ≤ 12) (hR : Right L) (hq : L[ja]? = some q) (hqa : q.nm = a) :
    Calls Tryz.prog 66 #[.slice (some ⟨b, off, none⟩) L.length cap, .string (bs a)] w (RFPost w (fOf [] ((kinF L a).flatMap Kd.fs))) := by
  have cK := rkin_some b off cap L a ja q w hb hL hP hS hn hR (by rw [← hqa]; exact idx_of hR hq) hq hqa
  change Calls Tryz.prog 40 _ w (fun e w' => ∃ v, e = .returned v ∧ w'.ownsRow w.heap.size 9 1 v (nms (kinF L a)).length (cellsS (nms (kinF L a))) ∧ Below w.heap.size w w') at cK
  have hKl : (kinF L a).length ≤ 12 := by
    unfold kinF
    have := List.length_filter_le (fun x => hasN (names L a) x.nm) L
    omega
  have hKs : ∀ x ∈ kinF L a, x ∈ L := fun x hx => (List.mem_filter.1 hx).1
  obtain ⟨K, hK⟩ : ∃ K, K = kinF L a := ⟨_, rfl⟩
  rw [← hK] at cK hKl hKs ⊢
  obtain ⟨o, ho⟩ : ∃ o, o = fOf [] (K.flatMap Kd.fs) := ⟨_, rfl⟩
  rw [← ho]
  have HH : Hid (LiesK w b off L ∧ Parts w L ∧ Small L ∧ Right L ∧ (∀ x ∈ K, x ∈ L) ∧ o = fOf [] (K.flatMap Kd.fs)) := ⟨hL, hP, hS, hR, hKs, ho⟩
  have HC : Hid (∀ W, Below w.heap.size w W → ∀ s, Calls Tryz.prog 15 #[.slice (some ⟨b, off, none⟩) L.length cap, .string (bs s)] W fun e w' => e = .returned (.int .i64 (idxK s L 0)) ∧ w' = W) := fun W h s => rkind_some b off cap L s W (hL.on hb h) hn
  clear hL hP hS hR hq hqa hKs ho hK
  go_enter Tryz.func66, Tryz.ntmps66
  go_wp2_with (go_at_call 40; refine cK.mono ?_; rintro e W1 ⟨v1, rfl, hown1, hB1⟩; refine Hid.out ?_)
  refine Lib.hid ?_
  obtain ⟨a1, c1, rfl, hv1⟩ := isS_viewR (own_isS hown1)
  have hnl : (nms K).length = K.length := by unfold nms; simp
  rw [hnl]
  have HV : Hid (∀ j g, (nms K)[j]? = some g → ∃ b o, a1 = some ⟨b, o, none⟩ ∧ b < W1.heap.size ∧ W1.cell? ⟨b, o + j, none⟩ = some (.string (bs g))) := hv1
  have HB1 : Hid (Below w.heap.size w W1) := hB1
  clear cK hown1 hv1 hB1 hnl
  go_wp2
  go_loopw [6, 8] (fun s6 s8 wr => FR2 W1 K o s6 s8 wr) (fun _ s8 _ => K.length - (intOf s8).toNat)
  case atStart => exact ⟨0, [], Nat.zero_le _, rfl, HH.out.2.2.2.2.2, srt_nil, by simp, World.ownsRow_nil _ _ _ _, Below.refl _ _⟩
  case round =>
    obtain ⟨i, al0, hi, rfl, h1, h2, h3, h4, hB⟩ := hrel
    by_cases hlt : i < K.length
    · obtain ⟨p, hp⟩ : ∃ p, K[i]? = some p := ⟨K[i], by simp [hlt]⟩
      have hpm : p ∈ L := HH.out.2.2.2.2.1 p (List.mem_of_getElem? hp)
      obtain ⟨j, hj⟩ := List.mem_iff_getElem?.1 hpm
      have hjl := (List.getElem?_eq_some_iff.1 hj).1
      obtain ⟨_, _, c2⟩ := HH.out.1 j p hj
      obtain ⟨ao, co, evf, hvf⟩ := isF_viewR (HH.out.2.1 p hpm).2
      rw [evf] at c2
      obtain ⟨bn, on, rfl, hbn, n0⟩ := HV.out i p.nm (by unfold nms; simp [hp])
      have m0 := (hB.cell (p := ⟨bn, on + i, none⟩) hbn).trans n0
      have hBw := on1 HB1.out hB (Nat.le_refl _)
      have m2 := (hBw.cell (p := ⟨b, off + j * 3 + 2, none⟩) hb).trans c2
      have ck := HC.out wr hBw p.nm
      rw [idx_of HH.out.2.2.2.1 hj] at ck
      have h8 := (HH.out.2.2.1 p hpm).2
      have HP : Hid (K.drop i = p :: K.drop (i + 1) ∧ (∀ j g, p.fs[j]? = some g → ∃ b o, ao = some ⟨b, o, none⟩ ∧ b < w.heap.size ∧ w.cell? ⟨b, o + j * 4, none⟩ = some (.string (bs g.nm)) ∧ w.cell? ⟨b, o + j * 4 + 1, none⟩ = some (.int .i64 g.t) ∧ w.cell? ⟨b, o + j * 4 + 2, none⟩ = some (.bool g.must) ∧ w.cell? ⟨b, o + j * 4 + 3, none⟩ = some (.bool g.key))) := ⟨dropK hp, hvf⟩
      have HI0 : Hid (FI2 W1 K o i p u6 (.int .i64 0) wr) := by
        refine ⟨0, al0, Nat.zero_le _, rfl, ?_, h2, by omega, h4, hB⟩
        rw [h1, HP.out.1, List.flatMap_cons]; rfl
      have hj12 : j < 12 := by omega
      clear n0 hBw hpm hj c2 evf hvf h1 h2 h3 h4 hB hp
      go_wp2_with (go_at_call 15; refine ck.mono ?_; rintro e Wq ⟨rfl, rfl⟩)
      clear m0 m2 ck
      go_loopw [6, 10] (fun s6 s10 wx => FI2 W1 K o i p s6 s10 wx) (fun _ s10 _ => p.fs.length - (intOf s10).toNat)
      case atStart => exact HI0.out
      case round =>
        obtain ⟨m, al, hm, rfl, h1, h2, h3, h4, hB⟩ := hrel
        by_cases hml : m < p.fs.length
        · obtain ⟨f, hf⟩ : ∃ f, p.fs[m]? = some f := ⟨p.fs[m], by simp [hml]⟩
          obtain ⟨bf, of, rfl, hbf, f0, f1, f2, f3⟩ := HP.out.2 m f hf
          have hBw := on1 HB1.out hB (Nat.le_refl _)
          have x0 := (hBw.cell (p := ⟨bf, of + m * 4, none⟩) hbf).trans f0
          have x1 := (hBw.cell (p := ⟨bf, of + m * 4 + 1, none⟩) hbf).trans f1
          have x2 := (hBw.cell (p := ⟨bf, of + m * 4 + 2, none⟩) hbf).trans f2
          have x3 := (hBw.cell (p := ⟨bf, of + m * 4 + 3, none⟩) hbf).trans f3
          have HQ : Hid (o = fOf al (p.fs.drop m ++ (K.drop (i + 1)).flatMap Kd.fs) ∧ Srt al ∧ al.length ≤ 8 * i + m ∧ wr.ownsRow W1.heap.size 52 4 u6 al.length (cellsF al) ∧ Below W1.heap.size W1 wr ∧ p.fs.drop m = f :: p.fs.drop (m + 1)) := ⟨h1, h2, h3, h4, hB, dropK hf⟩
          have hal : al.length ≤ 103 := by omega
          have HU : Hid (upF f.nm al ≤ al.length) := upF_le _ _
          obtain ⟨ag, cg, rfl, hvg⟩ := isF_viewR (own_isF h4)
          have HG : Hid (∀ j g, al[j]? = some g → ∃ b o, ag = some ⟨b, o, none⟩ ∧ b < wr.heap.size ∧ wr.cell? ⟨b, o + j * 4, none⟩ = some (.string (bs g.nm)) ∧ wr.cell? ⟨b, o + j * 4 + 1, none⟩ = some (.int .i64 g.t) ∧ wr.cell? ⟨b, o + j * 4 + 2, none⟩ = some (.bool g.must) ∧ wr.cell? ⟨b, o + j * 4 + 3, none⟩ = some (.bool g.key)) := hvg
          clear h1 h2 h3 h4 hB hf f0 f1 f2 f3 hBw hbf hvg
          go_wp2
          go_loopw [11] (fun s11 wx => ∃ t n : Nat, s11 = .int .i64 t ∧ upF f.nm al ≤ t ∧ t ≤ al.length ∧ wx = wr.drewN n) (fun s11 _ => (intOf s11).toNat)
          case atStart => exact ⟨al.length, 0, rfl, HU.out, Nat.le_refl _, rfl⟩
          case round =>
            obtain ⟨t, nd, rfl, ht1, ht2, rfl⟩ := hrel
            by_cases hte : t = upF f.nm al
            · have hU := HU.out
              cases hfd : fnd f.nm al with
              | true =>
                obtain ⟨g, hg, hgn, hins⟩ := insF_old hfd
                have hts : t = lo f.nm al + 1 := by rw [hte]; unfold upF; rw [if_pos hfd]
                subst hts
                obtain ⟨bg, og, rfl, hbg, g0, g1, g2, g3⟩ := HG.out _ g hg
                have hsl := (List.getElem?_eq_some_iff.1 hg).1
                generalize lo f.nm al = s at hte g0 g1 g2 g3 hsl ht1 ht2
                have hsi : (s : Int) < (al.length : Int) := by omega
                have hmi : (m : Int) < (p.fs.length : Int) := by omega
                have hw1 : IntKind.i64.wrap (s : Int) = (s : Int) := by rw [IntKind.wrap_i64]; omega
                have hcast : ((s : Int) + 1) - 1 = (s : Int) := by omega
                have hs0 : (0 : Int) < (s : Int) + 1 := by omega
                rw [hgn] at g0
                have hirr := less_irr f.nm
                have HD : Hid (wr.ownsRow W1.heap.size 52 4 (.slice (some ⟨bg, og, none⟩) al.length cg) al.length (cellsF al)) := HQ.out.2.2.2.1
                cases hfe : feq g f with
                | true =>
                  have hgf := (feq_iff g f).1 hfe
                  subst hgf
                  rw [hfe, if_pos rfl] at hins
                  have HR : Hid (∀ n2, FI2 W1 K o i p (.slice (some ⟨bg, og, none⟩) al.length cg) (.int .i64 ((m + 1 : Nat) : Int)) (wr.drewN n2)) := by
                    intro n2
                    obtain ⟨h1, h2, h3, h4, h5, h6⟩ := HQ.out
                    refine ⟨m + 1, al, by omega, rfl, ?_, h2, by omega, own_below HD.out (b_drewN (Below.refl _ _) n2), b_drewN h5 n2⟩
                    rw [h1, h6, List.cons_append]
                    conv => lhs; unfold fOf
                    rw [hins]
                  clear hfe hins hg hgn hfd hte
                  go_wp2_with fail
                  go_quiet (fail)
                  go_wp2_with fail
                  go_quiet (fail)
                  go_wp2_with fail
                  go_quiet (fail)
                  go_wp2
                  refine ⟨?_, ?_⟩
                  · first | exact HR.out _ | ((repeat apply Exists.intro); refine ⟨?_, rfl⟩; exact HR.out _) | (rw [World.drewN_drewN, World.drewN_drewN, World.drewN_drewN]; (repeat apply Exists.intro); refine ⟨?_, rfl⟩; exact HR.out _)
                  · simp [intOf]
                    try omega
                | false =>
                  rw [hfe, if_neg (by decide)] at hins
                  have HN : Hid (o = none) := by
                    show _ = _
                    rw [HQ.out.1, HQ.out.2.2.2.2.2, List.cons_append]
                    conv => lhs; unfold fOf
                    rw [hins]
                  have HBz : Hid (Below w.heap.size w wr) := on1 HB1.out HQ.out.2.2.2.2.1 (Nat.le_refl _)
                  have hsp : (g.t == f.t) = false ∨ (g.t = f.t ∧ ((g.must = true ∧ f.must = false) ∨ (g.must = false ∧ f.must = true) ∨ (g.must = f.must ∧ ((g.key = true ∧ f.key = false) ∨ (g.key = false ∧ f.key = true))))) := by
                    by_cases htt : g.t = f.t
                    · right
                      refine ⟨htt, ?_⟩
                      unfold feq at hfe
                      rw [hgn, htt] at hfe
                      revert hfe
                      cases g.must <;> cases f.must <;> cases g.key <;> cases f.key <;> simp
                    · left; simpa using htt
                  clear hfe hins hg hgn hfd hte
                  go_wp2_with fail
                  go_quiet (fail)
                  go_wp2_with fail
                  go_quiet (fail)
                  go_wp2_with fail
                  rcases hsp with ht | ⟨ht, ⟨hm1, hm2⟩ | ⟨hm1, hm2⟩ | ⟨hm0, ⟨hm1, hm2⟩ | ⟨hm1, hm2⟩⟩⟩
                  all_goals
                    go_quiet (fail)
                    go_wp2
                    go_ret2
                    exact ⟨.slice none 0 0, ret_v (by rw [HN.out]; rfl), fun l hl => (by rw [HN.out] at hl; cases hl), fun _ => rfl, b_drewN (b_drewN (b_drewN (b_drewN HBz.out _) _) _) _⟩
              | false =>
                have hts : t = lo f.nm al := by rw [hte, up_new hfd]
                have hins := insF_new hfd
                rw [← hts] at hins
                have HIN : Hid (insF al f = some (al.take t ++ f :: al.drop t)) := hins
                have hmi : (m : Int) < (p.fs.length : Int) := by omega
                have hti : (t : Int) ≤ (al.length : Int) := by omega
                have hbfx : bf < wr.heap.size := World.block_lt_of_cell? wr _ x0
                have HX : Hid (wr.cell? ⟨bf, of + m * 4, none⟩ = some (.string (bs f.nm)) ∧ wr.cell? ⟨bf, of + m * 4 + 1, none⟩ = some (.int .i64 f.t) ∧ wr.cell? ⟨bf, of + m * 4 + 2, none⟩ = some (.bool f.must) ∧ wr.cell? ⟨bf, of + m * 4 + 3, none⟩ = some (.bool f.key)) := ⟨x0, x1, x2, x3⟩
                have HFin : Hid (∀ v3 w3, w3.ownsRow wr.heap.size 52 4 v3 (al.take t ++ f :: al.drop t).length (cellsF (al.take t ++ f :: al.drop t)) → Below W1.heap.size W1 w3 → FI2 W1 K o i p v3 (.int .i64 ((m + 1 : Nat) : Int)) w3) := by
                  intro v3 w3 ho3 hB3
                  obtain ⟨h1, h2, h3, h4, h5, h6⟩ := HQ.out
                  obtain ⟨s1, s2, s3⟩ := insF_spec h2 f HIN.out
                  refine ⟨m + 1, _, by omega, rfl, ?_, s1, by omega, own_base ho3 h5.size, hB3⟩
                  rw [h1, h6, List.cons_append]
                  conv => lhs; unfold fOf
                  rw [HIN.out]
                have hal2 : al.length + 1 ≤ 1000 := by omega
                have htl : (al.take t).length = t := List.length_take_of_le ht2
                have hparts : (ag = none ∧ cg = 0 ∧ al = [] ∧ t = 0) ∨ ∃ g, ag = some ⟨g, 0, none⟩ ∧ al.length ≤ cg ∧ cg ≤ maxLen ∧ g < wr.heap.size ∧ LiesF wr g 0 al ∧ ((t = 0 ∧ cg = 0) ∨ (t = 0 ∧ 0 < cg) ∨ (∃ s x, t = s + 1 ∧ al[s]? = some x ∧ cg = s + 1) ∨ ∃ s x, t = s + 1 ∧ al[s]? = some x ∧ s + 1 < cg) := by
                  rcases own_view HQ.out.2.2.2.1 with ⟨hnil, hl⟩ | ⟨g, c, heq, hgc, hgm, hgb, hgl, hlg⟩
                  · injection hnil with e1 e2 e3
                    subst hl
                    exact .inl ⟨e1, e3, rfl, by simpa using ht2⟩
                  · injection heq with e1 e2 e3
                    subst e3
                    refine .inr ⟨g, e1, hgc, hgm, hgl, hlg, ?_⟩
                    cases t with
                    | zero =>
                      by_cases hc : cg = 0
                      · exact .inl ⟨rfl, hc⟩
                      · exact .inr (.inl ⟨rfl, by omega⟩)
                    | succ s =>
                      by_cases hc : cg = s + 1
                      · exact .inr (.inr (.inl ⟨s, al[s], rfl, by simp, hc⟩))
                      · exact .inr (.inr (.inr ⟨s, al[s], rfl, by simp, by omega⟩))
                have hnoS : ∀ s x, t = s + 1 → al[s]? = some x → Op.bytesLess f.nm x.nm = false ∧ (x.nm == f.nm) = false := fun s x hs hx => by
                  have := up_last (nm := f.nm) HQ.out.2.1 hx (by omega)
                  rw [hfd] at this; exact this
                have HNO : Hid (∀ s x, t = s + 1 → al[s]? = some x → Op.bytesLess f.nm x.nm = false ∧ (x.nm == f.nm) = false) := hnoS
                clear hte hts hins hfd hnoS
                obtain ⟨T, hTt⟩ : ∃ T, T = t := ⟨_, rfl⟩
                have HTt : Hid (T = t) := hTt
                have HT : Hid (∀ W : World, W.heap = wr.heap → IsF W (.slice ag t cg) (al.take T)) := by
                  intro W hW
                  rw [hTt]
                  rcases hparts with ⟨rfl, rfl, rfl, rfl⟩ | ⟨g, rfl, hgc, hgm, hgl, hlg, hps⟩
                  · exact .inl ⟨none, 0, rfl, rfl, by unfold maxLen; omega, fun _ => rfl⟩
                  · have hlW : LiesF W g 0 (al.take t) := by
                      have := liesF_take hlg t
                      intro k y hy
                      have := this k y hy
                      simpa [World.cell?, hW] using this
                    exact .inr ⟨g, 0, cg, by rw [htl], by rw [htl]; omega, by omega, by rw [hW]; exact hgl, hlW⟩
                have HFin2 : Hid (∀ v3 w3, w3.ownsRow wr.heap.size 52 4 v3 (al.take T ++ f :: al.drop T).length (cellsF (al.take T ++ f :: al.drop T)) → Below W1.heap.size W1 w3 → FI2 W1 K o i p v3 (.int .i64 ((m + 1 : Nat) : Int)) w3) := by
                  rw [hTt]; exact HFin.out
                have HL : Hid (([] : List Fd).length + (al.take T).length ≤ 1000 ∧ (al.take T).length + [f].length ≤ 1000 ∧ (al.take T ++ [f]).length + (al.drop T).length ≤ 1000) := by
                  have := List.length_take_le T al
                  have := List.length_take_le' T al
                  refine ⟨by simp only [List.length_nil]; omega, by simp only [List.length_cons, List.length_nil]; omega, ?_⟩
                  simp only [List.length_append, List.length_cons, List.length_nil, List.length_drop]; omega
                clear HFin htl hTt
                rcases hparts with ⟨rfl, rfl, hal0, rfl⟩ | ⟨g, rfl, hgc, hgm, hgl, hlg, ⟨rfl, rfl⟩ | ⟨rfl, hc⟩ | ⟨s, x, rfl, hx, rfl⟩ | ⟨s, x, rfl, hx, hc⟩⟩
                · replace hal0 : Hid (al = []) := hal0
                  try unfold maxLen at hgm
                  go_wp2_with fail
                  go_quiet (fail)
                  go_wp2_with fail
                  go_quiet (fail)
                  go_wp2_with (at_builtin; refine app_fields rfl (.tmp 84) (.tmp 87) rfl wr.heap.size (.slice none 0 0) [] (al.take T) rfl (World.ownsRow_nil _ _ _ _) _ rfl (HT.out _ rfl) HL.out.1 (Nat.le_refl _) ?_; intro v1 w1 hown1 hgrow1; refine Hid.out ?_)
                  refine Lib.hid ?_
                  have hB1 : Below wr.heap.size wr w1 := (b_drewN (Below.refl _ _) _).grown hgrow1 (Nat.le_refl _) (fun k hk => by cases hk)
                  have HO1 : Hid (w1.ownsRow wr.heap.size 52 4 v1 (al.take T).length (cellsF (al.take T)) ∧ Below wr.heap.size wr w1) := ⟨by simpa [cellsF] using hown1, hB1⟩
                  have y0 := (hB1.cell (p := ⟨bf, of + m * 4, none⟩) hbfx).trans x0
                  have y1 := (hB1.cell (p := ⟨bf, of + m * 4 + 1, none⟩) hbfx).trans x1
                  have y2 := (hB1.cell (p := ⟨bf, of + m * 4 + 2, none⟩) hbfx).trans x2
                  have y3 := (hB1.cell (p := ⟨bf, of + m * 4 + 3, none⟩) hbfx).trans x3
                  have HO2 : Hid ((w1.alloc (.cells #[.string (bs f.nm), .int .i64 f.t, .bool f.must, .bool f.key] 52)).ownsRow wr.heap.size 52 4 v1 (al.take T).length (cellsF (al.take T)) ∧ Below wr.heap.size wr (w1.alloc (.cells #[.string (bs f.nm), .int .i64 f.t, .bool f.must, .bool f.key] 52)) ∧ IsF (w1.alloc (.cells #[.string (bs f.nm), .int .i64 f.t, .bool f.must, .bool f.key] 52)) (.slice (some ⟨w1.heap.size, 0, none⟩) 1 1) [f]) := by
                    refine ⟨HO1.out.1.alloc _, b_alloc hB1 (Nat.le_refl _) _, .inr ⟨w1.heap.size, 0, 1, rfl, by simp, by unfold maxLen; omega, by simp, ?_⟩⟩
                    intro k y hy
                    cases k with
                    | zero =>
                      obtain rfl : f = y := by simpa using hy
                      simp [World.cell?_alloc_new]
                    | succ k => simp at hy
                  clear hown1 hgrow1 hB1 x0 x1 x2 x3
                  go_wp2_with (at_builtin; refine app_fields rfl (.tmp 89) (.tmp 94) rfl wr.heap.size v1 (al.take T) [f] rfl HO2.out.1 _ rfl HO2.out.2.2 HL.out.2.1 HO2.out.2.1.size ?_; intro v2 w2 hown2 hgrow2; refine Hid.out ?_)
                  refine Lib.hid ?_
                  have hB2 : Below wr.heap.size wr w2 := HO2.out.2.1.grown hgrow2 HO2.out.2.1.size (fun k hk => (HO2.out.1.lt k hk).1)
                  have HO3 : Hid (w2.ownsRow wr.heap.size 52 4 v2 (al.take T ++ [f]).length (cellsF (al.take T ++ [f])) ∧ Below wr.heap.size wr w2) := ⟨by simpa [cellsF] using hown2, hB2⟩
                  clear hown2 hgrow2 hB2 y0 y1 y2 y3
                  go_wp2_with (at_builtin; refine app_fields rfl (.tmp 96) (.tmp 99) rfl wr.heap.size v2 (al.take T ++ [f]) (al.drop T) rfl HO3.out.1 _ rfl ?_ HL.out.2.2 HO3.out.2.size ?_; rotate_left; intro v3 w3 hown3 hgrow3; refine Hid.out ?_)
                  rotate_left
                  · have hE := HTt.out
                    rw [hE]
                    simp only [Act.eval]
                    simpa [hal0.out] using drop_none (W := w2) (ao := none) (c := 0) (t := 0) (al := ([] : List Fd)) (by simp) (by unfold maxLen; omega) (fun _ => rfl)
                  have hB3 : Below wr.heap.size wr w3 := HO3.out.2.grown hgrow3 HO3.out.2.size (fun k hk => (HO3.out.1.lt k hk).1)
                  have HRR : Hid (FI2 W1 K o i p v3 (.int .i64 ((m + 1 : Nat) : Int)) w3) := by
                    refine HFin2.out v3 w3 ?_ (on1 HQ.out.2.2.2.2.1 hB3 (Nat.le_refl _))
                    have e1 : al.take T ++ f :: al.drop T = (al.take T ++ [f]) ++ al.drop T := by simp
                    rw [e1, List.length_append, cellsF_app]
                    exact hown3
                  clear hown3 hgrow3 hB3
                  refine Lib.hid ?_
                  go_wp2
                  refine ⟨?_, ?_⟩
                  · first | exact HRR.out | ((repeat apply Exists.intro); refine ⟨?_, rfl⟩; exact HRR.out)
                  · simp [intOf]
                    try omega
                · have hal1 : al.length = 0 := by omega
                  have Hal1 : Hid (al.length = 0 ∧ al.drop 0 = []) := ⟨hal1, by simp at hal1; simp [hal1]⟩
                  clear hlg hgc hal1
                  try unfold maxLen at hgm
                  go_wp2_with fail
                  go_quiet (fail)
                  go_wp2_with fail
                  go_quiet (fail)
                  go_wp2_with (at_builtin; refine app_fields rfl (.tmp 84) (.tmp 87) rfl wr.heap.size (.slice none 0 0) [] (al.take T) rfl (World.ownsRow_nil _ _ _ _) _ rfl (HT.out _ rfl) HL.out.1 (Nat.le_refl _) ?_; intro v1 w1 hown1 hgrow1; refine Hid.out ?_)
                  refine Lib.hid ?_
                  have hB1 : Below wr.heap.size wr w1 := (b_drewN (Below.refl _ _) _).grown hgrow1 (Nat.le_refl _) (fun k hk => by cases hk)
                  have HO1 : Hid (w1.ownsRow wr.heap.size 52 4 v1 (al.take T).length (cellsF (al.take T)) ∧ Below wr.heap.size wr w1) := ⟨by simpa [cellsF] using hown1, hB1⟩
                  have y0 := (hB1.cell (p := ⟨bf, of + m * 4, none⟩) hbfx).trans x0
                  have y1 := (hB1.cell (p := ⟨bf, of + m * 4 + 1, none⟩) hbfx).trans x1
                  have y2 := (hB1.cell (p := ⟨bf, of + m * 4 + 2, none⟩) hbfx).trans x2
                  have y3 := (hB1.cell (p := ⟨bf, of + m * 4 + 3, none⟩) hbfx).trans x3
                  have HO2 : Hid ((w1.alloc (.cells #[.string (bs f.nm), .int .i64 f.t, .bool f.must, .bool f.key] 52)).ownsRow wr.heap.size 52 4 v1 (al.take T).length (cellsF (al.take T)) ∧ Below wr.heap.size wr (w1.alloc (.cells #[.string (bs f.nm), .int .i64 f.t, .bool f.must, .bool f.key] 52)) ∧ IsF (w1.alloc (.cells #[.string (bs f.nm), .int .i64 f.t, .bool f.must, .bool f.key] 52)) (.slice (some ⟨w1.heap.size, 0, none⟩) 1 1) [f]) := by
                    refine ⟨HO1.out.1.alloc _, b_alloc hB1 (Nat.le_refl _) _, .inr ⟨w1.heap.size, 0, 1, rfl, by simp, by unfold maxLen; omega, by simp, ?_⟩⟩
                    intro k y hy
                    cases k with
                    | zero =>
                      obtain rfl : f = y := by simpa using hy
                      simp [World.cell?_alloc_new]
                    | succ k => simp at hy
                  clear hown1 hgrow1 hB1 x0 x1 x2 x3
                  go_wp2_with (at_builtin; refine app_fields rfl (.tmp 89) (.tmp 94) rfl wr.heap.size v1 (al.take T) [f] rfl HO2.out.1 _ rfl HO2.out.2.2 HL.out.2.1 HO2.out.2.1.size ?_; intro v2 w2 hown2 hgrow2; refine Hid.out ?_)
                  refine Lib.hid ?_
                  have hB2 : Below wr.heap.size wr w2 := HO2.out.2.1.grown hgrow2 HO2.out.2.1.size (fun k hk => (HO2.out.1.lt k hk).1)
                  have HO3 : Hid (w2.ownsRow wr.heap.size 52 4 v2 (al.take T ++ [f]).length (cellsF (al.take T ++ [f])) ∧ Below wr.heap.size wr w2) := ⟨by simpa [cellsF] using hown2, hB2⟩
                  clear hown2 hgrow2 hB2 y0 y1 y2 y3
                  go_wp2_with (at_builtin; refine app_fields rfl (.tmp 96) (.tmp 99) rfl wr.heap.size v2 (al.take T ++ [f]) (al.drop T) rfl HO3.out.1 _ rfl ?_ HL.out.2.2 HO3.out.2.size ?_; rotate_left; intro v3 w3 hown3 hgrow3; refine Hid.out ?_)
                  rotate_left
                  · have hE := HTt.out
                    rw [hE]
                    simp only [Act.eval]
                    rw [Hal1.out.2]
                    refine .inl ⟨some ⟨g, 0, none⟩, 0, ?_, rfl, by unfold maxLen; omega, fun h => by cases h⟩
                    simp [Hal1.out.1]
                  have hB3 : Below wr.heap.size wr w3 := HO3.out.2.grown hgrow3 HO3.out.2.size (fun k hk => (HO3.out.1.lt k hk).1)
                  have HRR : Hid (FI2 W1 K o i p v3 (.int .i64 ((m + 1 : Nat) : Int)) w3) := by
                    refine HFin2.out v3 w3 ?_ (on1 HQ.out.2.2.2.2.1 hB3 (Nat.le_refl _))
                    have e1 : al.take T ++ f :: al.drop T = (al.take T ++ [f]) ++ al.drop T := by simp
                    rw [e1, List.length_append, cellsF_app]
                    exact hown3
                  clear hown3 hgrow3 hB3
                  refine Lib.hid ?_
                  go_wp2
                  refine ⟨?_, ?_⟩
                  · first | exact HRR.out | ((repeat apply Exists.intro); refine ⟨?_, rfl⟩; exact HRR.out)
                  · simp [intOf]
                    try omega
                · have HLG : Hid (LiesF wr g 0 al ∧ g < wr.heap.size ∧ al.length ≤ cg ∧ cg ≤ maxLen) := ⟨hlg, hgl, hgc, hgm⟩
                  clear hlg
                  try unfold maxLen at hgm
                  go_wp2_with fail
                  go_quiet (fail)
                  go_wp2_with fail
                  go_quiet (fail)
                  go_wp2_with (at_builtin; refine app_fields rfl (.tmp 84) (.tmp 87) rfl wr.heap.size (.slice none 0 0) [] (al.take T) rfl (World.ownsRow_nil _ _ _ _) _ rfl (HT.out _ rfl) HL.out.1 (Nat.le_refl _) ?_; intro v1 w1 hown1 hgrow1; refine Hid.out ?_)
                  refine Lib.hid ?_
                  have hB1 : Below wr.heap.size wr w1 := (b_drewN (Below.refl _ _) _).grown hgrow1 (Nat.le_refl _) (fun k hk => by cases hk)
                  have HO1 : Hid (w1.ownsRow wr.heap.size 52 4 v1 (al.take T).length (cellsF (al.take T)) ∧ Below wr.heap.size wr w1) := ⟨by simpa [cellsF] using hown1, hB1⟩
                  have y0 := (hB1.cell (p := ⟨bf, of + m * 4, none⟩) hbfx).trans x0
                  have y1 := (hB1.cell (p := ⟨bf, of + m * 4 + 1, none⟩) hbfx).trans x1
                  have y2 := (hB1.cell (p := ⟨bf, of + m * 4 + 2, none⟩) hbfx).trans x2
                  have y3 := (hB1.cell (p := ⟨bf, of + m * 4 + 3, none⟩) hbfx).trans x3
                  have HO2 : Hid ((w1.alloc (.cells #[.string (bs f.nm), .int .i64 f.t, .bool f.must, .bool f.key] 52)).ownsRow wr.heap.size 52 4 v1 (al.take T).length (cellsF (al.take T)) ∧ Below wr.heap.size wr (w1.alloc (.cells #[.string (bs f.nm), .int .i64 f.t, .bool f.must, .bool f.key] 52)) ∧ IsF (w1.alloc (.cells #[.string (bs f.nm), .int .i64 f.t, .bool f.must, .bool f.key] 52)) (.slice (some ⟨w1.heap.size, 0, none⟩) 1 1) [f]) := by
                    refine ⟨HO1.out.1.alloc _, b_alloc hB1 (Nat.le_refl _) _, .inr ⟨w1.heap.size, 0, 1, rfl, by simp, by unfold maxLen; omega, by simp, ?_⟩⟩
                    intro k y hy
                    cases k with
                    | zero =>
                      obtain rfl : f = y := by simpa using hy
                      simp [World.cell?_alloc_new]
                    | succ k => simp at hy
                  clear hown1 hgrow1 hB1 x0 x1 x2 x3
                  go_wp2_with (at_builtin; refine app_fields rfl (.tmp 89) (.tmp 94) rfl wr.heap.size v1 (al.take T) [f] rfl HO2.out.1 _ rfl HO2.out.2.2 HL.out.2.1 HO2.out.2.1.size ?_; intro v2 w2 hown2 hgrow2; refine Hid.out ?_)
                  refine Lib.hid ?_
                  have hB2 : Below wr.heap.size wr w2 := HO2.out.2.1.grown hgrow2 HO2.out.2.1.size (fun k hk => (HO2.out.1.lt k hk).1)
                  have HO3 : Hid (w2.ownsRow wr.heap.size 52 4 v2 (al.take T ++ [f]).length (cellsF (al.take T ++ [f])) ∧ Below wr.heap.size wr w2) := ⟨by simpa [cellsF] using hown2, hB2⟩
                  clear hown2 hgrow2 hB2 y0 y1 y2 y3
                  go_wp2_with (at_builtin; refine app_fields rfl (.tmp 96) (.tmp 99) rfl wr.heap.size v2 (al.take T ++ [f]) (al.drop T) rfl HO3.out.1 _ rfl ?_ HL.out.2.2 HO3.out.2.size ?_; rotate_left; intro v3 w3 hown3 hgrow3; refine Hid.out ?_)
                  rotate_left
                  · have hE := HTt.out
                    rw [hE]
                    simp only [Act.eval]
                    have := drop_isF (t := 0) (HLG.out.1.on HLG.out.2.1 HO3.out.2) (Nat.lt_of_lt_of_le HLG.out.2.1 HO3.out.2.size) HLG.out.2.2.1 HLG.out.2.2.2 (Nat.zero_le _)
                    simpa using this
                  have hB3 : Below wr.heap.size wr w3 := HO3.out.2.grown hgrow3 HO3.out.2.size (fun k hk => (HO3.out.1.lt k hk).1)
                  have HRR : Hid (FI2 W1 K o i p v3 (.int .i64 ((m + 1 : Nat) : Int)) w3) := by
                    refine HFin2.out v3 w3 ?_ (on1 HQ.out.2.2.2.2.1 hB3 (Nat.le_refl _))
                    have e1 : al.take T ++ f :: al.drop T = (al.take T ++ [f]) ++ al.drop T := by simp
                    rw [e1, List.length_append, cellsF_app]
                    exact hown3
                  clear hown3 hgrow3 hB3
                  refine Lib.hid ?_
                  go_wp2
                  refine ⟨?_, ?_⟩
                  · first | exact HRR.out | ((repeat apply Exists.intro); refine ⟨?_, rfl⟩; exact HRR.out)
                  · simp [intOf]
                    try omega
                · have hgc2 : al.length = s + 1 := by omega
                  have Hgc2 : Hid (al.length = s + 1) := hgc2
                  have hlx := HNO.out s x rfl hx
                  have hsl := (List.getElem?_eq_some_iff.1 hx).1
                  obtain ⟨g0, g1, g2, g3⟩ := hlg s x hx
                  obtain ⟨hnot, heqn⟩ := hlx
                  have hlt3 : Op.bytesLess x.nm f.nm = true := less_tri hnot (fun e => by rw [e] at heqn; simp at heqn)
                  have hsi : (s : Int) < (al.length : Int) := by omega
                  have hw1 : IntKind.i64.wrap (s : Int) = (s : Int) := by rw [IntKind.wrap_i64]; omega
                  have hcast : ((s : Int) + 1) - 1 = (s : Int) := by omega
                  have hs0 : (0 : Int) < (s : Int) + 1 := by omega
                  simp only [Nat.zero_add] at g0
                  clear hx g1 g2 g3
                  clear hlg hgc2
                  try unfold maxLen at hgm
                  go_wp2_with fail
                  go_quiet (fail)
                  go_wp2_with fail
                  go_quiet (fail)
                  go_wp2_with (at_builtin; refine app_fields rfl (.tmp 84) (.tmp 87) rfl wr.heap.size (.slice none 0 0) [] (al.take T) rfl (World.ownsRow_nil _ _ _ _) _ rfl (HT.out _ rfl) HL.out.1 (Nat.le_refl _) ?_; intro v1 w1 hown1 hgrow1; refine Hid.out ?_)
                  refine Lib.hid ?_
                  have hB1 : Below wr.heap.size wr w1 := (b_drewN (Below.refl _ _) _).grown hgrow1 (Nat.le_refl _) (fun k hk => by cases hk)
                  have HO1 : Hid (w1.ownsRow wr.heap.size 52 4 v1 (al.take T).length (cellsF (al.take T)) ∧ Below wr.heap.size wr w1) := ⟨by simpa [cellsF] using hown1, hB1⟩
                  have y0 := (hB1.cell (p := ⟨bf, of + m * 4, none⟩) hbfx).trans x0
                  have y1 := (hB1.cell (p := ⟨bf, of + m * 4 + 1, none⟩) hbfx).trans x1
                  have y2 := (hB1.cell (p := ⟨bf, of + m * 4 + 2, none⟩) hbfx).trans x2
                  have y3 := (hB1.cell (p := ⟨bf, of + m * 4 + 3, none⟩) hbfx).trans x3
                  have HO2 : Hid ((w1.alloc (.cells #[.string (bs f.nm), .int .i64 f.t, .bool f.must, .bool f.key] 52)).ownsRow wr.heap.size 52 4 v1 (al.take T).length (cellsF (al.take T)) ∧ Below wr.heap.size wr (w1.alloc (.cells #[.string (bs f.nm), .int .i64 f.t, .bool f.must, .bool f.key] 52)) ∧ IsF (w1.alloc (.cells #[.string (bs f.nm), .int .i64 f.t, .bool f.must, .bool f.key] 52)) (.slice (some ⟨w1.heap.size, 0, none⟩) 1 1) [f]) := by
                    refine ⟨HO1.out.1.alloc _, b_alloc hB1 (Nat.le_refl _) _, .inr ⟨w1.heap.size, 0, 1, rfl, by simp, by unfold maxLen; omega, by simp, ?_⟩⟩
                    intro k y hy
                    cases k with
                    | zero =>
                      obtain rfl : f = y := by simpa using hy
                      simp [World.cell?_alloc_new]
                    | succ k => simp at hy
                  clear hown1 hgrow1 hB1 x0 x1 x2 x3
                  go_wp2_with (at_builtin; refine app_fields rfl (.tmp 89) (.tmp 94) rfl wr.heap.size v1 (al.take T) [f] rfl HO2.out.1 _ rfl HO2.out.2.2 HL.out.2.1 HO2.out.2.1.size ?_; intro v2 w2 hown2 hgrow2; refine Hid.out ?_)
                  refine Lib.hid ?_
                  have hB2 : Below wr.heap.size wr w2 := HO2.out.2.1.grown hgrow2 HO2.out.2.1.size (fun k hk => (HO2.out.1.lt k hk).1)
                  have HO3 : Hid (w2.ownsRow wr.heap.size 52 4 v2 (al.take T ++ [f]).length (cellsF (al.take T ++ [f])) ∧ Below wr.heap.size wr w2) := ⟨by simpa [cellsF] using hown2, hB2⟩
                  clear hown2 hgrow2 hB2 y0 y1 y2 y3
                  go_wp2_with (at_builtin; refine app_fields rfl (.tmp 96) (.tmp 99) rfl wr.heap.size v2 (al.take T ++ [f]) (al.drop T) rfl HO3.out.1 _ rfl ?_ HL.out.2.2 HO3.out.2.size ?_; rotate_left; intro v3 w3 hown3 hgrow3; refine Hid.out ?_)
                  rotate_left
                  · have hE := HTt.out
                    rw [hE]
                    simp only [Act.eval]
                    simpa using drop_none (W := w2) (ao := some ⟨g, 0, none⟩) (c := 0) (t := s + 1) (al := al) (by rw [Hgc2.out]; exact Nat.le_refl _) (by unfold maxLen; omega) (fun h => by cases h)
                  have hB3 : Below wr.heap.size wr w3 := HO3.out.2.grown hgrow3 HO3.out.2.size (fun k hk => (HO3.out.1.lt k hk).1)
                  have HRR : Hid (FI2 W1 K o i p v3 (.int .i64 ((m + 1 : Nat) : Int)) w3) := by
                    refine HFin2.out v3 w3 ?_ (on1 HQ.out.2.2.2.2.1 hB3 (Nat.le_refl _))
                    have e1 : al.take T ++ f :: al.drop T = (al.take T ++ [f]) ++ al.drop T := by simp
                    rw [e1, List.length_append, cellsF_app]
                    exact hown3
                  clear hown3 hgrow3 hB3
                  refine Lib.hid ?_
                  go_wp2
                  refine ⟨?_, ?_⟩
                  · first | exact HRR.out | ((repeat apply Exists.intro); refine ⟨?_, rfl⟩; exact HRR.out)
                  · simp [intOf]
                    try omega
                · have HLG : Hid (LiesF wr g 0 al ∧ g < wr.heap.size ∧ al.length ≤ cg ∧ cg ≤ maxLen) := ⟨hlg, hgl, hgc, hgm⟩
                  have hlx := HNO.out s x rfl hx
                  have hsl := (List.getElem?_eq_some_iff.1 hx).1
                  obtain ⟨g0, g1, g2, g3⟩ := hlg s x hx
                  obtain ⟨hnot, heqn⟩ := hlx
                  have hlt3 : Op.bytesLess x.nm f.nm = true := less_tri hnot (fun e => by rw [e] at heqn; simp at heqn)
                  have hsi : (s : Int) < (al.length : Int) := by omega
                  have hw1 : IntKind.i64.wrap (s : Int) = (s : Int) := by rw [IntKind.wrap_i64]; omega
                  have hcast : ((s : Int) + 1) - 1 = (s : Int) := by omega
                  have hs0 : (0 : Int) < (s : Int) + 1 := by omega
                  simp only [Nat.zero_add] at g0
                  clear hx g1 g2 g3
                  clear hlg
                  try unfold maxLen at hgm
                  go_wp2_with fail
                  go_quiet (fail)
                  go_wp2_with fail
                  go_quiet (fail)
                  go_wp2_with (at_builtin; refine app_fields rfl (.tmp 84) (.tmp 87) rfl wr.heap.size (.slice none 0 0) [] (al.take T) rfl (World.ownsRow_nil _ _ _ _) _ rfl (HT.out _ rfl) HL.out.1 (Nat.le_refl _) ?_; intro v1 w1 hown1 hgrow1; refine Hid.out ?_)
                  refine Lib.hid ?_
                  have hB1 : Below wr.heap.size wr w1 := (b_drewN (Below.refl _ _) _).grown hgrow1 (Nat.le_refl _) (fun k hk => by cases hk)
                  have HO1 : Hid (w1.ownsRow wr.heap.size 52 4 v1 (al.take T).length (cellsF (al.take T)) ∧ Below wr.heap.size wr w1) := ⟨by simpa [cellsF] using hown1, hB1⟩
                  have y0 := (hB1.cell (p := ⟨bf, of + m * 4, none⟩) hbfx).trans x0
                  have y1 := (hB1.cell (p := ⟨bf, of + m * 4 + 1, none⟩) hbfx).trans x1
                  have y2 := (hB1.cell (p := ⟨bf, of + m * 4 + 2, none⟩) hbfx).trans x2
                  have y3 := (hB1.cell (p := ⟨bf, of + m * 4 + 3, none⟩) hbfx).trans x3
                  have HO2 : Hid ((w1.alloc (.cells #[.string (bs f.nm), .int .i64 f.t, .bool f.must, .bool f.key] 52)).ownsRow wr.heap.size 52 4 v1 (al.take T).length (cellsF (al.take T)) ∧ Below wr.heap.size wr (w1.alloc (.cells #[.string (bs f.nm), .int .i64 f.t, .bool f.must, .bool f.key] 52)) ∧ IsF (w1.alloc (.cells #[.string (bs f.nm), .int .i64 f.t, .bool f.must, .bool f.key] 52)) (.slice (some ⟨w1.heap.size, 0, none⟩) 1 1) [f]) := by
                    refine ⟨HO1.out.1.alloc _, b_alloc hB1 (Nat.le_refl _) _, .inr ⟨w1.heap.size, 0, 1, rfl, by simp, by unfold maxLen; omega, by simp, ?_⟩⟩
                    intro k y hy
                    cases k with
                    | zero =>
                      obtain rfl : f = y := by simpa using hy
                      simp [World.cell?_alloc_new]
                    | succ k => simp at hy
                  clear hown1 hgrow1 hB1 x0 x1 x2 x3
                  go_wp2_with (at_builtin; refine app_fields rfl (.tmp 89) (.tmp 94) rfl wr.heap.size v1 (al.take T) [f] rfl HO2.out.1 _ rfl HO2.out.2.2 HL.out.2.1 HO2.out.2.1.size ?_; intro v2 w2 hown2 hgrow2; refine Hid.out ?_)
                  refine Lib.hid ?_
                  have hB2 : Below wr.heap.size wr w2 := HO2.out.2.1.grown hgrow2 HO2.out.2.1.size (fun k hk => (HO2.out.1.lt k hk).1)
                  have HO3 : Hid (w2.ownsRow wr.heap.size 52 4 v2 (al.take T ++ [f]).length (cellsF (al.take T ++ [f])) ∧ Below wr.heap.size wr w2) := ⟨by simpa [cellsF] using hown2, hB2⟩
                  clear hown2 hgrow2 hB2 y0 y1 y2 y3
                  go_wp2_with (at_builtin; refine app_fields rfl (.tmp 96) (.tmp 99) rfl wr.heap.size v2 (al.take T ++ [f]) (al.drop T) rfl HO3.out.1 _ rfl ?_ HL.out.2.2 HO3.out.2.size ?_; rotate_left; intro v3 w3 hown3 hgrow3; refine Hid.out ?_)
                  rotate_left
                  · have hE := HTt.out
                    rw [hE]
                    simp only [Act.eval]
                    have := drop_isF (t := s + 1) (HLG.out.1.on HLG.out.2.1 HO3.out.2) (Nat.lt_of_lt_of_le HLG.out.2.1 HO3.out.2.size) HLG.out.2.2.1 HLG.out.2.2.2 (by omega)
                    simpa using this
                  have hB3 : Below wr.heap.size wr w3 := HO3.out.2.grown hgrow3 HO3.out.2.size (fun k hk => (HO3.out.1.lt k hk).1)
                  have HRR : Hid (FI2 W1 K o i p v3 (.int .i64 ((m + 1 : Nat) : Int)) w3) := by
                    refine HFin2.out v3 w3 ?_ (on1 HQ.out.2.2.2.2.1 hB3 (Nat.le_refl _))
                    have e1 : al.take T ++ f :: al.drop T = (al.take T ++ [f]) ++ al.drop T := by simp
                    rw [e1, List.length_append, cellsF_app]
                    exact hown3
                  clear hown3 hgrow3 hB3
                  refine Lib.hid ?_
                  go_wp2
                  refine ⟨?_, ?_⟩
                  · first | exact HRR.out | ((repeat apply Exists.intro); refine ⟨?_, rfl⟩; exact HRR.out)
                  · simp [intOf]
                    try omega
            · obtain ⟨s, rfl⟩ : ∃ s, t = s + 1 := ⟨t - 1, by omega⟩
              obtain ⟨g, hg⟩ : ∃ g, al[s]? = some g := ⟨al[s], by simp⟩
              obtain ⟨bg, og, rfl, hbg, g0, g1, g2, g3⟩ := HG.out s g hg
              have hless := up_gt (nm := f.nm) HQ.out.2.1 hg (by omega)
              have hnot : Op.bytesLess g.nm f.nm = false := less_asym hless
              have heq : (g.nm == f.nm) = false := by
                have : ¬ g.nm = f.nm := fun e => by rw [e, less_irr] at hless; exact absurd hless (by decide)
                simpa using this
              have hsi : (s : Int) < (al.length : Int) := by omega
              have hmi : (m : Int) < (p.fs.length : Int) := by omega
              have hw1 : IntKind.i64.wrap (s : Int) = (s : Int) := by rw [IntKind.wrap_i64]; omega
              have hcast : ((s : Int) + 1) - 1 = (s : Int) := by omega
              have hs0 : (0 : Int) < (s : Int) + 1 := by omega
              clear hg g1 g2 g3
              go_wp2_with fail
              go_quiet (fail)
              go_wp2
              go_roundw
              case rel => exact ⟨s, _, by go_num, by omega, by omega, by first | rfl | exact World.drewN_drewN _ _ _⟩
              case measure => simp [intOf]
        · have hme : p.fs.drop m = [] := List.drop_eq_nil_of_le (by omega)
          have R : FR2 W1 K o u6 (.int .i64 ((i + 1 : Nat) : Int)) wr := by
            refine ⟨i + 1, al, by omega, rfl, ?_, h2, by omega, h4, hB⟩
            rw [h1, hme]; rfl
          have HR : Hid (FR2 W1 K o u6 (.int .i64 ((i + 1 : Nat) : Int)) wr) := R
          clear R h1 h2 h3 h4 hB hme
          go_wp2
          refine ⟨?_, ?_⟩
          · first | exact HR.out | ((repeat apply Exists.intro); refine ⟨?_, rfl⟩; exact HR.out)
          · simp [intOf]
            try omega
    · have hd : K.drop i = [] := List.drop_eq_nil_of_le (by omega)
      have hF : o = some al0 := by rw [h1, hd]; rfl
      have HF : Hid (o = some al0) := hF
      have HO : Hid (wr.ownsRow W1.heap.size 52 4 u6 al0.length (cellsF al0) ∧ Below W1.heap.size W1 wr) := ⟨h4, hB⟩
      clear h1 h2 h3 h4 hB hd hF
      go_wp2
      go_ret2
      refine ⟨_, ret_v (by rw [HF.out]; rfl), fun l hl => ?_, fun h => (by rw [HF.out] at h; cases h), on1 HB1.out HO.out.2 (Nat.le_refl _)⟩
      rw [HF.out] at hl
      obtain rfl := Option.some.inj hl
      exact own_base HO.out.1 HB1.out.size
end Go.Proofs.YtgjlonilbhlneaaGreatDoor
