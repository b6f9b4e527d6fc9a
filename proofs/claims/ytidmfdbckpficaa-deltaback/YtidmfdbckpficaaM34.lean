/-
  The walk of between: its second half.
-/
import Derived.Test.YtidmfdbckpficaaM32
import Derived.Test.YtidmfdbckpficaaM33
import Derived.Deep.RegionHeld3
import Derived.Laws.EntriesVeiled
namespace Go.Proofs.Ytidmfdbckpficaa
open Go.RowKit
set_option linter.unusedVariables false
set_option linter.unusedSimpArgs false

theorem flat_len {α β : Type} {f : α → List β} {k : Nat} : ∀ {L : List α}, (∀ x ∈ L, (f x).length ≤ k) → (L.flatMap f).length ≤ L.length * k
  | [], _ => by simp
  | a :: r, h => by
    have h1 := h a (List.mem_cons_self ..)
    have h2 := flat_len (L := r) (fun x hx => h x (List.mem_cons_of_mem _ hx))
    rw [List.flatMap_cons, List.length_append, List.length_cons, Nat.add_mul]
    omega
theorem recO_len {N M : List Nd} (hN : ∀ n ∈ N, n.rc.length ≤ 8) (hM : ∀ n ∈ M, n.rc.length ≤ 8) : (recO N M).length ≤ N.length * 16 := by
  refine flat_len fun n hn => ?_
  cases hh : hasN M n with
  | false => rw [ndO_no hh]; simp
  | true =>
    rw [ndO_yes hh]
    have h1 := prO_len n.id n.rc (rcOf M n.id)
    have h2 := hN n hn
    have h3 : (rcOf M n.id).length ≤ 8 := by
      cases hg : nG M n.id with
      | none => rw [hasN_none hg] at hh; cases hh
      | some m => rw [rcOf_some hg]; exact hM m (nG_mem hg).1
    omega
theorem IsSt.sl {w : World} {v : Value} {N : List Nd} {T : List Te} (h : IsSt w v N T) : ∃ b1 b2, v = .agg #[.map (some b1), .map (some b2)] := by
  obtain ⟨b1, b2, h, _⟩ := h
  exact ⟨b1, b2, h⟩
theorem isN_rec {w : World} {v : Value} {N : List Nd} (h : IsN w v N) {n : Nd} (hn : n ∈ N) : IsR w n.rv n.rc := by
  obtain ⟨k, hk⟩ := List.getElem?_of_mem hn
  obtain ⟨b, off, c, _, _, _, _, _, hr⟩ := IsN.at h hk
  exact hr
/-- Five rows of ops, one behind the other. -/
theorem cat5 {B : Nat} {W : World} {v1 v2 v3 v4 v5 : Value} {L1 L2 L3 L4 L5 : List Opx} (h1 : OwnOs W B v1 L1) (h2 : OwnOs W B v2 L2) (h3 : OwnOs W B v3 L3) (h4 : OwnOs W B v4 L4) (h5 : OwnOs W B v5 L5) (hB : B ≤ W.heap.size) (hl : L1.length + L2.length + L3.length + L4.length + L5.length ≤ 40000) :
    Calls Try.prog 29 #[.slice (some ⟨W.heap.size, 0, none⟩) 5 5] (W.alloc (.cells #[v1, v2, v3, v4, v5] 26)) fun e w' => ∃ ao c L, e = .returned (.slice ao L.length c) ∧ OwnOs w' B (.slice ao L.length c) L ∧ L = L1 ++ (L2 ++ (L3 ++ (L4 ++ L5))) ∧ Below W.heap.size W w' := by
  have hX : Below W.heap.size W (W.alloc (.cells #[v1, v2, v3, v4, v5] 26)) := b_alloc (Below.refl _ _) _
  have hn := heap_alloc_new W (.cells #[v1, v2, v3, v4, v5] 26)
  have hc : catL [(v1, L1), (v2, L2), (v3, L3), (v4, L4), (v5, L5)] = L1 ++ (L2 ++ (L3 ++ (L4 ++ L5))) := by simp [catL]
  refine (concatO W.heap.size B 5 [(v1, L1), (v2, L2), (v3, L3), (v4, L4), (v5, L5)] _ rfl (by simp) ?_ (by rw [hc]; simp; omega) (by omega) (Nat.le_trans hB hX.size)).mono ?_
  · intro k v L hk
    match k, hk with
    | 0, hk => simp at hk; obtain ⟨rfl, rfl⟩ := hk; exact ⟨cell_at hn rfl, h1.on hX⟩
    | 1, hk => simp at hk; obtain ⟨rfl, rfl⟩ := hk; exact ⟨cell_at hn rfl, h2.on hX⟩
    | 2, hk => simp at hk; obtain ⟨rfl, rfl⟩ := hk; exact ⟨cell_at hn rfl, h3.on hX⟩
    | 3, hk => simp at hk; obtain ⟨rfl, rfl⟩ := hk; exact ⟨cell_at hn rfl, h4.on hX⟩
    | 4, hk => simp at hk; obtain ⟨rfl, rfl⟩ := hk; exact ⟨cell_at hn rfl, h5.on hX⟩
    | k + 5, hk => simp at hk
  · rintro e w' ⟨v, rfl, hO, hb⟩
    rw [hc] at hO
    obtain ⟨ao, c, rfl⟩ := own_slice hO.1
    exact ⟨ao, c, _, rfl, hO, rfl, on1K hX hb (Nat.le_refl _)⟩

set_option maxHeartbeats 8000000 in
set_option maxRecDepth 100000 in
theorem between_any : BeOk := by
  intro vn vt un ut N M T U w hN hT hM hU g1 g2
  have b0 : Below w.heap.size w (beW w vn vt un ut) := b_alloc (b_alloc (Below.refl _ _) _) _
  obtain ⟨l1, l2, _, _⟩ := gErr_lens g1
  obtain ⟨l3, l4, _, _⟩ := gErr_lens g2
  have rN := gErr_rc8 g1
  have rM := gErr_rc8 g2
  have kT : ∀ t ∈ T, t.key := (gErr_key g1).2
  have kU : ∀ t ∈ U, t.key ∧ idOk t.fr = true ∧ idOk t.tt = true := fun t ht => te_key (((gErr_iff M U).1 g2).2.2.2 t ht)
  have kN : ∀ n ∈ N, idOk n.id = true := (gErr_key g1).1
  have kM : ∀ n ∈ M, idOk n.id = true := (gErr_key g2).1
  have HA : Hid (∀ W, Below (beW w vn vt un ut).heap.size (beW w vn vt un ut) W → Calls Try.prog 24 #[.agg #[vn, vt]] W (StPost W N T)) := fun W hW => stockOf_any ((hN.on b0).on hW) ((hT.on b0).on hW) (gErr_key g1) (by omega) (by omega)
  have HC : Hid (∀ W, Below (beW w vn vt un ut).heap.size (beW w vn vt un ut) W → Calls Try.prog 24 #[.agg #[un, ut]] W (StPost W M U)) := fun W hW => stockOf_any ((hM.on b0).on hW) ((hU.on b0).on hW) (gErr_key g2) (by omega) (by omega)
  have n0 : (beW w vn vt un ut).heap[w.heap.size]? = some (.cells #[vn, vt] 25 (0, 0)) := (heap_alloc_old _ _ (by simp)).trans (heap_alloc_new w _)
  have n1 : (beW w vn vt un ut).heap[w.heap.size + 1]? = some (.cells #[un, ut] 25 (0, 0)) := by
    have := heap_alloc_new (w.alloc (.cells #[vn, vt] 25)) (.cells #[un, ut] 25)
    rw [World.size_alloc] at this
    exact this
  have HX : Hid (∀ W, Below (beW w vn vt un ut).heap.size (beW w vn vt un ut) W → W.cell? ⟨w.heap.size, 0, none⟩ = some vn ∧ W.cell? ⟨w.heap.size, 1, none⟩ = some vt ∧ W.cell? ⟨w.heap.size + 1, 0, none⟩ = some un ∧ W.cell? ⟨w.heap.size + 1, 1, none⟩ = some ut) := fun W hb => ⟨cell_at ((hb.block _ (Array.getElem?_eq_some_iff.1 n0).1).trans n0) rfl, cell_at ((hb.block _ (Array.getElem?_eq_some_iff.1 n0).1).trans n0) rfl, cell_at ((hb.block _ (Array.getElem?_eq_some_iff.1 n1).1).trans n1) rfl, cell_at ((hb.block _ (Array.getElem?_eq_some_iff.1 n1).1).trans n1) rfl⟩
  have HBd : Hid (Below (beW w vn vt un ut).heap.size (beW w vn vt un ut) (beW w vn vt un ut).drew) := (Below.refl _ _).drew
  obtain ⟨y0, y1, y2, y3⟩ := HX.out _ (Below.refl _ _)
  have HG : Hid (IsN w vn N ∧ IsT w vt T ∧ IsN w un M ∧ IsT w ut U) := ⟨hN, hT, hM, hU⟩
  obtain ⟨an, cn, hvn, _⟩ := hN
  obtain ⟨am, cm, hvt, _⟩ := hT
  obtain ⟨bn, dn, hun, _⟩ := hM
  obtain ⟨bm, dm, hut, _⟩ := hU
  subst hvn hvt hun hut
  obtain ⟨W0, hW0⟩ : ∃ W0, W0 = beW w (.slice an N.length cn) (.slice am T.length cm) (.slice bn M.length dn) (.slice bm U.length dm) := ⟨_, rfl⟩
  rw [← hW0] at HA HC HX HBd b0 y0 y1 y2 y3
  have hs0 : W0.heap.size = w.heap.size + 2 := by rw [hW0]; simp
  have HL : Hid (N.length ≤ 60 ∧ T.length ≤ 120 ∧ M.length ≤ 60 ∧ U.length ≤ 120) := ⟨l1, l2, l3, l4⟩
  have HK : Hid ((∀ n ∈ N, n.rc.length ≤ 8) ∧ (∀ n ∈ M, n.rc.length ≤ 8) ∧ (∀ t ∈ T, t.key) ∧ (∀ t ∈ U, t.key ∧ idOk t.fr = true ∧ idOk t.tt = true) ∧ (∀ n ∈ N, idOk n.id = true) ∧ (∀ n ∈ M, idOk n.id = true)) := ⟨rN, rM, kT, kU, kN, kM⟩
  clear n0 n1 l1 l2 l3 l4 rN rM kT kU kN kM g1 g2
  go_enter Try.func13, Try.ntmps13
  go_upto_region 1 with fail
  rw [show (w.alloc (.cells #[.slice an N.length cn, .slice am T.length cm] 25)).alloc (.cells #[.slice bn M.length dn, .slice bm U.length dm] 25) = W0 from hW0.symm]
  have HW0 := Lib.hid hW0
  have HB0 := Lib.hid b0
  have HZ : Hid (∀ W, Below W0.heap.size W0 W → ¬ W.heap.size = w.heap.size ∧ ¬ W.heap.size = w.heap.size + 1 ∧ ¬ W.heap.size + 1 = w.heap.size ∧ ¬ W.heap.size + 1 = w.heap.size + 1) := fun W hb => by have := hb.size; omega
  clear hW0 b0
  go_cut [5, 6] (fun s t wx => StR W0 N T M U s t wx)
  case first =>
    have z0 := HZ.out W0 (Below.refl _ _)
    have HS0 := Lib.hid hs0
    clear hs0 HG HL HK HB0 HW0
    first | (go_region_held3 (fun w' => w'.cell? ⟨w.heap.size, 0, none⟩ = some (.slice an N.length cn) ∧ w'.cell? ⟨w.heap.size, 1, none⟩ = some (.slice am T.length cm) ∧ w'.cell? ⟨w.heap.size + 1, 0, none⟩ = some (.slice bn M.length dn) ∧ w'.cell? ⟨w.heap.size + 1, 1, none⟩ = some (.slice bm U.length dm)) (go_keep) (first | (go_at_call 24; first | (have hq := hBW1; refine (HC.out _ (by first | exact hBW1 | exact b_alloc hBW1 _ | exact b_alloc (b_alloc hBW1 _) _)).mono ?_; rintro e W2 ⟨b3, b4, rfl, hS2, hB2⟩; have hx2 : Below W1.heap.size W1 W2 := (by first | exact hB2 | exact on1K (b_alloc (Below.refl _ _) _) hB2 (Nat.le_refl _) | exact on1K (b_alloc (b_alloc (Below.refl _ _) _) _) hB2 (Nat.le_refl _)); have hBW2 := on1K hBW1 hx2 (Nat.le_refl _); obtain ⟨y8, y9, y10, y11⟩ := HX.out _ hBW2; have z2 := HZ.out W2 hBW2; (try (have la := ka.on hx2; obtain ⟨la0, la1, la2, la3⟩ := la.all; obtain ⟨ma0, ma1, ma2, ma3⟩ := la.all2; have la4 : ¬ W0.heap.size = W2.heap.size := Nat.ne_of_lt la.lt; have la5 : ¬ W2.heap.size = W0.heap.size := Nat.ne_of_gt la.lt)); (try (have lb := kb.on hx2; obtain ⟨lb0, lb1, lb2, lb3⟩ := lb.all; obtain ⟨mb0, mb1, mb2, mb3⟩ := lb.all2; have lb4 : ¬ W0.heap.size + 1 = W2.heap.size := Nat.ne_of_lt lb.lt; have lb5 : ¬ W2.heap.size = W0.heap.size + 1 := Nat.ne_of_gt lb.lt)); (first | (have lc : Zs W2 W1.heap.size := (zs_two hB2).1; have ld : Zs W2 (W1.heap.size + 1) := (zs_two hB2).2; obtain ⟨lc0, lc1, lc2, lc3⟩ := lc.all; obtain ⟨mc0, mc1, mc2, mc3⟩ := lc.all2; obtain ⟨ld0, ld1, ld2, ld3⟩ := ld.all; obtain ⟨md0, md1, md2, md3⟩ := ld.all2; have ld4 : ¬ W1.heap.size + 1 = W2.heap.size := Nat.ne_of_lt ld.lt; have ld5 : ¬ W2.heap.size = W1.heap.size + 1 := Nat.ne_of_gt ld.lt; have lc4 : ¬ W1.heap.size = W2.heap.size := Nat.ne_of_lt lc.lt; have lc5 : ¬ W2.heap.size = W1.heap.size := Nat.ne_of_gt lc.lt) | (have lc : Zs W2 W1.heap.size := zs_one hB2; obtain ⟨lc0, lc1, lc2, lc3⟩ := lc.all; obtain ⟨mc0, mc1, mc2, mc3⟩ := lc.all2; have lc4 : ¬ W1.heap.size = W2.heap.size := Nat.ne_of_lt lc.lt; have lc5 : ¬ W2.heap.size = W1.heap.size := Nat.ne_of_gt lc.lt) | skip); have hT1 := hS1.on hx2) | (refine (HA.out _ (by first | exact HBd.out | exact b_alloc HBd.out _ | exact b_alloc (b_alloc HBd.out _) _)).mono ?_; rintro e W1 ⟨b1, b2, rfl, hS1, hB1⟩; have hBW1 : Below W0.heap.size W0 W1 := (by first | exact on1K HBd.out hB1 (Nat.le_refl _) | exact on1K (b_alloc HBd.out _) hB1 (Nat.le_refl _) | exact on1K (b_alloc (b_alloc HBd.out _) _) hB1 (Nat.le_refl _)); obtain ⟨y4, y5, y6, y7⟩ := HX.out _ hBW1; have z1 := HZ.out W1 hBW1; (first | (have ka : Zs W1 W0.heap.size := (by first | exact (zs_twoD hB1).1 | exact (zs_twoE hB1).1); have kb : Zs W1 (W0.heap.size + 1) := (by first | exact (zs_twoD hB1).2 | exact (zs_twoE hB1).2); obtain ⟨ka0, ka1, ka2, ka3⟩ := ka.all; obtain ⟨kb0, kb1, kb2, kb3⟩ := kb.all; have ka4 := ka.lt; have kb4 := kb.lt) | (have ka : Zs W1 W0.heap.size := (by first | exact zs_oneD hB1 | exact zs_oneE hB1); obtain ⟨ka0, ka1, ka2, ka3⟩ := ka.all; have ka4 := ka.lt) | skip))))) | fail
    all_goals go_wp2
    all_goals go_meet
    all_goals first
      | with_reducible exact cl_nn hT1 hS2 hBW2
      | with_reducible exact cl_nm hT1 hS2 hBW2
      | with_reducible exact cl_oo (by assumption) (by assumption) (by omega) hT1 hS2 hBW2 (by have := hBW1.size; omega) (by have := hBW1.size; omega)
      | with_reducible exact cl_on (by assumption) hT1 hS2 hBW2 (by have := hBW1.size; omega)
      | with_reducible exact cl_no (by assumption) hT1 hS2 hBW2 (by have := hBW1.size; omega)


  case rest =>
    obtain ⟨p, q, rfl, rfl, h1, h2, hBc⟩ := hcut
    clear HA HC HBd y0 y1 y2 y3 HZ HW0
    obtain ⟨W3, hW3⟩ : ∃ W3, W3 = wc.alloc (.cells #[.func (.func 25) #[] #[.pointer (some ⟨p, 0, none⟩), .pointer (some ⟨q, 0, none⟩)]] 77) := ⟨_, rfl⟩
    have hbc : Below wc.heap.size wc W3 := by rw [hW3]; exact b_alloc (Below.refl _ _) _
    have hr : W3.heap[wc.heap.size]? = some (.cells #[.func (.func 25) #[] #[.pointer (some ⟨p, 0, none⟩), .pointer (some ⟨q, 0, none⟩)]] 77 (0, 0)) := by rw [hW3]; exact heap_alloc_new wc _
    replace h1 := h1.on hbc
    replace h2 := h2.on hbc
    have hB3 := on1K hBc hbc (Nat.le_refl _)
    have hw3 := on1K HB0.out hB3 (Nat.le_refl _)
    obtain ⟨hN, hT, hM, hU⟩ := HG.out
    obtain ⟨rN, rM, kT, kU, kN, kM⟩ := HK.out
    obtain ⟨l1, l2, l3, l4⟩ := HL.out
    have kTn : ∀ x ∈ N, ∃ a l c, x.rv = .slice a l c := hN.sl
    have kMn : ∀ x ∈ M, ∃ a l c, x.rv = .slice a l c := hM.sl
    obtain ⟨b1, b2, p1, s1⟩ := id h1
    obtain ⟨b3, b4, p2, s2⟩ := id h2
    have H1 : Hid (∀ W, Below W3.heap.size W3 W → Calls Try.prog 30 #[.slice am T.length cm, .func (.func 28) #[.agg #[.map (some b3), .map (some b4)]] #[], .func (.func 31) #[] #[]] W (OuPost W ((T.filter fun x => !hasT U x).map fun x => (looseO x).c))) := fun W hW =>
      unless53 (hasT U) looseO (hT.on (on1K hw3 hW (Nat.le_refl _))) (by omega) (fun W' hW' x hx => hasTie_any (s2.on (on1K hW hW' (Nat.le_refl _))) (kT x hx)) (fun W' _ x _ => mkLoose x W')
    have H2 : Hid (∀ W, Below W3.heap.size W3 W → Calls Try.prog 32 #[.slice an N.length cn, .func (.func 26) #[.agg #[.map (some b3), .map (some b4)]] #[], .func (.func 33) #[] #[]] W (OuPost W ((N.filter fun x => !hasN M x).map fun x => (goneO x).c))) := fun W hW =>
      unless58 (hasN M) goneO (hN.on (on1K hw3 hW (Nat.le_refl _))) (by omega) (fun W' hW' x hx => hasNode_any (s2.on (on1K hW hW' (Nat.le_refl _))) kMn (kTn x hx) (kN x hx)) (fun W' _ x hx => mkGone x (kTn x hx) W')
    have H3 : Hid (∀ W, Below W3.heap.size W3 W → Calls Try.prog 32 #[.slice bn M.length dn, .func (.func 26) #[.agg #[.map (some b1), .map (some b2)]] #[], .func (.func 34) #[] #[]] W (OuPost W ((M.filter fun x => !hasN N x).map fun x => (newO x).c))) := fun W hW =>
      unless59 (hasN N) newO (hM.on (on1K hw3 hW (Nat.le_refl _))) (by omega) (fun W' hW' x hx => hasNode_any (s1.on (on1K hW hW' (Nat.le_refl _))) kTn (kMn x hx) (kM x hx)) (fun W' hW' x hx => mkNew (isN_rec (hM.on (on1K hw3 (on1K hW hW' (Nat.le_refl _)) (Nat.le_refl _))) hx) (by have := rM x hx; omega))
    have H4 : Hid (∀ W, Below W3.heap.size W3 W → Calls Try.prog 35 #[.agg #[.slice an N.length cn, .slice am T.length cm], .agg #[.map (some b3), .map (some b4)]] W (OuPost W (recO N M))) := fun W hW =>
      recordOps_any (hN.on (on1K hw3 hW (Nat.le_refl _))) ⟨_, _, _, rfl⟩ (s2.on hW) (fun m hm => isN_rec (hM.on (on1K hw3 hW (Nat.le_refl _))) hm) kN (by omega) rN rM
    have H5 : Hid (∀ W, Below W3.heap.size W3 W → Calls Try.prog 30 #[.slice bm U.length dm, .func (.func 27) #[] #[.pointer (some ⟨p, 0, none⟩), .pointer (some ⟨wc.heap.size, 0, none⟩)], .func (.func 36) #[] #[]] W (OuPost W ((U.filter fun x => !stayT N M T x).map fun x => (bindO x).c))) := fun W hW =>
      unless52 (stayT N M T) bindO (hU.on (on1K hw3 hW (Nat.le_refl _))) (by omega) (fun W' hW' x hx => stays_any (h1.on (on1K hW hW' (Nat.le_refl _))) (h2.on (on1K hW hW' (Nat.le_refl _))) (((on1K hW hW' (Nat.le_refl _)).block _ (Array.getElem?_eq_some_iff.1 hr).1).trans hr) kTn kMn kN (kU x hx).1 (kU x hx).2.1 (kU x hx).2.2) (fun W' _ x _ => mkBind x W')
    have HY : Hid (∀ W, Below W3.heap.size W3 W → W.cell? ⟨w.heap.size, 0, none⟩ = some (.slice an N.length cn) ∧ W.cell? ⟨w.heap.size, 1, none⟩ = some (.slice am T.length cm) ∧ W.cell? ⟨w.heap.size + 1, 0, none⟩ = some (.slice bn M.length dn) ∧ W.cell? ⟨w.heap.size + 1, 1, none⟩ = some (.slice bm U.length dm) ∧ W.cell? ⟨p, 0, none⟩ = some (.map (some b1)) ∧ W.cell? ⟨p, 1, none⟩ = some (.map (some b2)) ∧ W.cell? ⟨q, 0, none⟩ = some (.map (some b3)) ∧ W.cell? ⟨q, 1, none⟩ = some (.map (some b4))) := fun W hW => by
      obtain ⟨x0, x1, x2, x3⟩ := HX.out W (on1K hB3 hW (Nat.le_refl _))
      have q1 := (hW.block _ (Array.getElem?_eq_some_iff.1 p1).1).trans p1
      have q2 := (hW.block _ (Array.getElem?_eq_some_iff.1 p2).1).trans p2
      exact ⟨x0, x1, x2, x3, cell_at q1 rfl, cell_at q1 rfl, cell_at q2 rfl, cell_at q2 rfl⟩
    have hXd : Below W3.heap.size W3 W3.drew := (Below.refl _ _).drew
    obtain ⟨t0, t1, t2, t3, t4, t5, t6, t7⟩ := HY.out W3 (Below.refl _ _)
    have HF : Hid (∀ {L1 L2 L3 L4 L5 : List Opx}, L1.map Opx.c = ((T.filter fun x => !hasT U x).map fun x => (looseO x).c) → L2.map Opx.c = ((N.filter fun x => !hasN M x).map fun x => (goneO x).c) → L3.map Opx.c = ((M.filter fun x => !hasN N x).map fun x => (newO x).c) → L4.map Opx.c = recO N M → L5.map Opx.c = ((U.filter fun x => !stayT N M T x).map fun x => (bindO x).c) → L1.length + L2.length + L3.length + L4.length + L5.length ≤ 40000 ∧ (L1 ++ (L2 ++ (L3 ++ (L4 ++ L5)))).map Opx.c = difO N T M U) := fun {L1 L2 L3 L4 L5} e1 e2 e3 e4 e5 => by
      have a1 := map_len e1
      have a2 := map_len e2
      have a3 := map_len e3
      have a4 := map_len e4
      have a5 := map_len e5
      rw [List.length_map] at a1 a2 a3 a5
      have c1 := List.length_filter_le (fun x => !hasT U x) T
      have c2 := List.length_filter_le (fun x => !hasN M x) N
      have c3 := List.length_filter_le (fun x => !hasN N x) M
      have c4 := recO_len rN rM
      have c5 := List.length_filter_le (fun x => !stayT N M T x) U
      refine ⟨by omega, ?_⟩
      rw [List.map_append, List.map_append, List.map_append, List.map_append, e1, e2, e3, e4, e5]
      rfl
    have HW := Lib.hid hw3
    have HD := Lib.hid hXd
    clear h1 h2 hBc hbc hr hB3 hw3 hN hT hM hU rN rM kT kU kN kM l1 l2 l3 l4 kTn kMn p1 s1 p2 s2 HX HG HK HL HB0 hs0 hXd
    go_upto_region 4 with fail
    rw [← hW3]
    have HW3 := Lib.hid hW3
    clear hW3
    first | (go_region_held3 (fun w' => w'.cell? ⟨w.heap.size, 0, none⟩ = some (.slice an N.length cn) ∧ w'.cell? ⟨w.heap.size, 1, none⟩ = some (.slice am T.length cm) ∧ w'.cell? ⟨w.heap.size + 1, 0, none⟩ = some (.slice bn M.length dn) ∧ w'.cell? ⟨w.heap.size + 1, 1, none⟩ = some (.slice bm U.length dm) ∧ w'.cell? ⟨p, 0, none⟩ = some (.map (some b1)) ∧ w'.cell? ⟨p, 1, none⟩ = some (.map (some b2)) ∧ w'.cell? ⟨q, 0, none⟩ = some (.map (some b3)) ∧ w'.cell? ⟨q, 1, none⟩ = some (.map (some b4))) (go_keep) (first | (go_at_call 30; first | (refine (H5.out D4 hX4).mono ?_; rintro e D5 ⟨o5, c5, L5, rfl, hO5, hm5, hB5⟩; have hX5 := on1K hX4 hB5 (Nat.le_refl _); obtain ⟨x0, x1, x2, x3, x4, x5, x6, x7⟩ := HY.out D5 hX5) | (refine (H1.out _ HD.out).mono ?_; rintro e D1 ⟨o1, c1, L1, rfl, hO1, hm1, hB1⟩; have hX1 := on1K HD.out hB1 (Nat.le_refl _); obtain ⟨x0, x1, x2, x3, x4, x5, x6, x7⟩ := HY.out D1 hX1)) | (go_at_call 32; first | (refine (H3.out D2 hX2).mono ?_; rintro e D3 ⟨o3, c3, L3, rfl, hO3, hm3, hB3⟩; have hX3 := on1K hX2 hB3 (Nat.le_refl _); obtain ⟨x0, x1, x2, x3, x4, x5, x6, x7⟩ := HY.out D3 hX3) | (refine (H2.out D1 hX1).mono ?_; rintro e D2 ⟨o2, c2, L2, rfl, hO2, hm2, hB2⟩; have hX2 := on1K hX1 hB2 (Nat.le_refl _); obtain ⟨x0, x1, x2, x3, x4, x5, x6, x7⟩ := HY.out D2 hX2)) | (go_at_call 35; refine (H4.out D3 hX3).mono ?_; rintro e D4 ⟨o4, c4, L4, rfl, hO4, hm4, hB4⟩; have hX4 := on1K hX3 hB4 (Nat.le_refl _); obtain ⟨x0, x1, x2, x3, x4, x5, x6, x7⟩ := HY.out D4 hX4) | (go_at_call 29; refine (cat5 (B := W3.heap.size) (((((hO1.on hB2).on hB3).on hB4).on hB5).base (HD.out.size)) ((((hO2.on hB3).on hB4).on hB5).base hX1.size) (((hO3.on hB4).on hB5).base hX2.size) ((hO4.on hB5).base hX3.size) (hO5.base hX4.size) hX5.size (HF.out hm1 hm2 hm3 hm4 hm5).1).mono ?_; rintro e D6 ⟨o6, c6, L6, rfl, hO6, hm6', hB6⟩; have hm6 := Lib.hid hm6'; clear hm6'; have hX6 := on1K hX5 hB6 (Nat.le_refl _); obtain ⟨x0, x1, x2, x3, x4, x5, x6, x7⟩ := HY.out D6 hX6))) | fail
    all_goals
      have HE : Hid (OuPost w (difO N T M U) (.returned (.slice o6 L6.length c6)) D6) := ⟨o6, c6, L6, rfl, hO6.base HW.out.size, by rw [hm6.out]; exact (HF.out hm1 hm2 hm3 hm4 hm5).2, on1K HW.out hX6 (Nat.le_refl _)⟩
      clear hO1 hO2 hO3 hO4 hO5 hO6 hm1 hm2 hm3 hm4 hm5 hm6 hB1 hB2 hB3 hB4 hB5 hB6
      go_wp2
      go_ret
      exact ret_eqO (by simp) HE.out
end Go.Proofs.Ytidmfdbckpficaa
