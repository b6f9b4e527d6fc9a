/-
  The walk of CheckRow.
-/
import Derived.Test.YtjjnfnlkfojehaaRowS
import Derived.Test.YtjjnfnlkfojehaaRowT
import Derived.Test.YtjjnfnlkfojehaaFulB
namespace Go.Proofs.Ytjjnfnlkfojehaa
open Go.RowKit
set_option linter.unusedVariables false
set_option linter.unusedSimpArgs false

theorem own_first {w : World} {base : Nat} {u : Value} {f : Ft} (h : OwnX w base u [f]) : ∃ g cp, u = .slice (some ⟨g, 0, none⟩) 1 cp ∧ w.cell? ⟨g, 0, none⟩ = some (.int .i64 f.wh) ∧ w.cell? ⟨g, 1, none⟩ = some (.int .i64 f.id) := by
  have hc : ∀ g, u.ownBlock = some g → ∀ j v, (cellsX [f])[j]? = some v → w.cell? ((⟨g, 0, none⟩ : Addr).add j) = some v := fun g hg => World.ownsRow.cells h hg
  rcases h.2 with ⟨rfl, h0⟩ | ⟨g, cap, cur, rfl, hb, hg, rest⟩
  · simp at h0
  · have c0 := hc g rfl 0 _ rfl
    have c1 := hc g rfl 1 _ rfl
    rw [Addr.add_lit] at c0 c1
    exact ⟨g, cap, rfl, c0, c1⟩
/-- What many gives, at numbers. -/
theorem many_at (k : Nat) (hk : k ≤ 49) (w : World) : Calls Try.prog 8 #[.int .i64 ((k : Int) + 1), .int .i64 (k : Int)] w (ManyP w (k + 1) k) := by
  have := many_any (k + 1) k (by omega) (by omega) w
  rw [show ((k + 1 : Nat) : Int) = (k : Int) + 1 from by omega] at this
  exact this
theorem row_p {b0 : Nat} {w : World} {vN : Value} {n : Nat} (h : RowN b0 w vN n) : ∃ N, List.length N = n ∧ IsN w vN N ∧ RowP N (fun j => (j : Int) + 1) := by
  obtain ⟨N, _, _, h1, h2, h3, _⟩ := h
  exact ⟨N, h1, h2, h3⟩
theorem isG_of {w : World} {vn vt : Value} {N : List Nd} {κ : Nat → Int} {k : Nat} (hN : IsN w vn N) (hT : IsT w vt (rowT k)) (hR : RowP N κ) (hn : N.length ≤ 60) (hk : k ≤ 60) : IsG w (.agg #[vn, vt]) N (rowT k) :=
  ⟨_, _, rfl, hN, hT, rowP_szN hR, row_szT k, by unfold maxLen; omega, by rw [rowT_len]; unfold maxLen; omega⟩
/-- Faults of the row. -/
theorem faults_row {w : World} {vs vn vt : Value} {vo vf : Value} {mx : Int} (hs : IsSc w vs [kdA vo vf] [bdP mx]) (hmx : 0 ≤ mx ∧ mx ≤ 3) {k : Nat} (hk : k ≤ 49) {N : List Nd} (hl : N.length = k + 1) (hN : IsN w vn N) (hT : IsT w vt (rowT k)) (hR : RowP N (fun j => (j : Int) + 1)) :
    Calls Try.prog 5 #[vs, .agg #[vn, vt]] w fun e w' => ∃ ao cp, e = .returned (.tuple #[.slice ao (if mx = 0 then k else 0) cp, .nilIface]) ∧ Below w.heap.size w w' := by
  have he : inE [kdA vo vf] [bdP mx] N (rowT k) = 0 := by
    rw [inE_g (sErr_a vo vf (.inr ⟨hmx.1, by omega⟩))]
    exact rowP_gErr hR (fun j hj => by show 1 ≤ (j : Int) + 1 ∧ (j : Int) + 1 ≤ 1000; omega) (by omega) (by omega)
  refine (faults_any hs (isG_of hN hT hR (by omega) (by omega))).mono ?_
  rintro e w' ⟨u, rfl, _, h2, h3⟩
  obtain ⟨ao, cp, rfl⟩ := own_slice (h2 he)
  refine ⟨ao, cp, ?_, h3⟩
  rw [he, row_all hR (by omega)]
  rfl
theorem faults_same {w : World} {vs vn vt : Value} {vo vf : Value} (hs : IsSc w vs [kdA vo vf] [bdP (-1)]) {k : Nat} (hk : k ≤ 49) {N : List Nd} {κ : Nat → Int} (hl : N.length = k + 1) (hN : IsN w vn N) (hT : IsT w vt (rowT k)) (hR : RowP N κ) (hκ : ∀ j, j < k → κ j = (j : Int) + 1) (h1 : 1 ≤ κ k) (h2 : κ k ≤ k) :
    Calls Try.prog 5 #[vs, .agg #[vn, vt]] w fun e w' => ∃ g cp, e = .returned (.tuple #[.slice (some ⟨g, 0, none⟩) 1 cp, .nilIface]) ∧ w'.cell? ⟨g, 0, none⟩ = some (.int .i64 4) ∧ w'.cell? ⟨g, 1, none⟩ = some (.int .i64 ((k : Int) + 1)) ∧ Below w.heap.size w w' := by
  have he : inE [kdA vo vf] [bdP (-1)] N (rowT k) = 0 := by
    rw [inE_g (sErr_a vo vf (.inl rfl))]
    refine rowP_gErr hR (fun j hj => ?_) (by omega) (by omega)
    by_cases h : j = k
    · subst h; omega
    · rw [hκ j (by omega)]; omega
  refine (faults_any hs (isG_of hN hT hR (by omega) (by omega))).mono ?_
  rintro e w' ⟨u, rfl, _, h4, h5⟩
  have h6 := h4 he
  rw [row_same hR hl hκ h1 h2] at h6
  obtain ⟨g, cp, rfl, g0, g1⟩ := own_first h6
  exact ⟨g, cp, by rw [he]; rfl, g0, g1, h5⟩
set_option maxHeartbeats 8000000 in
set_option maxRecDepth 100000 in
theorem row_in (k : Nat) (hk1 : 1 ≤ k) (hk : k ≤ 49) (mx key : Int) (hmx : 0 ≤ mx ∧ mx ≤ 3) (w : World) : Calls Try.prog 4 #[.int .i64 ((k : Int) + 1), .int .i64 mx, .int .i64 key] w fun e w' => e = .returned (.bool true) ∧ Below w.heap.size w w' := by
  have c8 := many_at k hk w
  have q1 : ¬ (k : Int) + 1 < 2 := by omega
  have q2 : ¬ (k : Int) + 1 > 50 := by omega
  have q2' : ¬ (50 : Int) < (k : Int) + 1 := by omega
  have q3 : ¬ mx < 0 := by omega
  have q4 : ¬ (3 : Int) < mx := by omega
  have hwk : IntKind.i64.wrap (k : Int) = k := by rw [IntKind.wrap_i64]; omega
  have hwk' : IntKind.i64.wrap ((k : Int) + 1 - 1) = k := by rw [IntKind.wrap_i64]; omega
  go_enter Try.func4, Try.ntmps4
  go_wp2_with (go_at_call 8; refine c8.mono ?_; rintro e W1 ⟨an, cn, am, cm, rfl, hRo, hTi, hB1⟩; refine Hid.out ?_)
  refine Lib.hid ?_
  obtain ⟨g, cn', av, lv, cv, hvN, hc0, hf0, hg0, hgw⟩ := row_last hRo
  injection hvN with hvN1 _ hvN3
  subst hvN1 hvN3
  have HM : Hid (RowN w.heap.size W1 (.slice (some ⟨g, 0, none⟩) (k + 1) cn) (k + 1) ∧ IsT W1 (.slice am k cm) (rowT k) ∧ Below w.heap.size w W1 ∧ W1.cell? ⟨g, k * 3 + 2, none⟩ = some (.slice av lv cv) ∧ W1.frozen? ⟨g, k * 3 + 2, none⟩ = false ∧ g < W1.heap.size) := ⟨hRo, hTi, hB1, hc0, hf0, hg0⟩
  clear c8 hRo hTi hB1 hc0 hf0
  have hBg : Below W1.heap.size W1 (W1.alloc (.cells #[.slice (some ⟨g, 0, none⟩) (k + 1) cn, .slice am k cm] 29)).drew := b_drew (b_allocK (Below.refl _ _) (Nat.le_refl _) _)
  have HBg : Hid (Below W1.heap.size W1 (W1.alloc (.cells #[.slice (some ⟨g, 0, none⟩) (k + 1) cn, .slice am k cm] 29)).drew) := hBg
  have hn0 : (W1.alloc (.cells #[.slice (some ⟨g, 0, none⟩) (k + 1) cn, .slice am k cm] 29)).heap[W1.heap.size]? = some (.cells #[.slice (some ⟨g, 0, none⟩) (k + 1) cn, .slice am k cm] 29 (0, 0)) := heap_alloc_new W1 _
  have HG0 : Hid ((W1.alloc (.cells #[.slice (some ⟨g, 0, none⟩) (k + 1) cn, .slice am k cm] 29)).drew.heap[W1.heap.size]? = some (.cells #[.slice (some ⟨g, 0, none⟩) (k + 1) cn, .slice am k cm] 29 (0, 0)) ∧ (W1.alloc (.cells #[.slice (some ⟨g, 0, none⟩) (k + 1) cn, .slice am k cm] 29)).drew.heap.size = W1.heap.size + 1) := ⟨hn0, by simp⟩
  have o0 : (W1.alloc (.cells #[.slice (some ⟨g, 0, none⟩) (k + 1) cn, .slice am k cm] 29)).cell? ⟨W1.heap.size, 0, none⟩ = some (.slice (some ⟨g, 0, none⟩) (k + 1) cn) := cell_at hn0 rfl
  have o1 : (W1.alloc (.cells #[.slice (some ⟨g, 0, none⟩) (k + 1) cn, .slice am k cm] 29)).cell? ⟨W1.heap.size, 1, none⟩ = some (.slice am k cm) := cell_at hn0 rfl
  obtain ⟨N, hNl, hNi, hNr⟩ := row_p HM.out.1
  obtain ⟨want, hwant⟩ : ∃ want, want = (if mx = 0 then k else 0) := ⟨_, rfl⟩
  have HWn : Hid (want = (if mx = 0 then k else 0)) := hwant
  have HC5 : Hid (∀ W2 vs vo vf, IsSc W2 vs [kdA vo vf] [bdP mx] → Below (W1.alloc (.cells #[.slice (some ⟨g, 0, none⟩) (k + 1) cn, .slice am k cm] 29)).drew.heap.size (W1.alloc (.cells #[.slice (some ⟨g, 0, none⟩) (k + 1) cn, .slice am k cm] 29)).drew W2 → Calls Try.prog 5 #[vs, .agg #[.slice (some ⟨g, 0, none⟩) (k + 1) cn, .slice am k cm]] W2 fun e w' => ∃ ao cp, e = .returned (.tuple #[.slice ao want cp, .nilIface]) ∧ Below W2.heap.size W2 w') := fun W2 vs vo vf hS hB2 => by
    rw [hwant]
    exact faults_row hS hmx hk hNl ((hNi.on hBg).on hB2) ((HM.out.2.1.on hBg).on hB2) hNr
  have HS9 : Hid (∀ W, Calls Try.prog 9 #[.int .i64 mx] W fun e w' => ∃ vs vo vf, e = .returned vs ∧ IsSc w' vs [kdA vo vf] [bdP mx] ∧ Below W.heap.size W w') := fun W => simple_sc mx W
  have HX : Hid (∀ W2, Below (W1.alloc (.cells #[.slice (some ⟨g, 0, none⟩) (k + 1) cn, .slice am k cm] 29)).drew.heap.size (W1.alloc (.cells #[.slice (some ⟨g, 0, none⟩) (k + 1) cn, .slice am k cm] 29)).drew W2 → W2.cell? ⟨W1.heap.size, 0, none⟩ = some (.slice (some ⟨g, 0, none⟩) (k + 1) cn) ∧ W2.cell? ⟨W1.heap.size, 1, none⟩ = some (.slice am k cm)) := fun W2 h2 => ⟨(h2.cell (by simp)).trans o0, (h2.cell (by simp)).trans o1⟩
  clear hBg hn0 hNl hNi hNr hwant
  go_wp2
  first | (go_region_held_law (fun w' => w'.cell? ⟨W1.heap.size, 0, none⟩ = some (.slice (some ⟨g, 0, none⟩) (k + 1) cn) ∧ w'.cell? ⟨W1.heap.size, 1, none⟩ = some (.slice am k cm)) (go_keep) (first | (go_simp; go_at_call 9; refine (HS9.out _).mono ?_; rintro e W2 ⟨vs, vo, vf, rfl, hS2, hB2⟩; obtain ⟨p0, p1⟩ := HX.out W2 hB2) | (go_simp; go_at_call 5; refine (HC5.out W2 vs vo vf hS2 hB2).mono ?_; rintro e W3 ⟨ao, cp, rfl, hB3⟩; obtain ⟨r0, r1⟩ := HX.out W3 (on1K hB2 hB3 (Nat.le_refl _)); have HB3 := Lib.hid (on1K hB2 hB3 (Nat.le_refl _)); clear hB2 hB3 hS2))) | fail
  all_goals
    have hgW : W1.heap.size + 1 ≤ W3.heap.size := by have := HB3.out.size; rw [HG0.out.2] at this; exact this
    have HB4 : Hid (Below W1.heap.size W1 W3 ∧ Below w.heap.size w W3) := ⟨on1K HBg.out HB3.out (Nat.le_refl _), on1K HM.out.2.2.1 (on1K HBg.out HB3.out (Nat.le_refl _)) (Nat.le_refl _)⟩
    have c0 := (HB4.out.1.cell (p := ⟨g, k * 3 + 2, none⟩) hg0).trans HM.out.2.2.2.1
    have f0 := (HB4.out.1.frozen (p := ⟨g, k * 3 + 2, none⟩) hg0).trans HM.out.2.2.2.2.1
    clear o0 o1
    by_cases hm0 : mx = 0
    · have hw0 : k = want := by rw [HWn.out, if_pos hm0]
      clear HC5 HS9 HX HWn
      subst hm0 hw0
      by_cases k1 : key < 1
      · have HF := HB4.out.2
        go_wp2
        go_ret
        exact ⟨rfl, HF⟩
      · by_cases k2 : (k : Int) + 1 ≤ key
        · have HF := HB4.out.2
          go_wp2
          go_ret
          exact ⟨rfl, HF⟩
        · have hX1 : Below W3.heap.size W3 (W3.alloc (.cells #[.int .i64 1, .int .i64 key, .string ⟨#[]⟩] 48)) := b_allocK (Below.refl _ _) (Nat.le_refl _) _
          have hX2 : Below W3.heap.size W3 ((W3.alloc (.cells #[.int .i64 1, .int .i64 key, .string ⟨#[]⟩] 48)).alloc (.cells #[.string ⟨#[107]⟩, .int .i64 1, .int .i64 key, .string ⟨#[]⟩] 51)) := b_allocK hX1 (Nat.le_refl _) _
          have x0 : ((W3.alloc (.cells #[.int .i64 1, .int .i64 key, .string ⟨#[]⟩] 48)).alloc (.cells #[.string ⟨#[107]⟩, .int .i64 1, .int .i64 key, .string ⟨#[]⟩] 51)).cell? ⟨g, k * 3 + 2, none⟩ = some (.slice av lv cv) := (hX2.cell (by show g < _; omega)).trans c0
          have xf : ((W3.alloc (.cells #[.int .i64 1, .int .i64 key, .string ⟨#[]⟩] 48)).alloc (.cells #[.string ⟨#[107]⟩, .int .i64 1, .int .i64 key, .string ⟨#[]⟩] 51)).frozen? ⟨g, k * 3 + 2, none⟩ = false := (hX2.frozen (by show g < _; omega)).trans f0
          have y1 : (W3.alloc (.cells #[.int .i64 1, .int .i64 key, .string ⟨#[]⟩] 48)).cell? ⟨W1.heap.size, 0, none⟩ = some (.slice (some ⟨g, 0, none⟩) (k + 1) cn) := (hX1.cell (by show W1.heap.size < _; omega)).trans r0
          have y2 : ((W3.alloc (.cells #[.int .i64 1, .int .i64 key, .string ⟨#[]⟩] 48)).alloc (.cells #[.string ⟨#[107]⟩, .int .i64 1, .int .i64 key, .string ⟨#[]⟩] 51)).cell? ⟨W1.heap.size, 0, none⟩ = some (.slice (some ⟨g, 0, none⟩) (k + 1) cn) := (hX2.cell (by show W1.heap.size < _; omega)).trans r0
          have hgn : ¬ g = W1.heap.size := by omega
          have hgn' : ¬ W1.heap.size = g := by omega
          have hg3 : ¬ g = W3.heap.size := by omega
          have hg4 : ¬ g = W3.heap.size + 1 := by omega
          have hW3 : ¬ W1.heap.size = W3.heap.size := by omega
          have hW4 : ¬ W1.heap.size = W3.heap.size + 1 := by omega
          clear hX1 hX2
          go_wp2
          first | (go_region_held_law (fun w' => w'.cell? ⟨W1.heap.size, 0, none⟩ = some (.slice (some ⟨g, 0, none⟩) (k + 1) cn)) (go_keep) (first | (go_simp; go_at_call 10; refine (number_any key _).mono ?_; rintro e W4 ⟨rfl, rfl⟩))) | fail
          all_goals
            obtain ⟨W5, hW5⟩ : ∃ W5, W5 = (((W3.alloc (.cells #[.int .i64 1, .int .i64 key, .string ⟨#[]⟩] 48)).alloc (.cells #[.string ⟨#[107]⟩, .int .i64 1, .int .i64 key, .string ⟨#[]⟩] 51)).setCell ⟨g, k * 3 + 2, none⟩ (.slice (some ⟨W3.heap.size + 1, 0, none⟩) 1 1)).drew := ⟨_, rfl⟩
            rw [← hW5]
            have hB5 : Below w.heap.size w W5 := by
              rw [hW5]
              exact b_drew ((b_allocK (b_allocK HB4.out.2 (Nat.le_refl _) _) (Nat.le_refl _) _).setCell hgw _)
            have hK5 : Kx ⟨g, k * 3 + 2, none⟩ W3 W5 := by
              have hX2 : Below W3.heap.size W3 ((W3.alloc (.cells #[.int .i64 1, .int .i64 key, .string ⟨#[]⟩] 48)).alloc (.cells #[.string ⟨#[107]⟩, .int .i64 1, .int .i64 key, .string ⟨#[]⟩] 51)) := b_allocK (b_allocK (Below.refl _ _) (Nat.le_refl _) _) (Nat.le_refl _) _
              refine ⟨by rw [hW5]; simp; omega, fun a v hv hne => ?_⟩
              rw [hW5]
              show (((W3.alloc (.cells #[.int .i64 1, .int .i64 key, .string ⟨#[]⟩] 48)).alloc (.cells #[.string ⟨#[107]⟩, .int .i64 1, .int .i64 key, .string ⟨#[]⟩] 51)).setCell ⟨g, k * 3 + 2, none⟩ (.slice (some ⟨W3.heap.size + 1, 0, none⟩) 1 1)).cell? a = some v
              rw [World.cell?_setCell_other _ _ _ _ (fun e => hne e.symm)]
              exact (hX2.cell (cell_lt hv)).trans hv
            have hc5 : W5.cell? ⟨g, k * 3 + 2, none⟩ = some (.slice (some ⟨W3.heap.size + 1, 0, none⟩) 1 1) := by
              rw [hW5]
              exact World.cell?_setCell_same' _ _ _ (by rw [x0]; rfl)
            have hn5 : W5.heap[W3.heap.size + 1]? = some (.cells #[.string ⟨#[107]⟩, .int .i64 1, .int .i64 key, .string ⟨#[]⟩] 51 (0, 0)) := by
              rw [hW5]
              refine (heap_setCell_other _ ⟨g, k * 3 + 2, none⟩ (W3.heap.size + 1) _ (by simp; omega)).trans ?_
              have := heap_alloc_new (W3.alloc (.cells #[.int .i64 1, .int .i64 key, .string ⟨#[]⟩] 48)) (.cells #[.string ⟨#[107]⟩, .int .i64 1, .int .i64 key, .string ⟨#[]⟩] 51)
              rwa [World.size_alloc] at this
            have p0' := hK5.2 _ _ r0 (by intro e; injection e; omega)
            have p1' := hK5.2 _ _ r1 (by intro e; injection e; omega)
            obtain ⟨N', κ, n1, n2, n3, n4, n5⟩ := row_set_last (HM.out.1.on HB4.out.1) c0 hK5 hc5 hn5
            have nT := (HM.out.2.1.on HB4.out.1).kx hK5 c0
            have hD : Below W5.heap.size W5 W5.drew := b_drew (Below.refl _ _)
            have HC5 : Hid (∀ W6 vs vo vf, IsSc W6 vs [kdA vo vf] [bdP (-1)] → Below W5.drew.heap.size W5.drew W6 → Calls Try.prog 5 #[vs, .agg #[.slice (some ⟨g, 0, none⟩) (k + 1) cn, .slice am k cm]] W6 fun e w' => ∃ g cp, e = .returned (.tuple #[.slice (some ⟨g, 0, none⟩) 1 cp, .nilIface]) ∧ w'.cell? ⟨g, 0, none⟩ = some (.int .i64 4) ∧ w'.cell? ⟨g, 1, none⟩ = some (.int .i64 ((k : Int) + 1)) ∧ Below W6.heap.size W6 w') := fun W6 vs vo vf hS hB6 => faults_same hS hk n1 ((n2.on hD).on hB6) ((nT.on hD).on hB6) n3 n4 (by rw [n5]; exact k1) (by rw [n5]; omega)
            have HS9 : Hid (∀ W, Calls Try.prog 9 #[.int .i64 (-1)] W fun e w' => ∃ vs vo vf, e = .returned vs ∧ IsSc w' vs [kdA vo vf] [bdP (-1)] ∧ Below W.heap.size W w') := fun W => simple_sc (-1) W
            have HX : Hid (∀ W6, Below W5.drew.heap.size W5.drew W6 → W6.cell? ⟨W1.heap.size, 0, none⟩ = some (.slice (some ⟨g, 0, none⟩) (k + 1) cn) ∧ W6.cell? ⟨W1.heap.size, 1, none⟩ = some (.slice am k cm)) := fun W6 h6 => by
              have := Kp.of_below h6
              exact ⟨this.2 _ _ p0', this.2 _ _ p1'⟩
            have HB5 : Hid (Below w.heap.size w W5.drew) := b_drew hB5
            clear hW5 hB5 hK5 hc5 hn5 n1 n2 n3 n4 n5 nT hD x0 xf y1 y2 r0 r1 c0 f0 HB4 HB3
            go_wp2
            first | (go_region_held_law (fun w' => w'.cell? ⟨W1.heap.size, 0, none⟩ = some (.slice (some ⟨g, 0, none⟩) (k + 1) cn) ∧ w'.cell? ⟨W1.heap.size, 1, none⟩ = some (.slice am k cm)) (go_keep) (first | (go_simp; go_at_call 9; refine (HS9.out _).mono ?_; rintro e W6 ⟨vs6, vo6, vf6, rfl, hS6, hB6⟩; obtain ⟨t0, t1⟩ := HX.out W6 hB6) | (go_simp; go_at_call 5; refine (HC5.out W6 vs6 vo6 vf6 hS6 hB6).mono ?_; rintro e W7 ⟨g7, cp7, rfl, h70, h71, hB7⟩; obtain ⟨u0, u1⟩ := HX.out W7 (on1K hB6 hB7 (Nat.le_refl _)); have HB7 := Lib.hid (on1K HB5.out (on1K hB6 hB7 (Nat.le_refl _)) (Nat.le_refl _)); clear hB6 hB7 hS6))) | fail
            all_goals
              go_wp2
              go_ret
              exact ⟨rfl, HB7.out⟩
    · have hw0 : 0 = want := by rw [HWn.out, if_neg hm0]
      have hm1 : (mx == 0) = false := by simpa using hm0
      clear HC5 HS9 HX HWn
      subst hw0
      by_cases k1 : key < 1
      · have HF := HB4.out.2
        go_wp2
        go_ret
        exact ⟨rfl, HF⟩
      · by_cases k2 : (k : Int) + 1 ≤ key
        · have HF := HB4.out.2
          go_wp2
          go_ret
          exact ⟨rfl, HF⟩
        · have hX1 : Below W3.heap.size W3 (W3.alloc (.cells #[.int .i64 1, .int .i64 key, .string ⟨#[]⟩] 48)) := b_allocK (Below.refl _ _) (Nat.le_refl _) _
          have hX2 : Below W3.heap.size W3 ((W3.alloc (.cells #[.int .i64 1, .int .i64 key, .string ⟨#[]⟩] 48)).alloc (.cells #[.string ⟨#[107]⟩, .int .i64 1, .int .i64 key, .string ⟨#[]⟩] 51)) := b_allocK hX1 (Nat.le_refl _) _
          have x0 : ((W3.alloc (.cells #[.int .i64 1, .int .i64 key, .string ⟨#[]⟩] 48)).alloc (.cells #[.string ⟨#[107]⟩, .int .i64 1, .int .i64 key, .string ⟨#[]⟩] 51)).cell? ⟨g, k * 3 + 2, none⟩ = some (.slice av lv cv) := (hX2.cell (by show g < _; omega)).trans c0
          have xf : ((W3.alloc (.cells #[.int .i64 1, .int .i64 key, .string ⟨#[]⟩] 48)).alloc (.cells #[.string ⟨#[107]⟩, .int .i64 1, .int .i64 key, .string ⟨#[]⟩] 51)).frozen? ⟨g, k * 3 + 2, none⟩ = false := (hX2.frozen (by show g < _; omega)).trans f0
          have y1 : (W3.alloc (.cells #[.int .i64 1, .int .i64 key, .string ⟨#[]⟩] 48)).cell? ⟨W1.heap.size, 0, none⟩ = some (.slice (some ⟨g, 0, none⟩) (k + 1) cn) := (hX1.cell (by show W1.heap.size < _; omega)).trans r0
          have y2 : ((W3.alloc (.cells #[.int .i64 1, .int .i64 key, .string ⟨#[]⟩] 48)).alloc (.cells #[.string ⟨#[107]⟩, .int .i64 1, .int .i64 key, .string ⟨#[]⟩] 51)).cell? ⟨W1.heap.size, 0, none⟩ = some (.slice (some ⟨g, 0, none⟩) (k + 1) cn) := (hX2.cell (by show W1.heap.size < _; omega)).trans r0
          have hgn : ¬ g = W1.heap.size := by omega
          have hgn' : ¬ W1.heap.size = g := by omega
          have hg3 : ¬ g = W3.heap.size := by omega
          have hg4 : ¬ g = W3.heap.size + 1 := by omega
          have hW3 : ¬ W1.heap.size = W3.heap.size := by omega
          have hW4 : ¬ W1.heap.size = W3.heap.size + 1 := by omega
          clear hX1 hX2
          go_wp2
          first | (go_region_held_law (fun w' => w'.cell? ⟨W1.heap.size, 0, none⟩ = some (.slice (some ⟨g, 0, none⟩) (k + 1) cn)) (go_keep) (first | (go_simp; go_at_call 10; refine (number_any key _).mono ?_; rintro e W4 ⟨rfl, rfl⟩))) | fail
          all_goals
            obtain ⟨W5, hW5⟩ : ∃ W5, W5 = (((W3.alloc (.cells #[.int .i64 1, .int .i64 key, .string ⟨#[]⟩] 48)).alloc (.cells #[.string ⟨#[107]⟩, .int .i64 1, .int .i64 key, .string ⟨#[]⟩] 51)).setCell ⟨g, k * 3 + 2, none⟩ (.slice (some ⟨W3.heap.size + 1, 0, none⟩) 1 1)).drew := ⟨_, rfl⟩
            rw [← hW5]
            have hB5 : Below w.heap.size w W5 := by
              rw [hW5]
              exact b_drew ((b_allocK (b_allocK HB4.out.2 (Nat.le_refl _) _) (Nat.le_refl _) _).setCell hgw _)
            have hK5 : Kx ⟨g, k * 3 + 2, none⟩ W3 W5 := by
              have hX2 : Below W3.heap.size W3 ((W3.alloc (.cells #[.int .i64 1, .int .i64 key, .string ⟨#[]⟩] 48)).alloc (.cells #[.string ⟨#[107]⟩, .int .i64 1, .int .i64 key, .string ⟨#[]⟩] 51)) := b_allocK (b_allocK (Below.refl _ _) (Nat.le_refl _) _) (Nat.le_refl _) _
              refine ⟨by rw [hW5]; simp; omega, fun a v hv hne => ?_⟩
              rw [hW5]
              show (((W3.alloc (.cells #[.int .i64 1, .int .i64 key, .string ⟨#[]⟩] 48)).alloc (.cells #[.string ⟨#[107]⟩, .int .i64 1, .int .i64 key, .string ⟨#[]⟩] 51)).setCell ⟨g, k * 3 + 2, none⟩ (.slice (some ⟨W3.heap.size + 1, 0, none⟩) 1 1)).cell? a = some v
              rw [World.cell?_setCell_other _ _ _ _ (fun e => hne e.symm)]
              exact (hX2.cell (cell_lt hv)).trans hv
            have hc5 : W5.cell? ⟨g, k * 3 + 2, none⟩ = some (.slice (some ⟨W3.heap.size + 1, 0, none⟩) 1 1) := by
              rw [hW5]
              exact World.cell?_setCell_same' _ _ _ (by rw [x0]; rfl)
            have hn5 : W5.heap[W3.heap.size + 1]? = some (.cells #[.string ⟨#[107]⟩, .int .i64 1, .int .i64 key, .string ⟨#[]⟩] 51 (0, 0)) := by
              rw [hW5]
              refine (heap_setCell_other _ ⟨g, k * 3 + 2, none⟩ (W3.heap.size + 1) _ (by simp; omega)).trans ?_
              have := heap_alloc_new (W3.alloc (.cells #[.int .i64 1, .int .i64 key, .string ⟨#[]⟩] 48)) (.cells #[.string ⟨#[107]⟩, .int .i64 1, .int .i64 key, .string ⟨#[]⟩] 51)
              rwa [World.size_alloc] at this
            have p0' := hK5.2 _ _ r0 (by intro e; injection e; omega)
            have p1' := hK5.2 _ _ r1 (by intro e; injection e; omega)
            obtain ⟨N', κ, n1, n2, n3, n4, n5⟩ := row_set_last (HM.out.1.on HB4.out.1) c0 hK5 hc5 hn5
            have nT := (HM.out.2.1.on HB4.out.1).kx hK5 c0
            have hD : Below W5.heap.size W5 W5.drew := b_drew (Below.refl _ _)
            have HC5 : Hid (∀ W6 vs vo vf, IsSc W6 vs [kdA vo vf] [bdP (-1)] → Below W5.drew.heap.size W5.drew W6 → Calls Try.prog 5 #[vs, .agg #[.slice (some ⟨g, 0, none⟩) (k + 1) cn, .slice am k cm]] W6 fun e w' => ∃ g cp, e = .returned (.tuple #[.slice (some ⟨g, 0, none⟩) 1 cp, .nilIface]) ∧ w'.cell? ⟨g, 0, none⟩ = some (.int .i64 4) ∧ w'.cell? ⟨g, 1, none⟩ = some (.int .i64 ((k : Int) + 1)) ∧ Below W6.heap.size W6 w') := fun W6 vs vo vf hS hB6 => faults_same hS hk n1 ((n2.on hD).on hB6) ((nT.on hD).on hB6) n3 n4 (by rw [n5]; exact k1) (by rw [n5]; omega)
            have HS9 : Hid (∀ W, Calls Try.prog 9 #[.int .i64 (-1)] W fun e w' => ∃ vs vo vf, e = .returned vs ∧ IsSc w' vs [kdA vo vf] [bdP (-1)] ∧ Below W.heap.size W w') := fun W => simple_sc (-1) W
            have HX : Hid (∀ W6, Below W5.drew.heap.size W5.drew W6 → W6.cell? ⟨W1.heap.size, 0, none⟩ = some (.slice (some ⟨g, 0, none⟩) (k + 1) cn) ∧ W6.cell? ⟨W1.heap.size, 1, none⟩ = some (.slice am k cm)) := fun W6 h6 => by
              have := Kp.of_below h6
              exact ⟨this.2 _ _ p0', this.2 _ _ p1'⟩
            have HB5 : Hid (Below w.heap.size w W5.drew) := b_drew hB5
            clear hW5 hB5 hK5 hc5 hn5 n1 n2 n3 n4 n5 nT hD x0 xf y1 y2 r0 r1 c0 f0 HB4 HB3
            go_wp2
            first | (go_region_held_law (fun w' => w'.cell? ⟨W1.heap.size, 0, none⟩ = some (.slice (some ⟨g, 0, none⟩) (k + 1) cn) ∧ w'.cell? ⟨W1.heap.size, 1, none⟩ = some (.slice am k cm)) (go_keep) (first | (go_simp; go_at_call 9; refine (HS9.out _).mono ?_; rintro e W6 ⟨vs6, vo6, vf6, rfl, hS6, hB6⟩; obtain ⟨t0, t1⟩ := HX.out W6 hB6) | (go_simp; go_at_call 5; refine (HC5.out W6 vs6 vo6 vf6 hS6 hB6).mono ?_; rintro e W7 ⟨g7, cp7, rfl, h70, h71, hB7⟩; obtain ⟨u0, u1⟩ := HX.out W7 (on1K hB6 hB7 (Nat.le_refl _)); have HB7 := Lib.hid (on1K HB5.out (on1K hB6 hB7 (Nat.le_refl _)) (Nat.le_refl _)); clear hB6 hB7 hS6))) | fail
            all_goals
              go_wp2
              go_ret
              exact ⟨rfl, HB7.out⟩
set_option maxHeartbeats 8000000 in
set_option maxRecDepth 100000 in
theorem row_any (n mx key : Int) (w : World) : Calls Try.prog 4 #[.int .i64 n, .int .i64 mx, .int .i64 key] w fun e w' => e = .returned (.bool true) ∧ Below w.heap.size w w' := by
  by_cases h1 : n < 2
  · go_enter Try.func4, Try.ntmps4
    go_wp2
    go_ret
    exact ⟨rfl, Below.refl _ _⟩
  · by_cases h2 : 50 < n
    · go_enter Try.func4, Try.ntmps4
      go_wp2
      go_ret
      exact ⟨rfl, Below.refl _ _⟩
    · by_cases h3 : mx < 0
      · go_enter Try.func4, Try.ntmps4
        go_wp2
        go_ret
        exact ⟨rfl, Below.refl _ _⟩
      · by_cases h4 : 3 < mx
        · go_enter Try.func4, Try.ntmps4
          go_wp2
          go_ret
          exact ⟨rfl, Below.refl _ _⟩
        · obtain ⟨k, rfl⟩ : ∃ k : Nat, n = (k : Int) + 1 := ⟨(n - 1).toNat, by omega⟩
          exact row_in k (by omega) (by omega) mx key (by omega) w
end Go.Proofs.Ytjjnfnlkfojehaa
