/-
  The walk of delta.addTie.
-/
import Derived.Test.YtffiddpnkiejkaaGreatM30
import Derived.Test.YtffiddpnkiejkaaGreatM07
import Derived.Test.YtffiddpnkiejkaaGreatM10
import Derived.Laws.Externs
import Derived.Deep.RegionLaw
namespace Go.Proofs.YtffiddpnkiejkaaGreat
open Go.RowKit
set_option linter.unusedVariables false
set_option linter.unusedSimpArgs false

/-- The error of a tie more. -/
def bindE (t : Te) (T : List Te) : Int := if gErr [] [t] = 0 then (if fndT t T = true then 7 else if T.length = 120 then 4 else 0) else gErr [] [t]
/-- With a tie more. -/
def bindT (t : Te) (T : List Te) : List Te := T.take (loT t T) ++ t :: T.drop (loT t T)
abbrev atW (w : World) (t : Te) : World := (w.alloc (.cells #[.string t.bd, .int .i64 t.fr, .int .i64 t.tt] 36)).alloc (.cells #[.string t.bd, .int .i64 t.fr, .int .i64 t.tt] 36)
theorem atW_1 (w : World) (t : Te) : (atW w t).heap[w.heap.size + 1]? = some (.cells #[.string t.bd, .int .i64 t.fr, .int .i64 t.tt] 36 (0, 0)) := by
  have := heap_alloc_new (w.alloc (.cells #[.string t.bd, .int .i64 t.fr, .int .i64 t.tt] 36)) (.cells #[.string t.bd, .int .i64 t.fr, .int .i64 t.tt] 36)
  rwa [World.size_alloc] at this
theorem atW_isT (w : World) (t : Te) : IsT (atW w t) (.slice (some ⟨w.heap.size + 1, 0, none⟩) 1 1) [t] := by
  refine ⟨_, 1, rfl, Nat.le_refl _, .inr ⟨w.heap.size + 1, 0, rfl, by simp [atW], fun k x hx => ?_⟩⟩
  obtain ⟨rfl, rfl⟩ : k = 0 ∧ t = x := by
    have := (List.getElem?_eq_some_iff.1 hx).1
    have hk : k = 0 := by simp at this; exact this
    subst hk
    exact ⟨rfl, by simpa using hx⟩
  exact ⟨cell_at (atW_1 w t) rfl, cell_at (atW_1 w t) rfl, cell_at (atW_1 w t) rfl⟩
theorem isN_nil (w : World) : IsN w (.slice none 0 0) [] := ⟨none, 0, rfl, Nat.le_refl _, .inl rfl⟩

set_option maxHeartbeats 4000000 in
set_option maxRecDepth 100000 in
theorem addTie_any {w : World} {base p : Nat} {N : List Nd} {T : List Te} (h : OG w base p N T) (hbw : base ≤ w.heap.size) (hs : SrtT T) (h120 : T.length ≤ 120) (t : Te) (zt : t.bd.size ≤ maxLen) :
    Calls Tryz.prog 41 #[.pointer (some ⟨p, 0, none⟩), t.one] w fun e w' => e = .returned (errV (bindE t T)) ∧ (bindE t T = 0 → OG w' base p N (bindT t T)) ∧ Below base w w' := by
  obtain ⟨vn, vt, hbp, hpb, hN, hT⟩ := h
  have D : OGv w base p vn vt N T := ⟨hbp, hpb, hN, hT⟩
  have hBA : Below w.heap.size w (atW w t) := b_alloc (b_alloc (Below.refl _ _) _) _
  have cG := gcheck_any (isN_nil (atW w t)) (atW_isT w t) (fun n hn => by cases hn) (fun x hx => by simp at hx; subst hx; exact zt) (by show 0 ≤ maxLen; decide) (by show 1 ≤ maxLen; decide)
  obtain ⟨W0, hW0⟩ : ∃ W0, W0 = w.alloc (.cells #[.string t.bd, .int .i64 t.fr, .int .i64 t.tt] 36) := ⟨_, rfl⟩
  have hB0 : Below w.heap.size w W0 := by rw [hW0]; exact b_alloc (Below.refl _ _) _
  have hi0 : W0.heap[w.heap.size]? = some (.cells #[.string t.bd, .int .i64 t.fr, .int .i64 t.tt] 36 (0, 0)) := by rw [hW0]; exact heap_alloc_new w _
  have D0 := D.on hB0
  have hpl := D.pl
  obtain ⟨an, cn, hvn⟩ := own_slice hN.1
  obtain ⟨am, cm, hvt⟩ := own_slice hT
  subst hvn hvt
  have hs0 : W0.heap.size = w.heap.size + 1 := by rw [hW0]; simp
  unfold atW at cG hBA
  rw [← hW0] at cG hBA
  have x1 : W0.cell? ⟨w.heap.size, 0, none⟩ = some (.string t.bd) := cell_at hi0 rfl
  have x2 : W0.cell? ⟨w.heap.size, 1, none⟩ = some (.int .i64 t.fr) := cell_at hi0 rfl
  have x3 : W0.cell? ⟨w.heap.size, 2, none⟩ = some (.int .i64 t.tt) := cell_at hi0 rfl
  have HX : Hid (∀ W, Below W0.heap.size W0 W → OGv W base p (.slice an N.length cn) (.slice am T.length cm) N T ∧ W.heap[w.heap.size]? = some (.cells #[.string t.bd, .int .i64 t.fr, .int .i64 t.tt] 36 (0, 0)) ∧ Below w.heap.size w W) := fun W hB => ⟨D0.on hB, (hB.block _ (by omega)).trans hi0, on1K hB0 hB (Nat.le_refl _)⟩
  have HT : Hid (SrtT T ∧ T.length ≤ 120 ∧ ∀ W, IsT W (.slice am T.length cm) T → Calls Tryz.prog 63 #[.slice am T.length cm, t.one] W fun e w' => e = .returned (.tuple #[.int .i64 (loT t T), .bool (fndT t T)]) ∧ Below W.heap.size W w') := ⟨hs, h120, fun W hW => findTie_any hW hs (by omega) t⟩
  have hBX : Below W0.heap.size W0 (W0.alloc (.cells #[.string t.bd, .int .i64 t.fr, .int .i64 t.tt] 36)) := b_alloc (Below.refl _ _) _
  have HBX := Lib.hid hBX
  clear hpb hN hT hB0 hi0 D D0 hs hBA hBX
  have cF := fun W hW => HT.out.2.2 W hW
  by_cases hz : gErr [] [t] = 0
  · rw [hz, show errV 0 = .nilIface from rfl] at cG
    have hlo := loT_le t T
    have HL : Hid (bindT t T = T.take (loT t T) ++ t :: T.drop (loT t T)) := rfl
    cases hfd : fndT t T with
    | true =>
      have hE : bindE t T = 7 := by unfold bindE; rw [if_pos hz, if_pos hfd]
      rw [hE, show errV 7 = .iface 74 (.int .i64 7) from rfl]
      rw [hfd] at cF
      clear hz hE hfd
      obtain ⟨lo, hlo'⟩ : ∃ lo, lo = loT t T := ⟨_, rfl⟩
      rw [← hlo'] at cF hlo HL
      obtain ⟨bd, fr, tt⟩ := t
      simp only at x1 x2 x3 HX cG HBX
      clear hlo' zt HT
      go_enter Tryz.func41, Tryz.ntmps41
      go_upto_region 1 with fail
      rw [← hW0]
      clear hW0
      go_wp2_with (first | (go_at_call 20; refine cG.mono ?_; rintro e W1 ⟨rfl, hB1'⟩; refine Hid.out ?_))
      refine Lib.hid ?_
      have hB1 : Below W0.heap.size W0 W1 := on1K HBX.out hB1' (Nat.le_refl _)
      obtain ⟨D1, q1, b1⟩ := HX.out W1 hB1
      have y0 : W1.cell? ⟨p, 1, none⟩ = some (.slice am T.length cm) := cell_at D1.hp rfl
      have y1 : W1.cell? ⟨w.heap.size, 0, none⟩ = some (.string bd) := cell_at q1 rfl
      have y2 : W1.cell? ⟨w.heap.size, 1, none⟩ = some (.int .i64 fr) := cell_at q1 rfl
      have y3 : W1.cell? ⟨w.heap.size, 2, none⟩ = some (.int .i64 tt) := cell_at q1 rfl
      have cF1 := cF W1.drew D1.hT.isT
      have HB1 := Lib.hid hB1
      have HY : Hid (∀ W, Below W1.heap.size W1 W → W.cell? ⟨p, 1, none⟩ = some (.slice am T.length cm) ∧ W.cell? ⟨w.heap.size, 0, none⟩ = some (.string bd) ∧ W.cell? ⟨w.heap.size, 1, none⟩ = some (.int .i64 fr) ∧ W.cell? ⟨w.heap.size, 2, none⟩ = some (.int .i64 tt)) := fun W hB => by
        obtain ⟨D2, q2, _⟩ := HX.out W (on1K HB1.out hB (Nat.le_refl _))
        exact ⟨cell_at D2.hp rfl, cell_at q2 rfl, cell_at q2 rfl, cell_at q2 rfl⟩
      clear hB1 hB1' q1 b1 cG x1 x2 x3 HBX D1
      go_wp2
      first | (go_region_held (fun w' => w'.cell? ⟨p, 1, none⟩ = some (.slice am T.length cm) ∧ w'.cell? ⟨w.heap.size, 0, none⟩ = some (.string bd) ∧ w'.cell? ⟨w.heap.size, 1, none⟩ = some (.int .i64 fr) ∧ w'.cell? ⟨w.heap.size, 2, none⟩ = some (.int .i64 tt)) (go_keep) (first | (go_at_call 63; refine cF1.mono ?_; rintro e W2 ⟨rfl, hB2'⟩; have hB2 := b_undrew hB2'; clear hB2'; obtain ⟨z0, z1, z2, z3⟩ := HY.out W2 hB2))) | fail
      all_goals
        go_wp2
        go_ret
        exact ⟨rfl, fun h => (by cases h), (HX.out W2 (on1K HB1.out hB2 (Nat.le_refl _))).2.2.mono hbw⟩
    | false =>
      rw [hfd] at cF
      by_cases hfull : T.length = 120
      · have hE : bindE t T = 4 := by unfold bindE; rw [if_pos hz, hfd, if_neg (by decide), if_pos hfull]
        rw [hE, show errV 4 = .iface 74 (.int .i64 4) from rfl]
        clear hz hE hfd
        have hfb : ((T.length : Int) == 120) = true := by rw [hfull]; rfl
        clear hfull
        obtain ⟨lo, hlo'⟩ : ∃ lo, lo = loT t T := ⟨_, rfl⟩
        rw [← hlo'] at cF hlo HL
        obtain ⟨bd, fr, tt⟩ := t
        simp only at x1 x2 x3 HX cG HBX
        clear hlo' zt HT
        go_enter Tryz.func41, Tryz.ntmps41
        go_upto_region 1 with fail
        rw [← hW0]
        clear hW0
        go_wp2_with (first | (go_at_call 20; refine cG.mono ?_; rintro e W1 ⟨rfl, hB1'⟩; refine Hid.out ?_))
        refine Lib.hid ?_
        have hB1 : Below W0.heap.size W0 W1 := on1K HBX.out hB1' (Nat.le_refl _)
        obtain ⟨D1, q1, b1⟩ := HX.out W1 hB1
        have y0 : W1.cell? ⟨p, 1, none⟩ = some (.slice am T.length cm) := cell_at D1.hp rfl
        have y1 : W1.cell? ⟨w.heap.size, 0, none⟩ = some (.string bd) := cell_at q1 rfl
        have y2 : W1.cell? ⟨w.heap.size, 1, none⟩ = some (.int .i64 fr) := cell_at q1 rfl
        have y3 : W1.cell? ⟨w.heap.size, 2, none⟩ = some (.int .i64 tt) := cell_at q1 rfl
        have cF1 := cF W1.drew D1.hT.isT
        have HB1 := Lib.hid hB1
        have HY : Hid (∀ W, Below W1.heap.size W1 W → W.cell? ⟨p, 1, none⟩ = some (.slice am T.length cm) ∧ W.cell? ⟨w.heap.size, 0, none⟩ = some (.string bd) ∧ W.cell? ⟨w.heap.size, 1, none⟩ = some (.int .i64 fr) ∧ W.cell? ⟨w.heap.size, 2, none⟩ = some (.int .i64 tt)) := fun W hB => by
          obtain ⟨D2, q2, _⟩ := HX.out W (on1K HB1.out hB (Nat.le_refl _))
          exact ⟨cell_at D2.hp rfl, cell_at q2 rfl, cell_at q2 rfl, cell_at q2 rfl⟩
        clear hB1 hB1' q1 b1 cG x1 x2 x3 HBX D1
        go_wp2
        first | (go_region_held (fun w' => w'.cell? ⟨p, 1, none⟩ = some (.slice am T.length cm) ∧ w'.cell? ⟨w.heap.size, 0, none⟩ = some (.string bd) ∧ w'.cell? ⟨w.heap.size, 1, none⟩ = some (.int .i64 fr) ∧ w'.cell? ⟨w.heap.size, 2, none⟩ = some (.int .i64 tt)) (go_keep) (first | (go_at_call 63; refine cF1.mono ?_; rintro e W2 ⟨rfl, hB2'⟩; have hB2 := b_undrew hB2'; clear hB2'; obtain ⟨z0, z1, z2, z3⟩ := HY.out W2 hB2))) | fail
        all_goals
          go_wp2
          go_ret
          exact ⟨rfl, fun h => (by cases h), (HX.out W2 (on1K HB1.out hB2 (Nat.le_refl _))).2.2.mono hbw⟩
      · have hE : bindE t T = 0 := by unfold bindE; rw [if_pos hz, hfd, if_neg (by decide), if_neg hfull]
        rw [hE, show errV 0 = .nilIface from rfl]
        clear hz hE hfd
        have hfi : ¬ ((T.length : Int) = 120) := by omega
        generalize hBT : bindT t T = BT at *
        obtain ⟨lo, hlo'⟩ : ∃ lo, lo = loT t T := ⟨_, rfl⟩
        rw [← hlo'] at cF hlo HL
        obtain ⟨bd, fr, tt⟩ := t
        simp only at x1 x2 x3 HX cG HBX
        clear hlo' zt HT
        go_enter Tryz.func41, Tryz.ntmps41
        go_upto_region 1 with fail
        rw [← hW0]
        clear hW0
        go_wp2_with (first | (go_at_call 20; refine cG.mono ?_; rintro e W1 ⟨rfl, hB1'⟩; refine Hid.out ?_))
        refine Lib.hid ?_
        have hB1 : Below W0.heap.size W0 W1 := on1K HBX.out hB1' (Nat.le_refl _)
        obtain ⟨D1, q1, b1⟩ := HX.out W1 hB1
        have y0 : W1.cell? ⟨p, 1, none⟩ = some (.slice am T.length cm) := cell_at D1.hp rfl
        have y1 : W1.cell? ⟨w.heap.size, 0, none⟩ = some (.string bd) := cell_at q1 rfl
        have y2 : W1.cell? ⟨w.heap.size, 1, none⟩ = some (.int .i64 fr) := cell_at q1 rfl
        have y3 : W1.cell? ⟨w.heap.size, 2, none⟩ = some (.int .i64 tt) := cell_at q1 rfl
        have cF1 := cF W1.drew D1.hT.isT
        have HB1 := Lib.hid hB1
        have HY : Hid (∀ W, Below W1.heap.size W1 W → W.cell? ⟨p, 1, none⟩ = some (.slice am T.length cm) ∧ W.cell? ⟨w.heap.size, 0, none⟩ = some (.string bd) ∧ W.cell? ⟨w.heap.size, 1, none⟩ = some (.int .i64 fr) ∧ W.cell? ⟨w.heap.size, 2, none⟩ = some (.int .i64 tt)) := fun W hB => by
          obtain ⟨D2, q2, _⟩ := HX.out W (on1K HB1.out hB (Nat.le_refl _))
          exact ⟨cell_at D2.hp rfl, cell_at q2 rfl, cell_at q2 rfl, cell_at q2 rfl⟩
        clear hB1 hB1' q1 b1 cG x1 x2 x3 HBX D1
        go_wp2
        first | (go_region_held (fun w' => w'.cell? ⟨p, 1, none⟩ = some (.slice am T.length cm) ∧ w'.cell? ⟨w.heap.size, 0, none⟩ = some (.string bd) ∧ w'.cell? ⟨w.heap.size, 1, none⟩ = some (.int .i64 fr) ∧ w'.cell? ⟨w.heap.size, 2, none⟩ = some (.int .i64 tt)) (go_keep) (first | (go_at_call 63; refine cF1.mono ?_; rintro e W2 ⟨rfl, hB2'⟩; have hB2 := b_undrew hB2'; clear hB2'; obtain ⟨z0, z1, z2, z3⟩ := HY.out W2 hB2))) | fail
        all_goals
          obtain ⟨D2, q2, b2⟩ := HX.out W2 (on1K HB1.out hB2 (Nat.le_refl _))
          have hX2 : Below W2.heap.size W2 (W2.drew.alloc (.cells #[.string bd, .int .i64 fr, .int .i64 tt] 36)) := b_alloc (b_drew (Below.refl _ W2)) _
          have D3 := D2.on hX2
          have cI := insertT_any D3.hT lo hlo W2.heap.size ⟨bd, fr, tt⟩ (heap_alloc_new W2.drew _) (fun e => by have := (World.ownsRow.lt D2.hT _ e).2; exact absurd this (Nat.lt_irrefl _)) (Nat.le_trans (Nat.le_trans hbw b2.size) hX2.size) (by omega)
          have HB3 : Hid (Below w.heap.size w (W2.drew.alloc (.cells #[.string bd, .int .i64 fr, .int .i64 tt] 36)) ∧ OGv (W2.drew.alloc (.cells #[.string bd, .int .i64 fr, .int .i64 tt] 36)) base p (.slice an N.length cn) (.slice am T.length cm) N T) := ⟨on1K b2 hX2 (Nat.le_refl _), D3⟩
          have hp2 : p < W2.heap.size := D2.pl
          have w0 := cell_old (w := W2.drew) z0
          have w1 := cell_old (w := W2.drew) z1
          have w2 := cell_old (w := W2.drew) z2
          have w3 := cell_old (w := W2.drew) z3
          clear D2 q2 b2 hX2 D3 HX HY cF cF1
          go_wp2
          first | (go_region_law (first | (go_simp; go_at_call 64; refine cI.mono ?_; rintro e W3 ⟨v3, rfl, ho3, hg3⟩; obtain ⟨a3, c3, hv3⟩ := own_slice ho3; subst hv3; have hp3 := HB3.out.2.pT hg3; have t0 : W3.cell? ⟨p, 1, none⟩ = some (.slice am T.length cm) := cell_at hp3 rfl; have g0 : W3.frozen? ⟨p, 1, none⟩ = false := frz_at hp3; have HO := Lib.hid (And.intro ho3 hg3); clear ho3 hg3 hp3))) | fail
          all_goals
            go_wp2
            go_ret
            refine ⟨rfl, fun _ => ?_, (below_row (HB3.out.1.mono hbw) HB3.out.2.hT HO.out.2 (Nat.le_refl _) (Nat.le_trans hbw HB3.out.1.size)).setCell hbp _⟩
            rw [HL.out]
            have e : (T.take lo ++ (⟨bd, fr, tt⟩ : Te) :: T.drop lo).length = lo + (T.length - lo + 1) := by simp; omega
            have hh := (OGv.ties HB3.out.2 HO.out.2 HO.out.1).og
            rw [e] at hh
            exact hh
  · have hE : bindE t T = gErr [] [t] := by unfold bindE; rw [if_neg hz]
    rw [hE]
    rw [errV_ne hz] at cG ⊢
    obtain ⟨z, hzz⟩ : ∃ z, z = gErr [] [t] := ⟨_, rfl⟩
    rw [← hzz] at cG hz ⊢
    clear hE hzz cF zt
    obtain ⟨bd, fr, tt⟩ := t
    simp only at x1 x2 x3 HX cG HBX
    have HZ := Lib.hid hz
    clear hz HT
    go_enter Tryz.func41, Tryz.ntmps41
    go_upto_region 1 with fail
    rw [← hW0]
    clear hW0
    go_wp2_with (first | (go_at_call 20; refine cG.mono ?_; rintro e W1 ⟨rfl, hB1⟩))
    go_ret
    exact ⟨rfl, fun h => absurd h HZ.out, (HX.out W1 (on1K HBX.out hB1 (Nat.le_refl _))).2.2.mono hbw⟩
end Go.Proofs.YtffiddpnkiejkaaGreat

/-
  The walk of slices.Insert of one node into nodes that the call itself made.
-/
namespace Go.Proofs.YtffiddpnkiejkaaGreat
open Go.RowKit
set_option linter.unusedVariables false
set_option linter.unusedSimpArgs false

theorem cellsN_app (a b : List Nd) : cellsN (a ++ b) = cellsN a ++ cellsN b := by simp [cellsN]
theorem cellsN_len (a : List Nd) : (cellsN a).length = a.length * 3 := flatK_len nd_len a
theorem fN_one (f : Nd) (hfs : ∃ a l c, f.rv = .slice a l c) : ∀ u ∈ f.cells, u.oneCell' = true := by
  intro u hu
  obtain ⟨a, l, c, e⟩ := hfs
  simp [Nd.cells, e] at hu
  rcases hu with rfl | rfl | rfl <;> rfl
theorem cellsN_ins (all : List Nd) (f : Nd) (i : Nat) : cellsN (all.take i ++ f :: all.drop i) = cellsN (all.take i) ++ f.cells ++ cellsN (all.drop i) := by
  simp [cellsN]

set_option maxHeartbeats 4000000 in
set_option maxRecDepth 100000 in
theorem insertN_end {w : World} {base : Nat} {v : Value} {all : List Nd} (h : w.ownsRow base 34 3 v all.length (cellsN all)) (vb : Nat) (f : Nd) (hfs : ∃ a l c, f.rv = .slice a l c) (hf : ∀ j u, f.cells[j]? = some u → w.cell? ((⟨vb, 0, none⟩ : Addr).add j) = some u) (hbase : base ≤ w.heap.size) (hn : all.length ≤ 1000) :
    Calls Tryz.prog 56 #[v, .int .i64 all.length, .slice (some ⟨vb, 0, none⟩) 1 1] w fun e w' => ∃ v', e = .returned v' ∧ w'.ownsRow base 34 3 v' (all.length + 1) (cellsN all ++ f.cells) ∧ w.grownBy w' v.ownBlock := by
  obtain ⟨i0, hi0, hz0, hz1, hz2⟩ := info_parts infoN
  have HM : Hid (all.length + 1 ≤ maxLen ∧ (all.length + 1) * 48 ≤ 140737488355328) := by unfold maxLen; exact ⟨by omega, by omega⟩
  have HO : Hid (w.ownsRow base 34 3 v all.length (cellsN all) ∧ ∀ j u, f.cells[j]? = some u → w.cell? ((⟨vb, 0, none⟩ : Addr).add j) = some u) := ⟨h, hf⟩
  rcases h.2 with ⟨rfl, h0⟩ | ⟨g, cap, cur, rfl, hb, hg, hle, hcm, hcs, ht⟩
  · rw [h0] at HM HO ⊢
    clear h hf hn h0
    go_enter Tryz.func56, Tryz.ntmps56
    go_wp2_with (at_builtin; refine wpList_append_own _ rfl (.tmp 23) (.tmp 24) 26 rfl base 34 i0 _ 3 48 Tryz.underlying26 hi0 hz0 hz1 hz2 rfl (by decide) _ 0 (cellsN all) rfl HO.out.1 ⟨vb, 0, none⟩ 1 1 f.cells rfl rfl HO.out.2 (fN_one f hfs) HM.out.1 HM.out.2 hbase ?_; intro v1 w1 hown1 hgrow1 _)
    go_ret
    exact ⟨_, rfl, hown1, hgrow1⟩
  · have hnc : (all.length : Int) ≤ (cap : Int) := by omega
    unfold maxLen at hcm
    clear h hf hb hg hcs ht
    generalize all.length = n at *
    go_enter Tryz.func56, Tryz.ntmps56
    go_wp2_with (at_builtin; refine wpList_append_own _ rfl (.tmp 23) (.tmp 24) 26 rfl base 34 i0 _ 3 48 Tryz.underlying26 hi0 hz0 hz1 hz2 rfl (by decide) _ n (cellsN all) rfl HO.out.1 ⟨vb, 0, none⟩ 1 1 f.cells rfl rfl HO.out.2 (fN_one f hfs) HM.out.1 HM.out.2 hbase ?_; intro v1 w1 hown1 hgrow1 _)
    all_goals
      go_ret
      exact ⟨_, rfl, hown1, hgrow1⟩

set_option maxHeartbeats 4000000 in
set_option maxRecDepth 100000 in
theorem insertN_room {w : World} {g n cap i vb : Nat} {cur : Array Value} {xs ys : List Value} (f : Nd) (hfs : ∃ a l c, f.rv = .slice a l c) (hg : w.heap[g]? = some (.cells cur 34 (0, 0))) (hs : cur.size = cap * 3) (hcm : cap ≤ maxLen)
    (ht : cur.toList.take (n * 3) = xs ++ ys) (hx : xs.length = i * 3) (hy : ys.length = (n - i) * 3) (hi : i < n) (hn : n ≤ 1000) (hroom : n + 1 ≤ cap) (h1 : ∀ u ∈ ys, u.oneCell' = true)
    (hv : w.heap[vb]? = some (.cells #[.int .i64 f.id, .string f.kd, f.rv] 34 (0, 0))) (hne : vb ≠ g) :
    Calls Tryz.prog 56 #[.slice (some ⟨g, 0, none⟩) n cap, .int .i64 i, .slice (some ⟨vb, 0, none⟩) 1 1] w fun e w' => e = .returned (.slice (some ⟨g, 0, none⟩) (n + 1) cap) ∧ ∃ w1 : World, w1.heap = w.heap ∧ w1.os = w.os ∧ w1.tape = w.tape ∧ w1.output = w.output ∧ w' = w1.setRow g (lay (lay cur.toList ((i + 1) * 3) ys) (i * 3) f.cells).toArray := by
  have hov : ∀ o lb cb, (callFunc 90 #[.slice (some ⟨vb, 0, none⟩) 1 1, .slice (some ⟨g, o, none⟩) lb cb]).run Tryz.prog w = .ok (.value (.bool false)) w := fun o lb cb => by
    rw [run_callFunc_extern Tryz.func90 (by kernel_rfl) (by kernel_rfl) (by kernel_rfl) (e := Extern.SlicesOverlaps.overlaps #[26, 26] #[4]) (by kernel_rfl),
      Lib.run_overlaps_apart w 26 4 34 Tryz.underlying26 3 Tryz.sizeOf34 ⟨vb, 0, none⟩ ⟨g, o, none⟩ 1 1 lb cb hne 34 34 3 cur.size (by simp [World.shape?, hv]) (by simp [World.shape?, hg]) (by omega) (by simp [World.frozen?, hv]) (by simp [World.frozen?, hv])]
    rfl
  have hsz : (Tryz.prog.info? 34).map (·.size) = some 3 := by
    obtain ⟨i0, hi0, hz0, hz1, hz2⟩ := info_parts infoN
    rw [hi0]; simp [hz1]
  have hcl : n * 3 ≤ cur.toList.length := by simp; omega
  have hyc : ∀ j u, ys[j]? = some u → cur.toList[i * 3 + j]? = some u := fun j u hu => by
    have hj := (List.getElem?_eq_some_iff.1 hu).1
    have e : (cur.toList.take (n * 3))[i * 3 + j]? = some u := by rw [ht, List.getElem?_append_right (by omega), hx]; simpa using hu
    rw [List.getElem?_take] at e
    split at e
    · exact e
    · cases e
  have hcp1 : ∀ ty dc sc, (Builtin.copy_ #[26, 26] ty #[.slice (some ⟨g, (i + 1) * 3, none⟩) (n - i) dc, .slice (some ⟨g, i * 3, none⟩) (n + 1 - i) sc]).run Tryz.prog w.drew = .ok (goInt ((n - i : Nat) : Int)) (w.drew.setRow g (lay cur.toList ((i + 1) * 3) ys).toArray) := fun ty dc sc =>
    run_copy_rowN w.drew 26 26 ty 34 3 g ((i + 1) * 3) (n - i) dc ⟨g, i * 3, none⟩ (n + 1 - i) sc cur 34 ys (n - i) Tryz.underlying26 hsz hg (by show min _ _ = _; omega) hy
      (fun j u hu => by rw [Addr.add_lit, cell_of_row w.drew g (i * 3 + j) cur 34 (0, 0) hg]; simpa using hyc j u hu) (by omega) h1
  have hl1 : (lay cur.toList ((i + 1) * 3) ys).length = cur.toList.length := lay_len (by simp; omega)
  obtain ⟨W1, hW1⟩ : ∃ W1, W1 = w.drew.setRow g (lay cur.toList ((i + 1) * 3) ys).toArray := ⟨_, rfl⟩
  have hg1 : W1.heap[g]? = some (.cells (lay cur.toList ((i + 1) * 3) ys).toArray 34 (0, 0)) := by rw [hW1]; exact setRow_heap w.drew g cur _ 34 _ hg
  have hv1 : W1.heap[vb]? = some (.cells #[.int .i64 f.id, .string f.kd, f.rv] 34 (0, 0)) := by rw [hW1, setRow_other w.drew g vb _ hne]; exact hv
  have hcp2 : ∀ ty dc sc, (Builtin.copy_ #[26, 26] ty #[.slice (some ⟨g, i * 3, none⟩) (n + 1 - i) dc, .slice (some ⟨vb, 0, none⟩) 1 sc]).run Tryz.prog W1 = .ok (goInt 1) (W1.setRow g (lay (lay cur.toList ((i + 1) * 3) ys) (i * 3) f.cells).toArray) := fun ty dc sc => by
    have := run_copy_rowN W1 26 26 ty 34 3 g (i * 3) (n + 1 - i) dc ⟨vb, 0, none⟩ 1 sc _ 34 f.cells 1 Tryz.underlying26 hsz hg1 (by show min _ _ = _; omega) rfl
      (fun j u hu => by rw [Addr.add_lit, cell_of_row W1 vb (0 + j) _ 34 (0, 0) hv1]; simpa [Nd.cells] using hu) (by simp [hl1, Nd.cells]; omega) (fN_one f hfs)
    simpa [lay] using this
  have hfin : W1.setRow g (lay (lay cur.toList ((i + 1) * 3) ys) (i * 3) f.cells).toArray = w.drew.setRow g (lay (lay cur.toList ((i + 1) * 3) ys) (i * 3) f.cells).toArray := by rw [hW1, setRow_setRow]
  obtain ⟨W2, hW2⟩ : ∃ W2, W2 = W1.setRow g (lay (lay cur.toList ((i + 1) * 3) ys) (i * 3) f.cells).toArray := ⟨_, rfl⟩
  rw [← hW2] at hcp2 hfin
  rw [← hW1] at hcp1
  have HF : Hid (W2 = w.drew.setRow g (lay (lay cur.toList ((i + 1) * 3) ys) (i * 3) f.cells).toArray) := hfin
  unfold maxLen at hcm
  have hz2 : ¬ ((i : Int) = (n : Int)) := by omega
  have hi1 : (i : Int) ≤ (n : Int) := by omega
  have hi2 : (i : Int) ≤ (n : Int) + 1 := by omega
  have hr1 : ¬ ((cap : Int) < (n : Int) + 1) := by omega
  have hci : ¬ (cap = i) := by omega
  have hci1 : ¬ (cap = i + 1) := by omega
  have hw1 : IntKind.i64.wrap ((i : Int) + 1) = (i : Int) + 1 := by rw [IntKind.wrap_i64]; omega
  have hb1 : (0 : Int) ≤ (i : Int) + 1 := by omega
  have htn : ((i : Int) + 1).toNat = i + 1 := by omega
  clear hg hv ht hs hx hy h1 hW1 hW2 hg1 hv1 hl1 hcl hyc hfin hsz
  go_enter Tryz.func56, Tryz.ntmps56
  go_wp2_with (simp only [hov])
  go_region_law (refine step_copy_runN rfl (.tmp 73) (.tmp 76) 26 26 rfl _ _ (by simp [Act.eval, Act.put]) (by simp [Act.eval, Act.put]) (hcp1 _ _ _) ?_)
  all_goals
    go_wp2_with (at_builtin; refine wpList_copy_runN _ rfl (.tmp 80) (.tmp 81) 26 26 rfl _ _ rfl rfl (hcp2 _ _ _) ?_)
    go_ret
    exact ⟨rfl, w.drew, rfl, rfl, rfl, rfl, HF.out⟩
set_option maxHeartbeats 4000000 in
set_option maxRecDepth 100000 in
theorem insertN_grow {w : World} {g n cap i vb : Nat} {cur : Array Value} {xs ys : List Value} (f : Nd) (hfs : ∃ a l c, f.rv = .slice a l c) (hg : w.heap[g]? = some (.cells cur 34 (0, 0))) (hs : cur.size = cap * 3)
    (ht : cur.toList.take (n * 3) = xs ++ ys) (hx : xs.length = i * 3) (hy : ys.length = (n - i) * 3) (hi : i < n) (hn : n ≤ 1000) (hnc : n ≤ cap) (hroom : cap < n + 1) (h1 : ∀ u ∈ ys, u.oneCell' = true)
    (hv : w.heap[vb]? = some (.cells #[.int .i64 f.id, .string f.kd, f.rv] 34 (0, 0))) :
    Calls Tryz.prog 56 #[.slice (some ⟨g, 0, none⟩) n cap, .int .i64 i, .slice (some ⟨vb, 0, none⟩) 1 1] w fun e w' => ∃ G, ∃ row : List Value, e = .returned (.slice (some ⟨w.heap.size, 0, none⟩) (n + 1) G) ∧ n + 1 ≤ G ∧ G ≤ maxLen ∧ w'.heap[w.heap.size]? = some (.cells row.toArray 34 (0, 0)) ∧ row.length = G * 3 ∧ row.take ((n + 1) * 3) = xs ++ f.cells ++ ys ∧ Below w.heap.size w w' := by
  obtain ⟨i0, hi0, hz0, hzs, hzb⟩ := info_parts infoN
  have hsz : (Tryz.prog.info? 34).map (·.size) = some 3 := by rw [hi0]; simp [hzs]
  have hgl : g < w.heap.size := (Array.getElem?_eq_some_iff.1 hg).1
  have hvl : vb < w.heap.size := (Array.getElem?_eq_some_iff.1 hv).1
  have hcl : n * 3 ≤ cur.toList.length := by simp; omega
  have hxyc : ∀ j u, (xs ++ ys)[j]? = some u → cur.toList[j]? = some u := fun j u hu => by
    rw [← ht, List.getElem?_take] at hu
    split at hu
    · exact hu
    · cases hu
  have hyc : ∀ j u, ys[j]? = some u → cur.toList[i * 3 + j]? = some u := fun j u hu => hxyc _ _ (by rw [List.getElem?_append_right (by omega), hx]; simpa using hu)
  have hxc : ∀ j u, xs[j]? = some u → cur.toList[j]? = some u := fun j u hu => hxyc _ _ (by rw [List.getElem?_append_left (List.getElem?_eq_some_iff.1 hu).1]; exact hu)
  have hold : (Builtin.firstCells i0.size i (.slice (some ⟨g, 0, none⟩) i cap)).run Tryz.prog w.drew = .ok xs.toArray w.drew := by
    rw [hzs]
    show (loadCells ⟨g, 0, none⟩ (i * 3)).run Tryz.prog w.drew = _
    rw [← hx]
    exact run_loadCells_list w.drew _ xs (fun j u hu => by rw [Addr.add_lit, cell_of_row w.drew g (0 + j) cur 34 (0, 0) hg]; simpa using hxc j u hu)
  have hik : i + (n + 1 - i) = n + 1 := by omega
  have hkk : (n : Int) + 1 - (i : Int) = ((n + 1 - i : Nat) : Int) := by omega
  obtain ⟨G, hG⟩ : ∃ G, G = grownCap w (n + 1) cap 34 := ⟨_, rfl⟩
  have hGn : n + 1 ≤ G := by rw [hG]; exact grownCap_ge w _ _ _
  have hGm : G ≤ maxLen := by rw [hG]; exact grownCap_le_maxLen w (n + 1) cap 34 (by unfold maxLen; omega)
  obtain ⟨Z, hZ⟩ : ∃ Z, Z = Builtin.zeroCells (Value.agg #[.int .i64 0, .string ⟨#[]⟩, .slice none 0 0]).cells (n + 1 - i) := ⟨_, rfl⟩
  obtain ⟨T, hT⟩ : ∃ T, T = Builtin.zeroCells (Value.agg #[.int .i64 0, .string ⟨#[]⟩, .slice none 0 0]).cells (G - (n + 1)) := ⟨_, rfl⟩
  have hZl : Z.toList.length = (n + 1 - i) * 3 := by rw [hZ]; simp [Builtin.zeroCells, Value.cells]
  have hTl : T.toList.length = (G - (n + 1)) * 3 := by rw [hT]; simp [Builtin.zeroCells, Value.cells]
  obtain ⟨R, hR⟩ : ∃ R, R = xs ++ Z.toList ++ T.toList := ⟨_, rfl⟩
  have hRl : R.length = G * 3 := by rw [hR]; simp only [List.length_append]; omega
  have hRa : xs.toArray ++ Z ++ T = R.toArray := by rw [hR]; apply Array.toList_inj.1; simp
  have hrz : ∀ ty, (Builtin.append_ #[26, 3] ty #[.slice (some ⟨g, 0, none⟩) i cap, .int .i64 ((n : Int) + 1 - (i : Int))]).run Tryz.prog w =
      .ok (.slice (some ⟨w.heap.size, 0, none⟩) (n + 1) G) (w.drew.alloc (.cells R.toArray 34)) := fun ty => by
    have h := Lib.run_append_grow_zeros w 26 3 ty 34 i0 _ .i64 .i64 Tryz.underlying26 Tryz.underlying3 hi0 hz0 (some ⟨g, 0, none⟩) i cap xs hold (n + 1 - i) (by omega) (by omega) (by omega) (by omega) (by rw [hzb]; omega) (by rw [hzb, hik]; exact growslice_fits hroom (by omega))
    rw [hik, ← hG, ← hZ, ← hT, hRa] at h
    rw [hkk]
    exact h
  obtain ⟨W1, hW1⟩ : ∃ W1, W1 = w.drew.alloc (.cells R.toArray 34) := ⟨_, rfl⟩
  have hB1 : Below w.heap.size w W1 := by rw [hW1]; exact (Below.refl _ w).drew.alloc (Nat.le_refl _) _
  have hh1 : W1.heap[w.heap.size]? = some (.cells R.toArray 34 (0, 0)) := by rw [hW1]; exact heap_alloc_new w.drew _
  have hv1 := (hB1.block vb hvl).trans hv
  have hg1 := (hB1.block g hgl).trans hg
  have hfl : f.cells.length = 3 := rfl
  have hcpA : ∀ ty dc sc, (Builtin.copy_ #[26, 26] ty #[.slice (some ⟨w.heap.size, i * 3, none⟩) (n + 1 - i) dc, .slice (some ⟨vb, 0, none⟩) 1 sc]).run Tryz.prog W1 = .ok (goInt 1) (W1.setRow w.heap.size (lay R (i * 3) f.cells).toArray) := fun ty dc sc => by
    have := run_copy_rowN W1 26 26 ty 34 3 w.heap.size (i * 3) (n + 1 - i) dc ⟨vb, 0, none⟩ 1 sc _ 34 f.cells 1 Tryz.underlying26 hsz hh1 (by show min _ _ = _; omega) rfl
      (fun j u hu => by rw [Addr.add_lit, cell_of_row W1 vb (0 + j) _ 34 (0, 0) hv1]; simpa [Nd.cells] using hu) (by rw [hfl, List.size_toArray, hRl]; omega) (fN_one f hfs)
    simpa [lay] using this
  obtain ⟨R2, hR2⟩ : ∃ R2, R2 = lay R (i * 3) f.cells := ⟨_, rfl⟩
  have hR2l : R2.length = G * 3 := by rw [hR2, lay_len (by rw [hfl, hRl]; omega)]; exact hRl
  rw [← hR2] at hcpA
  obtain ⟨W2, hW2⟩ : ∃ W2, W2 = W1.setRow w.heap.size R2.toArray := ⟨_, rfl⟩
  have hh2 : W2.drew.heap[w.heap.size]? = some (.cells R2.toArray 34 (0, 0)) := by rw [hW2]; exact setRow_heap W1 w.heap.size _ _ 34 _ hh1
  have hB2 : Below w.heap.size w W2 := by rw [hW2]; exact below_setRow hB1 (Nat.le_refl _) _
  have hg2 : W2.drew.heap[g]? = some (.cells cur 34 (0, 0)) := (hB2.block g hgl).trans hg
  have hcpB : ∀ ty dc sc, (Builtin.copy_ #[26, 26] ty #[.slice (some ⟨w.heap.size, (i + 1) * 3, none⟩) (n - i) dc, .slice (some ⟨g, i * 3, none⟩) (n - i) sc]).run Tryz.prog W2.drew = .ok (goInt ((n - i : Nat) : Int)) (W2.drew.setRow w.heap.size (lay R2 ((i + 1) * 3) ys).toArray) := fun ty dc sc =>
    run_copy_rowN W2.drew 26 26 ty 34 3 w.heap.size ((i + 1) * 3) (n - i) dc ⟨g, i * 3, none⟩ (n - i) sc _ 34 ys (n - i) Tryz.underlying26 hsz hh2 (by show min _ _ = _; omega) hy
      (fun j u hu => by rw [Addr.add_lit, cell_of_row W2.drew g (i * 3 + j) cur 34 (0, 0) hg2]; simpa using hyc j u hu) (by rw [List.size_toArray, hR2l]; omega) h1
  obtain ⟨W3, hW3⟩ : ∃ W3, W3 = W2.drew.setRow w.heap.size (lay R2 ((i + 1) * 3) ys).toArray := ⟨_, rfl⟩
  have HE : Hid (W3.heap[w.heap.size]? = some (.cells (lay R2 ((i + 1) * 3) ys).toArray 34 (0, 0)) ∧ (lay R2 ((i + 1) * 3) ys).length = G * 3 ∧ (lay R2 ((i + 1) * 3) ys).take ((n + 1) * 3) = xs ++ f.cells ++ ys ∧ Below w.heap.size w W3 ∧ n + 1 ≤ G ∧ G ≤ maxLen) := by
    refine ⟨by rw [hW3]; exact setRow_heap W2.drew w.heap.size _ _ 34 _ hh2, ?_, ?_, ?_, hGn, hGm⟩
    · rw [lay_len (by rw [hR2l]; omega)]; exact hR2l
    · have e := lay_grow xs ys f.cells Z.toList (by rw [hZl, hfl]; omega) T.toList
      rw [hR2, hR]
      rw [hx, hfl, hy] at e
      rw [show (i + 1) * 3 = i * 3 + 3 by omega, show (n + 1) * 3 = i * 3 + 3 + (n - i) * 3 by omega]
      exact e
    · rw [hW3]; exact below_setRow hB2.drew (Nat.le_refl _) _
  rw [← hW1] at hrz
  rw [← hW2] at hcpA
  rw [← hW3] at hcpB
  unfold maxLen at hGm
  have hz2 : ¬ ((i : Int) = (n : Int)) := by omega
  have hi1 : (i : Int) ≤ (n : Int) := by omega
  have hi2 : (i : Int) ≤ (n : Int) + 1 := by omega
  have hr1 : (cap : Int) < (n : Int) + 1 := by omega
  have hci : ¬ (cap = i) := by omega
  have hGi : ¬ (G = i) := by omega
  have hGi1 : ¬ (G = i + 1) := by omega
  have hw1 : IntKind.i64.wrap ((i : Int) + 1) = (i : Int) + 1 := by rw [IntKind.wrap_i64]; omega
  have hb1 : (0 : Int) ≤ (i : Int) + 1 := by omega
  have htn : ((i : Int) + 1).toNat = i + 1 := by omega
  clear hg hv ht hs hx hy h1 hW1 hW2 hW3 hg1 hv1 hh1 hh2 hg2 hcl hyc hxc hxyc hsz hold hik hkk hG hGn hZ hT hZl hTl hR hRl hRa hB1 hB2 hR2 hR2l hi0 hz0 hzs hzb hfl hgl hvl
  go_enter Tryz.func56, Tryz.ntmps56
  go_wp2_with (first
    | (at_builtin; refine Lib.wpList_append_run _ rfl _ _ _ _ rfl _ _ rfl rfl _ _ (hrz _) ?_)
    | (at_builtin; refine wpList_copy_runN _ rfl (.tmp 43) (.tmp 44) 26 26 rfl _ _ rfl rfl (hcpA _ _ _) ?_))
  go_region_law (refine step_copy_runN rfl (.tmp 50) (.tmp 53) 26 26 rfl _ _ (by simp [Act.eval, Act.put]) (by simp [Act.eval, Act.put]) (hcpB _ _ _) ?_)
  all_goals
    go_wp2
    go_ret
    exact ⟨G, _, rfl, HE.out.2.2.2.2.1, HE.out.2.2.2.2.2, HE.out.1, HE.out.2.1, HE.out.2.2.1, HE.out.2.2.2.1⟩

/-- One field more in a row that the call itself made, at any place. -/
theorem insertN_any {w : World} {base : Nat} {v : Value} {all : List Nd} (h : w.ownsRow base 34 3 v all.length (cellsN all)) (i : Nat) (hi : i ≤ all.length) (vb : Nat) (f : Nd) (hfs : ∃ a l c, f.rv = .slice a l c) (hsl : SlN all) (hv : w.heap[vb]? = some (.cells #[.int .i64 f.id, .string f.kd, f.rv] 34 (0, 0))) (hne : v.ownBlock ≠ some vb) (hbase : base ≤ w.heap.size) (hn : all.length ≤ 1000) :
    Calls Tryz.prog 56 #[v, .int .i64 i, .slice (some ⟨vb, 0, none⟩) 1 1] w fun e w' => ∃ v', e = .returned v' ∧ w'.ownsRow base 34 3 v' (all.take i ++ f :: all.drop i).length (cellsN (all.take i ++ f :: all.drop i)) ∧ w.grownBy w' v.ownBlock := by
  have hlen : (all.take i ++ f :: all.drop i).length = all.length + 1 := by simp; omega
  rw [hlen, cellsN_ins]
  by_cases he : i = all.length
  · subst he
    refine (insertN_end h vb f hfs (fun j u hu => by rw [Addr.add_lit, cell_of_row w vb (0 + j) _ 34 (0, 0) hv]; simpa [Nd.cells] using hu) hbase hn).mono ?_
    rintro e w' ⟨v', rfl, ho, hB⟩
    refine ⟨v', rfl, ?_, hB⟩
    rw [List.take_length, List.drop_length]
    simpa [cellsN] using ho
  · have hlt : i < all.length := by omega
    have hh := h
    rcases h.2 with ⟨rfl, h0⟩ | ⟨g, cap, cur, rfl, hb, hg, hle, hcm, hcs, ht⟩
    · omega
    · have hgb : vb ≠ g := fun e => hne (by simp [Value.ownBlock, e])
      have hsplit : cellsN all = cellsN (all.take i) ++ cellsN (all.drop i) := by rw [← cellsN_app, List.take_append_drop]
      have hx : (cellsN (all.take i)).length = i * 3 := by rw [cellsN_len, List.length_take_of_le hi]
      have hy : (cellsN (all.drop i)).length = (all.length - i) * 3 := by rw [cellsN_len, List.length_drop]
      have hfl : f.cells.length = 3 := rfl
      rw [hsplit] at ht
      by_cases hroom : all.length + 1 ≤ cap
      · refine (insertN_room f hfs hg hcs hcm ht hx hy hlt hn hroom (nd_one (fun n hn => hsl n (List.mem_of_mem_drop hn))) hv hgb).mono ?_
        rintro e w' ⟨rfl, w1, e1, e2, e3, e4, rfl⟩
        have hg1 : w1.heap[g]? = some (.cells cur 34 (0, 0)) := by rw [e1]; exact hg
        have hll : (lay (lay cur.toList ((i + 1) * 3) (cellsN (all.drop i))) (i * 3) f.cells).length = cap * 3 := by
          have hc : cur.toList.length = cap * 3 := by simpa using hcs
          have l1 := lay_len (l := cur.toList) (o := (i + 1) * 3) (cs := cellsN (all.drop i)) (by rw [hy, hc]; omega)
          rw [lay_len (by rw [l1, hfl, hc]; omega), l1, hc]
        refine ⟨_, rfl, ⟨by simp only [List.length_append]; omega, .inr ⟨g, cap, _, rfl, hb, setRow_heap w1 g cur _ 34 _ hg1, hroom, hcm, by simpa using hll, ?_⟩⟩, ?_⟩
        · have e := lay_room cur.toList (cellsN (all.take i)) (cellsN (all.drop i)) (cur.toList.drop (all.length * 3)) f.cells (by rw [← ht, List.take_append_drop]) (by
            have hc : cur.toList.length = cap * 3 := by simpa using hcs
            rw [hfl, List.length_drop, hc]; omega)
          rw [hx, hfl, hy] at e
          rw [show (i + 1) * 3 = i * 3 + 3 by omega, show (all.length + 1) * 3 = i * 3 + 3 + (all.length - i) * 3 by omega]
          simpa using e
        · exact grown_trans (b := w1) ⟨e2, e3, e4, by rw [e1]; exact Nat.le_refl _, fun k _ _ => by rw [e1]⟩ (setRow_grown w1 g _)
      · refine (insertN_grow f hfs hg hcs ht hx hy hlt hn hle (by omega) (nd_one (fun n hn => hsl n (List.mem_of_mem_drop hn))) hv).mono ?_
        rintro e w' ⟨G, row, rfl, h1, h2, h3, h4, h5, h6⟩
        refine ⟨_, rfl, ⟨by simp only [List.length_append]; omega, .inr ⟨w.heap.size, G, _, rfl, hbase, h3, h1, h2, by simpa using h4, by simpa using h5⟩⟩, grown_of_below h6 _⟩
end Go.Proofs.YtffiddpnkiejkaaGreat
