/-
  The walks of the two changes of a record that delta.apply hands on.
-/
import Derived.Test.YtidmfdbckpficaaM15
import Derived.Test.YtidmfdbckpficaaM17
import Derived.Test.YtidmfdbckpficaaM14
namespace Go.Proofs.Ytidmfdbckpficaa
open Go.RowKit
set_option linter.unusedVariables false
set_option linter.unusedSimpArgs false

/-- An op's block. -/
abbrev opB (o : Opx) : Array Value := #[.int .i64 o.wh, .int .i64 o.nd.id, .string o.nd.kd, o.nd.rv, .string o.pr.nm, .int .i64 o.pr.t, .int .i64 o.pr.n, .string o.pr.s, .string o.te.bd, .int .i64 o.te.fr, .int .i64 o.te.tt]
theorem OwnRc.rec' {w : World} {base : Nat} {v : Value} {L : List Pr} (h : OwnRc w base v L) : w.ownsRow base 38 4 v L.length (cellsOf L) := h

set_option maxHeartbeats 1000000 in
theorem ap1_any {w : World} {base q : Nat} {o : Opx} {rv : Value} {rc : List Pr} (hq : w.heap[q]? = some (.cells (opB o) 42 (0, 0))) (hO : OwnRc w base rv rc) (hs : Sz rc) (hr : rErr rc = 0) (hp : Sz [o.pr]) : ChP 41 q rv (rsErr o.pr rc) (ins o.pr rc) w := by
  intro W hB
  have hO' := hO.kt (.of_below hB)
  have c := set_any (own_isRec hO'.rec') hs (by have := rErr_len hr; unfold maxLen; omega) o.pr hp
  have hq' := (hB.block q (Array.getElem?_eq_some_iff.1 hq).1).trans hq
  obtain ⟨av, lv, cv, rfl⟩ := hO.sl
  have x4 : W.cell? ⟨q, 4, none⟩ = some (.string o.pr.nm) := cell_at hq' rfl
  have x5 : W.cell? ⟨q, 5, none⟩ = some (.int .i64 o.pr.t) := cell_at hq' rfl
  have x6 : W.cell? ⟨q, 6, none⟩ = some (.int .i64 o.pr.n) := cell_at hq' rfl
  have x7 : W.cell? ⟨q, 7, none⟩ = some (.string o.pr.s) := cell_at hq' rfl
  have c' : Calls Try.prog 42 #[.slice av lv cv, o.pr.one] W fun e w' => ∃ a l c, e = .returned (.tuple #[.slice a l c, errV (rsErr o.pr rc)]) ∧ (rsErr o.pr rc = 0 → OwnRc w' W.heap.size (.slice a l c) (ins o.pr rc)) ∧ Below W.heap.size W w' := c.mono fun e w' h => by
    obtain ⟨v, rfl, h1, h2, h3⟩ := h
    by_cases hz : rsErr o.pr rc = 0
    · have ho := h1 hz
      obtain ⟨ao, cp, rfl⟩ := own_slice ho
      exact ⟨_, _, _, rfl, fun _ => ho, h3⟩
    · rw [h2 hz]
      exact ⟨none, 0, 0, rfl, fun h => absurd h hz, h3⟩
  clear c hO hO' hq hq' hs hr hp
  generalize rsErr o.pr rc = z at *
  generalize errV z = E at *
  generalize ins o.pr rc = r' at *
  obtain ⟨wh, nd, ⟨nm, pt, pn, ps⟩, te⟩ := o
  simp only at x4 x5 x6 x7 c'
  go_enter Try.func41, Try.ntmps41
  go_wp2_with (first | (go_at_call 42; refine c'.mono ?_; rintro e W2 ⟨a, l, c, rfl, h1, hB2⟩))
  go_ret2
  exact ⟨a, l, c, rfl, h1, hB2⟩

/-- The error of Unset. -/
def unE (nm : List UInt8) (L : List Pr) : Int := if idxP nm L 0 = -1 then 5 else 0
set_option maxHeartbeats 1000000 in
theorem ap2_any {w : World} {base q : Nat} {o : Opx} {rv : Value} {rc : List Pr} (hq : w.heap[q]? = some (.cells (opB o) 42 (0, 0))) (hO : OwnRc w base rv rc) (hs : Sz rc) (hr : rErr rc = 0) : ChP 43 q rv (unE o.pr.nm.toList rc) (unL o.pr.nm.toList rc) w := by
  intro W hB
  have hO' := hO.kt (.of_below hB)
  have hq' := (hB.block q (Array.getElem?_eq_some_iff.1 hq).1).trans hq
  have c' : Calls Try.prog 44 #[rv, .string o.pr.nm] W fun e w' => ∃ a l c, e = .returned (.tuple #[.slice a l c, errV (unE o.pr.nm.toList rc)]) ∧ (unE o.pr.nm.toList rc = 0 → OwnRc w' W.heap.size (.slice a l c) (unL o.pr.nm.toList rc)) ∧ Below W.heap.size W w' := by
    by_cases hx : idxP o.pr.nm.toList rc 0 = -1
    · have e : unE o.pr.nm.toList rc = 5 := by unfold unE; rw [if_pos hx]
      rw [e]
      refine (unset_no hO'.isR hs o.pr.nm hr hx).mono ?_
      rintro e w' ⟨rfl, h⟩
      exact ⟨none, 0, 0, rfl, fun h => (by cases h), h⟩
    · have e : unE o.pr.nm.toList rc = 0 := by unfold unE; rw [if_neg hx]
      rw [e]
      refine (unset_ok hO'.rec' hs o.pr.nm hr hx).mono ?_
      rintro e w' ⟨v', rfl, h1, h2⟩
      obtain ⟨ao, cp, rfl⟩ := own_slice h1
      exact ⟨_, _, _, rfl, fun _ => h1, h2⟩
  obtain ⟨av, lv, cv, rfl⟩ := hO.sl
  have x4 : W.cell? ⟨q, 4, none⟩ = some (.string o.pr.nm) := cell_at hq' rfl
  clear hO hO' hq hq' hs hr
  generalize unE o.pr.nm.toList rc = z at *
  generalize errV z = E at *
  generalize unL o.pr.nm.toList rc = r' at *
  obtain ⟨wh, nd, ⟨nm, pt, pn, ps⟩, te⟩ := o
  simp only at x4 c'
  go_enter Try.func43, Try.ntmps43
  go_wp2_with (first | (go_at_call 44; refine c'.mono ?_; rintro e W2 ⟨a, l, c, rfl, h1, hB2⟩))
  go_ret2
  exact ⟨a, l, c, rfl, h1, hB2⟩
end Go.Proofs.Ytidmfdbckpficaa

/-
  The walk of delta.addTie.
-/
namespace Go.Proofs.Ytidmfdbckpficaa
open Go.RowKit
set_option linter.unusedVariables false
set_option linter.unusedSimpArgs false

/-- The error of a tie more. -/
def bindE (t : Te) (T : List Te) : Int := if gErr [] [t] = 0 then (if fndT t T = true then 7 else if T.length = 120 then 4 else 0) else gErr [] [t]
/-- With a tie more. -/
def bindT (t : Te) (T : List Te) : List Te := T.take (loT t T) ++ t :: T.drop (loT t T)
abbrev atW (w : World) (t : Te) : World := (w.alloc (.cells #[.string t.bd, .int .i64 t.fr, .int .i64 t.tt] 40)).alloc (.cells #[.string t.bd, .int .i64 t.fr, .int .i64 t.tt] 40)
theorem atW_1 (w : World) (t : Te) : (atW w t).heap[w.heap.size + 1]? = some (.cells #[.string t.bd, .int .i64 t.fr, .int .i64 t.tt] 40 (0, 0)) := by
  have := heap_alloc_new (w.alloc (.cells #[.string t.bd, .int .i64 t.fr, .int .i64 t.tt] 40)) (.cells #[.string t.bd, .int .i64 t.fr, .int .i64 t.tt] 40)
  rwa [World.size_alloc] at this
theorem atW_isT (w : World) (t : Te) : IsT (atW w t) (.slice (some ⟨w.heap.size + 1, 0, none⟩) 1 1) [t] := by
  refine ⟨_, 1, rfl, Nat.le_refl _, .inr ⟨w.heap.size + 1, 0, rfl, by simp [atW], fun k x hx => ?_⟩⟩
  obtain ⟨rfl, rfl⟩ : k = 0 ∧ t = x := by
    have := (List.getElem?_eq_some_iff.1 hx).1
    have hk : k = 0 := by simp at this; exact this
    subst hk
    exact ⟨rfl, by simpa using hx⟩
  exact ⟨cell_at (atW_1 w t) rfl, cell_at (atW_1 w t) rfl, cell_at (atW_1 w t) rfl⟩
theorem isN_nil (w : World) : IsN w (.slice none 0 0) [] := ⟨none, 0, rfl, Nat.le_refl _, .inl rfl⟩

set_option maxHeartbeats 4000000 in
set_option maxRecDepth 100000 in
theorem addTie_any {w : World} {base p : Nat} {N : List Nd} {T : List Te} (h : OG w base p N T) (hbw : base ≤ w.heap.size) (hs : SrtT T) (h120 : T.length ≤ 120) (t : Te) (zt : t.bd.size ≤ maxLen) :
    Calls Try.prog 45 #[.pointer (some ⟨p, 0, none⟩), t.one] w fun e w' => e = .returned (errV (bindE t T)) ∧ (bindE t T = 0 → OG w' base p N (bindT t T)) ∧ Below base w w' := by
  obtain ⟨vn, vt, hbp, hpb, hN, hT⟩ := h
  have D : OGv w base p vn vt N T := ⟨hbp, hpb, hN, hT⟩
  have hBA : Below w.heap.size w (atW w t) := b_alloc (b_alloc (Below.refl _ _) _) _
  have cG := gcheck_any (isN_nil (atW w t)) (atW_isT w t) (fun n hn => by cases hn) (fun x hx => by simp at hx; subst hx; exact zt) (by show 0 ≤ maxLen; decide) (by show 1 ≤ maxLen; decide)
  obtain ⟨W0, hW0⟩ : ∃ W0, W0 = w.alloc (.cells #[.string t.bd, .int .i64 t.fr, .int .i64 t.tt] 40) := ⟨_, rfl⟩
  have hB0 : Below w.heap.size w W0 := by rw [hW0]; exact b_alloc (Below.refl _ _) _
  have hi0 : W0.heap[w.heap.size]? = some (.cells #[.string t.bd, .int .i64 t.fr, .int .i64 t.tt] 40 (0, 0)) := by rw [hW0]; exact heap_alloc_new w _
  have D0 := D.on hB0
  have hpl := D.pl
  obtain ⟨an, cn, hvn⟩ := own_slice hN.1
  obtain ⟨am, cm, hvt⟩ := own_slice hT
  subst hvn hvt
  have hs0 : W0.heap.size = w.heap.size + 1 := by rw [hW0]; simp
  unfold atW at cG hBA
  rw [← hW0] at cG hBA
  have x1 : W0.cell? ⟨w.heap.size, 0, none⟩ = some (.string t.bd) := cell_at hi0 rfl
  have x2 : W0.cell? ⟨w.heap.size, 1, none⟩ = some (.int .i64 t.fr) := cell_at hi0 rfl
  have x3 : W0.cell? ⟨w.heap.size, 2, none⟩ = some (.int .i64 t.tt) := cell_at hi0 rfl
  have HX : Hid (∀ W, Below W0.heap.size W0 W → OGv W base p (.slice an N.length cn) (.slice am T.length cm) N T ∧ W.heap[w.heap.size]? = some (.cells #[.string t.bd, .int .i64 t.fr, .int .i64 t.tt] 40 (0, 0)) ∧ Below w.heap.size w W) := fun W hB => ⟨D0.on hB, (hB.block _ (by omega)).trans hi0, on1K hB0 hB (Nat.le_refl _)⟩
  have HT : Hid (SrtT T ∧ T.length ≤ 120 ∧ ∀ W, IsT W (.slice am T.length cm) T → Calls Try.prog 63 #[.slice am T.length cm, t.one] W fun e w' => e = .returned (.tuple #[.int .i64 (loT t T), .bool (fndT t T)]) ∧ Below W.heap.size W w') := ⟨hs, h120, fun W hW => findTie_any hW hs (by omega) t⟩
  have hBX : Below W0.heap.size W0 (W0.alloc (.cells #[.string t.bd, .int .i64 t.fr, .int .i64 t.tt] 40)) := b_alloc (Below.refl _ _) _
  have HBX := Lib.hid hBX
  clear hpb hN hT hB0 hi0 D D0 hs hBA hBX
  have cF := fun W hW => HT.out.2.2 W hW
  by_cases hz : gErr [] [t] = 0
  · rw [hz, show errV 0 = .nilIface from rfl] at cG
    have hlo := loT_le t T
    have HL : Hid (bindT t T = T.take (loT t T) ++ t :: T.drop (loT t T)) := rfl
    cases hfd : fndT t T with
    | true =>
      have hE : bindE t T = 7 := by unfold bindE; rw [if_pos hz, if_pos hfd]
      rw [hE, show errV 7 = .iface 60 (.int .i64 7) from rfl]
      rw [hfd] at cF
      clear hz hE hfd
      obtain ⟨lo, hlo'⟩ : ∃ lo, lo = loT t T := ⟨_, rfl⟩
      rw [← hlo'] at cF hlo HL
      obtain ⟨bd, fr, tt⟩ := t
      simp only at x1 x2 x3 HX cG HBX
      clear hlo' zt HT
      go_enter Try.func45, Try.ntmps45
      go_upto_region 1 with fail
      rw [← hW0]
      clear hW0
      go_wp2_with (first | (go_at_call 11; refine cG.mono ?_; rintro e W1 ⟨rfl, hB1'⟩; refine Hid.out ?_))
      refine Lib.hid ?_
      have hB1 : Below W0.heap.size W0 W1 := on1K HBX.out hB1' (Nat.le_refl _)
      obtain ⟨D1, q1, b1⟩ := HX.out W1 hB1
      have y0 : W1.cell? ⟨p, 1, none⟩ = some (.slice am T.length cm) := cell_at D1.hp rfl
      have y1 : W1.cell? ⟨w.heap.size, 0, none⟩ = some (.string bd) := cell_at q1 rfl
      have y2 : W1.cell? ⟨w.heap.size, 1, none⟩ = some (.int .i64 fr) := cell_at q1 rfl
      have y3 : W1.cell? ⟨w.heap.size, 2, none⟩ = some (.int .i64 tt) := cell_at q1 rfl
      have cF1 := cF W1.drew D1.hT.isT
      have HB1 := Lib.hid hB1
      have HY : Hid (∀ W, Below W1.heap.size W1 W → W.cell? ⟨p, 1, none⟩ = some (.slice am T.length cm) ∧ W.cell? ⟨w.heap.size, 0, none⟩ = some (.string bd) ∧ W.cell? ⟨w.heap.size, 1, none⟩ = some (.int .i64 fr) ∧ W.cell? ⟨w.heap.size, 2, none⟩ = some (.int .i64 tt)) := fun W hB => by
        obtain ⟨D2, q2, _⟩ := HX.out W (on1K HB1.out hB (Nat.le_refl _))
        exact ⟨cell_at D2.hp rfl, cell_at q2 rfl, cell_at q2 rfl, cell_at q2 rfl⟩
      clear hB1 hB1' q1 b1 cG x1 x2 x3 HBX D1
      go_wp2
      first | (go_region_held (fun w' => w'.cell? ⟨p, 1, none⟩ = some (.slice am T.length cm) ∧ w'.cell? ⟨w.heap.size, 0, none⟩ = some (.string bd) ∧ w'.cell? ⟨w.heap.size, 1, none⟩ = some (.int .i64 fr) ∧ w'.cell? ⟨w.heap.size, 2, none⟩ = some (.int .i64 tt)) (go_keep) (first | (go_at_call 63; refine cF1.mono ?_; rintro e W2 ⟨rfl, hB2'⟩; have hB2 := b_undrew hB2'; clear hB2'; obtain ⟨z0, z1, z2, z3⟩ := HY.out W2 hB2))) | fail
      all_goals
        go_wp2
        go_ret
        exact ⟨rfl, fun h => (by cases h), (HX.out W2 (on1K HB1.out hB2 (Nat.le_refl _))).2.2.mono hbw⟩
    | false =>
      rw [hfd] at cF
      by_cases hfull : T.length = 120
      · have hE : bindE t T = 4 := by unfold bindE; rw [if_pos hz, hfd, if_neg (by decide), if_pos hfull]
        rw [hE, show errV 4 = .iface 60 (.int .i64 4) from rfl]
        clear hz hE hfd
        have hfb : ((T.length : Int) == 120) = true := by rw [hfull]; rfl
        clear hfull
        obtain ⟨lo, hlo'⟩ : ∃ lo, lo = loT t T := ⟨_, rfl⟩
        rw [← hlo'] at cF hlo HL
        obtain ⟨bd, fr, tt⟩ := t
        simp only at x1 x2 x3 HX cG HBX
        clear hlo' zt HT
        go_enter Try.func45, Try.ntmps45
        go_upto_region 1 with fail
        rw [← hW0]
        clear hW0
        go_wp2_with (first | (go_at_call 11; refine cG.mono ?_; rintro e W1 ⟨rfl, hB1'⟩; refine Hid.out ?_))
        refine Lib.hid ?_
        have hB1 : Below W0.heap.size W0 W1 := on1K HBX.out hB1' (Nat.le_refl _)
        obtain ⟨D1, q1, b1⟩ := HX.out W1 hB1
        have y0 : W1.cell? ⟨p, 1, none⟩ = some (.slice am T.length cm) := cell_at D1.hp rfl
        have y1 : W1.cell? ⟨w.heap.size, 0, none⟩ = some (.string bd) := cell_at q1 rfl
        have y2 : W1.cell? ⟨w.heap.size, 1, none⟩ = some (.int .i64 fr) := cell_at q1 rfl
        have y3 : W1.cell? ⟨w.heap.size, 2, none⟩ = some (.int .i64 tt) := cell_at q1 rfl
        have cF1 := cF W1.drew D1.hT.isT
        have HB1 := Lib.hid hB1
        have HY : Hid (∀ W, Below W1.heap.size W1 W → W.cell? ⟨p, 1, none⟩ = some (.slice am T.length cm) ∧ W.cell? ⟨w.heap.size, 0, none⟩ = some (.string bd) ∧ W.cell? ⟨w.heap.size, 1, none⟩ = some (.int .i64 fr) ∧ W.cell? ⟨w.heap.size, 2, none⟩ = some (.int .i64 tt)) := fun W hB => by
          obtain ⟨D2, q2, _⟩ := HX.out W (on1K HB1.out hB (Nat.le_refl _))
          exact ⟨cell_at D2.hp rfl, cell_at q2 rfl, cell_at q2 rfl, cell_at q2 rfl⟩
        clear hB1 hB1' q1 b1 cG x1 x2 x3 HBX D1
        go_wp2
        first | (go_region_held (fun w' => w'.cell? ⟨p, 1, none⟩ = some (.slice am T.length cm) ∧ w'.cell? ⟨w.heap.size, 0, none⟩ = some (.string bd) ∧ w'.cell? ⟨w.heap.size, 1, none⟩ = some (.int .i64 fr) ∧ w'.cell? ⟨w.heap.size, 2, none⟩ = some (.int .i64 tt)) (go_keep) (first | (go_at_call 63; refine cF1.mono ?_; rintro e W2 ⟨rfl, hB2'⟩; have hB2 := b_undrew hB2'; clear hB2'; obtain ⟨z0, z1, z2, z3⟩ := HY.out W2 hB2))) | fail
        all_goals
          go_wp2
          go_ret
          exact ⟨rfl, fun h => (by cases h), (HX.out W2 (on1K HB1.out hB2 (Nat.le_refl _))).2.2.mono hbw⟩
      · have hE : bindE t T = 0 := by unfold bindE; rw [if_pos hz, hfd, if_neg (by decide), if_neg hfull]
        rw [hE, show errV 0 = .nilIface from rfl]
        clear hz hE hfd
        have hfi : ¬ ((T.length : Int) = 120) := by omega
        generalize hBT : bindT t T = BT at *
        obtain ⟨lo, hlo'⟩ : ∃ lo, lo = loT t T := ⟨_, rfl⟩
        rw [← hlo'] at cF hlo HL
        obtain ⟨bd, fr, tt⟩ := t
        simp only at x1 x2 x3 HX cG HBX
        clear hlo' zt HT
        go_enter Try.func45, Try.ntmps45
        go_upto_region 1 with fail
        rw [← hW0]
        clear hW0
        go_wp2_with (first | (go_at_call 11; refine cG.mono ?_; rintro e W1 ⟨rfl, hB1'⟩; refine Hid.out ?_))
        refine Lib.hid ?_
        have hB1 : Below W0.heap.size W0 W1 := on1K HBX.out hB1' (Nat.le_refl _)
        obtain ⟨D1, q1, b1⟩ := HX.out W1 hB1
        have y0 : W1.cell? ⟨p, 1, none⟩ = some (.slice am T.length cm) := cell_at D1.hp rfl
        have y1 : W1.cell? ⟨w.heap.size, 0, none⟩ = some (.string bd) := cell_at q1 rfl
        have y2 : W1.cell? ⟨w.heap.size, 1, none⟩ = some (.int .i64 fr) := cell_at q1 rfl
        have y3 : W1.cell? ⟨w.heap.size, 2, none⟩ = some (.int .i64 tt) := cell_at q1 rfl
        have cF1 := cF W1.drew D1.hT.isT
        have HB1 := Lib.hid hB1
        have HY : Hid (∀ W, Below W1.heap.size W1 W → W.cell? ⟨p, 1, none⟩ = some (.slice am T.length cm) ∧ W.cell? ⟨w.heap.size, 0, none⟩ = some (.string bd) ∧ W.cell? ⟨w.heap.size, 1, none⟩ = some (.int .i64 fr) ∧ W.cell? ⟨w.heap.size, 2, none⟩ = some (.int .i64 tt)) := fun W hB => by
          obtain ⟨D2, q2, _⟩ := HX.out W (on1K HB1.out hB (Nat.le_refl _))
          exact ⟨cell_at D2.hp rfl, cell_at q2 rfl, cell_at q2 rfl, cell_at q2 rfl⟩
        clear hB1 hB1' q1 b1 cG x1 x2 x3 HBX D1
        go_wp2
        first | (go_region_held (fun w' => w'.cell? ⟨p, 1, none⟩ = some (.slice am T.length cm) ∧ w'.cell? ⟨w.heap.size, 0, none⟩ = some (.string bd) ∧ w'.cell? ⟨w.heap.size, 1, none⟩ = some (.int .i64 fr) ∧ w'.cell? ⟨w.heap.size, 2, none⟩ = some (.int .i64 tt)) (go_keep) (first | (go_at_call 63; refine cF1.mono ?_; rintro e W2 ⟨rfl, hB2'⟩; have hB2 := b_undrew hB2'; clear hB2'; obtain ⟨z0, z1, z2, z3⟩ := HY.out W2 hB2))) | fail
        all_goals
          obtain ⟨D2, q2, b2⟩ := HX.out W2 (on1K HB1.out hB2 (Nat.le_refl _))
          have hX2 : Below W2.heap.size W2 (W2.drew.alloc (.cells #[.string bd, .int .i64 fr, .int .i64 tt] 40)) := b_alloc (b_drew (Below.refl _ W2)) _
          have D3 := D2.on hX2
          have cI := insertT_any D3.hT lo hlo W2.heap.size ⟨bd, fr, tt⟩ (heap_alloc_new W2.drew _) (fun e => by have := (World.ownsRow.lt D2.hT _ e).2; exact absurd this (Nat.lt_irrefl _)) (Nat.le_trans (Nat.le_trans hbw b2.size) hX2.size) (by omega)
          have HB3 : Hid (Below w.heap.size w (W2.drew.alloc (.cells #[.string bd, .int .i64 fr, .int .i64 tt] 40)) ∧ OGv (W2.drew.alloc (.cells #[.string bd, .int .i64 fr, .int .i64 tt] 40)) base p (.slice an N.length cn) (.slice am T.length cm) N T) := ⟨on1K b2 hX2 (Nat.le_refl _), D3⟩
          have hp2 : p < W2.heap.size := D2.pl
          have w0 := cell_old (w := W2.drew) z0
          have w1 := cell_old (w := W2.drew) z1
          have w2 := cell_old (w := W2.drew) z2
          have w3 := cell_old (w := W2.drew) z3
          clear D2 q2 b2 hX2 D3 HX HY cF cF1
          go_wp2
          first | (go_region_law (first | (go_simp; go_at_call 64; refine cI.mono ?_; rintro e W3 ⟨v3, rfl, ho3, hg3⟩; obtain ⟨a3, c3, hv3⟩ := own_slice ho3; subst hv3; have hp3 := HB3.out.2.pT hg3; have t0 : W3.cell? ⟨p, 1, none⟩ = some (.slice am T.length cm) := cell_at hp3 rfl; have g0 : W3.frozen? ⟨p, 1, none⟩ = false := frz_at hp3; have HO := Lib.hid (And.intro ho3 hg3); clear ho3 hg3 hp3))) | fail
          all_goals
            go_wp2
            go_ret
            refine ⟨rfl, fun _ => ?_, (below_row (HB3.out.1.mono hbw) HB3.out.2.hT HO.out.2 (Nat.le_refl _) (Nat.le_trans hbw HB3.out.1.size)).setCell hbp _⟩
            rw [HL.out]
            have e : (T.take lo ++ (⟨bd, fr, tt⟩ : Te) :: T.drop lo).length = lo + (T.length - lo + 1) := by simp; omega
            have hh := (OGv.ties HB3.out.2 HO.out.2 HO.out.1).og
            rw [e] at hh
            exact hh
  · have hE : bindE t T = gErr [] [t] := by unfold bindE; rw [if_neg hz]
    rw [hE]
    rw [errV_ne hz] at cG ⊢
    obtain ⟨z, hzz⟩ : ∃ z, z = gErr [] [t] := ⟨_, rfl⟩
    rw [← hzz] at cG hz ⊢
    clear hE hzz cF zt
    obtain ⟨bd, fr, tt⟩ := t
    simp only at x1 x2 x3 HX cG HBX
    have HZ := Lib.hid hz
    clear hz HT
    go_enter Try.func45, Try.ntmps45
    go_upto_region 1 with fail
    rw [← hW0]
    clear hW0
    go_wp2_with (first | (go_at_call 11; refine cG.mono ?_; rintro e W1 ⟨rfl, hB1⟩))
    go_ret
    exact ⟨rfl, fun h => absurd h HZ.out, (HX.out W1 (on1K HBX.out hB1 (Nat.le_refl _))).2.2.mono hbw⟩
end Go.Proofs.Ytidmfdbckpficaa
