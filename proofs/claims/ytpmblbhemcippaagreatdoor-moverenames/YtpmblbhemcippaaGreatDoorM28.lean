/-
  The walk of change.write: a kind and a bond that are added.
-/
import Derived.Test.YtpmblbhemcippaaGreatDoorM27
namespace Go.Proofs.YtpmblbhemcippaaGreatDoor
open Go.RowKit
set_option linter.unusedVariables false
set_option linter.unusedSimpArgs false

set_option maxHeartbeats 8000000 in
set_option maxRecDepth 100000 in
theorem write_5 {w : World} {base p : Nat} {L : List Kd} {B : List Bd} (h : OSc w base p L B) (hbase : base ≤ w.heap.size) (hs : (sErr L B).2 = 0) (c : Ch) (hc : ChIs w c) (hw : c.wh = 5) :
    Calls Tryz.prog 49 #[.pointer (some ⟨p, 0, none⟩), c.one] w (WrP w base p 0 L (B ++ [c.bd])) := by
  obtain ⟨i0, hi0, hz0, hz1, hz2⟩ := info_parts infoBdI
  obtain ⟨wh, nm, ⟨kn, ko, kf, vo, vf⟩, ⟨bn, bf, bt, mn, mx⟩, ⟨fn, ft, fm, fk⟩, vt, vn, vs, tn⟩ := c
  obtain ⟨ao, lo1, co, q1⟩ := hc.1.sl
  obtain ⟨af, lf1, cf, q2⟩ := hc.2.sl
  simp only at q1 q2 hw ⊢
  subst q1 q2
  obtain ⟨W0, hW0⟩ : ∃ W0, W0 = w.alloc (.cells #[.int .i64 wh, .string (bs nm), .string (bs kn), .slice ao lo1 co, .slice af lf1 cf, .string (bs bn), .string (bs bf), .string (bs bt), .int .i64 mn, .int .i64 mx, .string (bs fn), .int .i64 ft, .bool fm, .bool fk, .int .i64 vt, .int .i64 vn, .string (bs vs), .string (bs tn)] 38) := ⟨_, rfl⟩
  have hB0 : Below w.heap.size w W0 := by rw [hW0]; exact b_alloc (Below.refl _ _) _
  have n0 := heap_alloc_new w (.cells #[.int .i64 wh, .string (bs nm), .string (bs kn), .slice ao lo1 co, .slice af lf1 cf, .string (bs bn), .string (bs bf), .string (bs bt), .int .i64 mn, .int .i64 mx, .string (bs fn), .int .i64 ft, .bool fm, .bool fk, .int .i64 vt, .int .i64 vn, .string (bs vs), .string (bs tn)] 38)
  rw [← hW0] at n0
  subst hw
  obtain ⟨hG, hl, hb12⟩ := good_of hs
  obtain ⟨vk, vb, hp, hX, hK, hA, hT⟩ := h.on hB0
  obtain ⟨a, cp, rfl⟩ := own_slice hT
  obtain ⟨W1, hW1⟩ : ∃ W1, W1 = (W0.alloc (.cells #[.string (bs bn), .string (bs bf), .string (bs bt), .int .i64 mn, .int .i64 mx] 34)).drew := ⟨_, rfl⟩
  have hB1 : Below W0.heap.size W0 W1 := by rw [hW1]; exact (b_alloc (Below.refl _ _) _).drew
  have hpl := (Array.getElem?_eq_some_iff.1 hX).1
  have hX1 := (hB1.block p hpl).trans hX
  have hK1 := hK.kt (.of_below hB1) (.of_below hB1) (.of_below hB1)
  have hT1 : OwnBs W1 base (.slice a B.length cp) B := own_kt hT (.of_below hB1)
  have hbs : base ≤ W1.heap.size := Nat.le_trans hbase (Nat.le_trans hB0.size hB1.size)
  have n1 : W1.heap[W0.heap.size]? = some (.cells #[.string (bs bn), .string (bs bf), .string (bs bt), .int .i64 mn, .int .i64 mx] 34 (0, 0)) := by rw [hW1]; exact heap_alloc_new W0 _
  have HA : Hid (∀ ty, ∃ v' w', (Builtin.append_ #[44, 44] ty #[.slice a B.length cp, .slice (some ⟨W0.heap.size, 0, none⟩) 1 1]).run Tryz.prog W1 = .ok v' w' ∧ ((∃ a' c', v' = .slice a' (B.length + 1) c') ∧ (w'.cell? ⟨p, 1, none⟩ = some (.slice a B.length cp) ∧ w'.frozen? ⟨p, 1, none⟩ = false) ∧ OSc (w'.setCell ⟨p, 1, none⟩ v') base p L (B ++ [⟨bn, bf, bt, mn, mx⟩]) ∧ Below base w (w'.setCell ⟨p, 1, none⟩ v'))) := fun ty => by
    obtain ⟨v', w', r1, r2, r3, _⟩ := run_append_own (P := Tryz.prog) W1 base 44 ty 34 i0 _ 5 64 Tryz.underlying44 hi0 hz0 hz1 hz2 rfl (by decide) (.slice a B.length cp) B.length (cellsBd B) hT1 ⟨W0.heap.size, 0, none⟩ 1 1 [.string (bs bn), .string (bs bf), .string (bs bt), .int .i64 mn, .int .i64 mx] rfl (fun j u hu => by
      rw [Addr.add_lit, Nat.zero_add, cell_of_row W1 W0.heap.size j _ 34 (0, 0) n1]
      simpa using hu) (by simp [Value.oneCell']) (by unfold maxLen; omega) (by omega) hbs
    have r2' : OwnBs w' base v' (B ++ [⟨bn, bf, bt, mn, mx⟩]) := by
      unfold OwnBs
      rw [List.length_append, show cellsBd (B ++ [(⟨bn, bf, bt, mn, mx⟩ : Bd)]) = cellsBd B ++ [.string (bs bn), .string (bs bf), .string (bs bt), .int .i64 mn, .int .i64 mx] by simp [cellsBd, Bd.cells]]
      exact r2
    obtain ⟨s1, s2, s3⟩ := osc_setB hp hX1 hK1 hA hT1 hbs r3 r2'
    exact ⟨v', w', r1, own_slice r2, s1, s2, ((on1K hB0 hB1 (Nat.le_refl _)).mono hbase).trans s3⟩
  have d0 : W0.cell? ⟨w.heap.size, 0, none⟩ = some (.int .i64 5) := cell_at n0 rfl
  have d5 : W0.cell? ⟨w.heap.size, 5, none⟩ = some (.string (bs bn)) := cell_at n0 rfl
  have d6 : W0.cell? ⟨w.heap.size, 6, none⟩ = some (.string (bs bf)) := cell_at n0 rfl
  have d7 : W0.cell? ⟨w.heap.size, 7, none⟩ = some (.string (bs bt)) := cell_at n0 rfl
  have d8 : W0.cell? ⟨w.heap.size, 8, none⟩ = some (.int .i64 mn) := cell_at n0 rfl
  have d9 : W0.cell? ⟨w.heap.size, 9, none⟩ = some (.int .i64 mx) := cell_at n0 rfl
  have dp : W0.cell? ⟨p, 1, none⟩ = some (.slice a B.length cp) := cell_at hX rfl
  have da : ∀ o, (W0.alloc o).cell? ⟨p, 1, none⟩ = some (.slice a B.length cp) := fun o => ((b_alloc (Below.refl _ W0) o).cell (p := ⟨p, 1, none⟩) hpl).trans dp
  have HW1 := Lib.hid hW1
  clear h hs n0 hB0 hc hX hK hA hT hB1 hX1 hK1 hT1 n1 hW1 hbs hG hi0 hz0 hz1 hz2
  rw [HW1.out] at HA
  go_enter Tryz.func49, Tryz.ntmps49
  go_upto_region 1 with fail
  rw [← hW0]
  clear hW0
  go_wp2
  go_region_law (refine step_append_E rfl (.tmp 47) (.tmp 50) 44 rfl (.slice a B.length cp) (.slice (some ⟨W0.heap.size, 0, none⟩) 1 1) (by simp [Act.eval, Act.put]) (by simp [Act.eval, Act.put]) (HA.out _) ?_; rintro v1 w1 ⟨⟨a', c', rfl⟩, ⟨z0, z1⟩, z2⟩; have HZ := Lib.hid z2; clear z2)
  all_goals go_wp2
  all_goals go_ret
  all_goals exact ⟨rfl, fun _ => ⟨_, HZ.out.1, rfl⟩, HZ.out.2⟩
set_option maxHeartbeats 8000000 in
set_option maxRecDepth 100000 in
theorem write_1 {w : World} {base p : Nat} {L : List Kd} {B : List Bd} (h : OSc w base p L B) (hbase : base ≤ w.heap.size) (hs : (sErr L B).2 = 0) (c : Ch) (hc : ChIs w c) (hz : ChSz c) (hw : c.wh = 1) :
    Calls Tryz.prog 49 #[.pointer (some ⟨p, 0, none⟩), c.one] w (WrP w base p 0 (L ++ [c.kd]) B) := by
  obtain ⟨i0, hi0, hz0, hz1, hz2⟩ := info_parts infoKd
  obtain ⟨wh, nm, ⟨kn, ko, kf, vo, vf⟩, ⟨bn, bf, bt, mn, mx⟩, ⟨fn, ft, fm, fk⟩, vt, vn, vs, tn⟩ := c
  obtain ⟨ao, lo1, co, q1⟩ := hc.1.sl
  obtain ⟨af, lf1, cf, q2⟩ := hc.2.sl
  simp only at q1 q2 hw ⊢
  subst q1 q2
  obtain ⟨W0, hW0⟩ : ∃ W0, W0 = w.alloc (.cells #[.int .i64 wh, .string (bs nm), .string (bs kn), .slice ao lo1 co, .slice af lf1 cf, .string (bs bn), .string (bs bf), .string (bs bt), .int .i64 mn, .int .i64 mx, .string (bs fn), .int .i64 ft, .bool fm, .bool fk, .int .i64 vt, .int .i64 vn, .string (bs vs), .string (bs tn)] 38) := ⟨_, rfl⟩
  have hB0 : Below w.heap.size w W0 := by rw [hW0]; exact b_alloc (Below.refl _ _) _
  have n0 := heap_alloc_new w (.cells #[.int .i64 wh, .string (bs nm), .string (bs kn), .slice ao lo1 co, .slice af lf1 cf, .string (bs bn), .string (bs bf), .string (bs bt), .int .i64 mn, .int .i64 mx, .string (bs fn), .int .i64 ft, .bool fm, .bool fk, .int .i64 vt, .int .i64 vn, .string (bs vs), .string (bs tn)] 38)
  rw [← hW0] at n0
  subst hw
  obtain ⟨hG, hl, hb12⟩ := good_of hs
  obtain ⟨vk, vb, hp, hX, hK, hA, hT⟩ := h.on hB0
  obtain ⟨a, cp, rfl⟩ := own_slice hK.1
  obtain ⟨W1, hW1⟩ : ∃ W1, W1 = W0.alloc (.cells #[.string (bs kn), .slice ao lo1 co, .slice af lf1 cf] 32) := ⟨_, rfl⟩
  have hB1 : Below W0.heap.size W0 W1 := by rw [hW1]; exact b_alloc (Below.refl _ _) _
  have hpl := (Array.getElem?_eq_some_iff.1 hX).1
  have n1 : W1.heap[W0.heap.size]? = some (.cells #[.string (bs kn), .slice ao lo1 co, .slice af lf1 cf] 32 (0, 0)) := by rw [hW1]; exact heap_alloc_new W0 _
  have hcs := (hc.on hB0).on hB1
  have cS := scopy_any (L := [⟨kn, ko, kf, .slice ao lo1 co, .slice af lf1 cf⟩]) (B := []) (w := W1) (vk := .slice (some ⟨W0.heap.size, 0, none⟩) 1 1) (vb := .slice none 0 0) (.inr ⟨W0.heap.size, 0, 1, rfl, Nat.le_refl _, by unfold maxLen; omega, (Array.getElem?_eq_some_iff.1 n1).1, fun i k hk => by
      obtain ⟨hi, e⟩ := List.getElem?_eq_some_iff.1 hk
      have hi0 : i = 0 := by simp only [List.length_singleton] at hi; omega
      subst hi0
      simp only [List.getElem_cons_zero] at e
      subst e
      exact ⟨cell_at n1 rfl, cell_at n1 rfl, cell_at n1 rfl⟩⟩) (fun k hk => by
      have e : k = ⟨kn, ko, kf, .slice ao lo1 co, .slice af lf1 cf⟩ := by simpa using hk
      subst e
      exact hcs) (.inl ⟨rfl, rfl⟩) (by simp) (by simp) (fun k hk => by
      have e : k = ⟨kn, ko, kf, .slice ao lo1 co, .slice af lf1 cf⟩ := by simpa using hk
      subst e
      exact hz.2.1)
  have HS : Hid (∀ w2 uk ub M, M.map kq3 = [(⟨kn, ko, kf, .slice ao lo1 co, .slice af lf1 cf⟩ : Kd)].map kq3 → OwnKs w2 W1.heap.size uk M → Below W1.heap.size W1 w2 → ∀ (W3 : World), W3 = (w2.alloc (.cells #[uk, ub] 46)).drew → (∃ g c2, uk = .slice (some ⟨g, 0, none⟩) 1 c2) ∧ ∀ ty, ∃ v' w', (Builtin.append_ #[43, 43] ty #[.slice a L.length cp, uk]).run Tryz.prog W3 = .ok v' w' ∧ ((∃ a' c', v' = .slice a' (L.length + 1) c') ∧ (w'.cell? ⟨p, 0, none⟩ = some (.slice a L.length cp) ∧ w'.frozen? ⟨p, 0, none⟩ = false) ∧ (∃ N, OSc (w'.setCell ⟨p, 0, none⟩ v') base p N B ∧ N.map kq3 = (L ++ [(⟨kn, ko, kf, .slice ao lo1 co, .slice af lf1 cf⟩ : Kd)]).map kq3) ∧ Below base w (w'.setCell ⟨p, 0, none⟩ v'))) := fun w2 uk ub M hM hK2 hB2 W3 hW3 => by
    obtain ⟨k', rfl⟩ : ∃ k', M = [k'] := by
      have hl := congrArg List.length hM
      simp only [List.length_map, List.length_singleton] at hl
      match M, hl with
      | [k'], _ => exact ⟨k', rfl⟩
    obtain ⟨g, c2, rfl⟩ := hK2.at (by simp)
    refine ⟨⟨g, c2, rfl⟩, fun ty => ?_⟩
    have hB3 : Below w2.heap.size w2 W3 := by rw [hW3]; exact (b_alloc (Below.refl _ _) _).drew
    have hB13 := on1K hB2 hB3 (Nat.le_refl _)
    have hB03 := on1K hB1 hB13 (Nat.le_refl _)
    have hK3 := hK.kt (.of_below hB03) (.of_below hB03) (.of_below hB03)
    have hT3 : OwnBs W3 base vb B := own_kt hT (.of_below hB03)
    have hN3 := hK2.kt (.of_below hB3) (.of_below hB3) (.of_below hB3)
    have hbs : base ≤ W3.heap.size := Nat.le_trans hbase (Nat.le_trans hB0.size hB03.size)
    have hb1 : base ≤ W1.heap.size := Nat.le_trans hbase (Nat.le_trans hB0.size hB1.size)
    obtain ⟨v', w', r1, r2, r3, _⟩ := run_append_own (P := Tryz.prog) W3 base 43 ty 32 i0 _ 3 64 Tryz.underlying43 hi0 hz0 hz1 hz2 rfl (by decide) (.slice a L.length cp) L.length (cellsK L) hK3.1 ⟨g, 0, none⟩ 1 c2 (cellsK [k']) rfl (fun j u hu => World.ownsRow.cells hN3.1 (g := g) rfl j u hu) hN3.one (by unfold maxLen; omega) (by omega) hbs
    have r2' : w'.ownsRow base 32 3 v' (L ++ [k']).length (cellsK (L ++ [k'])) := by
      rw [List.length_append, cellsK_app]
      exact r2
    have hk' := hN3.2 k' (by simp)
    obtain ⟨s1, s2, s3⟩ := osc_setK (M := L ++ [k']) hp ((hB03.block p hpl).trans hX) hK3 (hA.snoc fun x hx g' hg1 hg2 => by
      have h1 := ((hK.2 x hx).2.lt g' hg1).2
      have h2 := (hk'.2.lt g' hg2).1
      have h3 := hB1.size
      omega) hT3 hbs r3 r2' (fun k hk => by
      rcases List.mem_append.1 hk with hk | hk
      · exact hK3.2 k hk
      · have e : k = k' := by simpa using hk
        rw [e]
        exact ⟨own_base hk'.1 hb1, own_base hk'.2 hb1⟩)
    exact ⟨v', w', r1, own_slice r2, s1, ⟨_, s2, by rw [List.map_append, List.map_append, hM]⟩, ((on1K hB0 hB03 (Nat.le_refl _)).mono hbase).trans s3⟩
  have HP : Hid (∀ W, Below W1.heap.size W1 W → W.cell? ⟨p, 0, none⟩ = some (.slice a L.length cp)) := fun W hb => cell_at (((on1K hB1 hb (Nat.le_refl _)).block p hpl).trans hX) rfl
  have d0 : W0.cell? ⟨w.heap.size, 0, none⟩ = some (.int .i64 1) := cell_at n0 rfl
  have d2 : W0.cell? ⟨w.heap.size, 2, none⟩ = some (.string (bs kn)) := cell_at n0 rfl
  have d3 : W0.cell? ⟨w.heap.size, 3, none⟩ = some (.slice ao lo1 co) := cell_at n0 rfl
  have d4 : W0.cell? ⟨w.heap.size, 4, none⟩ = some (.slice af lf1 cf) := cell_at n0 rfl
  have hpw : p < W1.heap.size := Nat.lt_of_lt_of_le hpl hB1.size
  rw [hW1] at cS
  have HW1 := Lib.hid hW1
  clear h hs n0 hB0 hc hX hK hA hT hB1 n1 hW1 hG hi0 hz0 hz1 hz2 hcs hz
  go_enter Tryz.func49, Tryz.ntmps49
  go_upto_region 1 with fail
  rw [← hW0]
  clear hW0
  go_wp2_with (go_at_call 30; refine cS.mono ?_; rintro e w2 ⟨uk, ub, M, rfl, hM, hK2, hT2, hB2, _⟩; rw [← HW1.out] at hK2 hB2; obtain ⟨a3, c3, rfl⟩ := own_slice hT2; obtain ⟨⟨g, c2, rfl⟩, hap⟩ := HS.out w2 uk (.slice a3 ([] : List Bd).length c3) M hM hK2 hB2 _ rfl; have y0 := HP.out w2 hB2; have HAp := Lib.hid hap; have HB2 := Lib.hid hB2; clear hap hM hK2 hT2 hB2)
  have hpz : ¬ p = w2.heap.size := by have := HB2.out.size; omega
  have da : ∀ o, (w2.alloc o).cell? ⟨p, 0, none⟩ = some (.slice a L.length cp) := fun o => ((b_alloc (Below.refl _ w2) o).cell (p := ⟨p, 0, none⟩) (by have := HB2.out.size; show p < _; omega)).trans y0
  go_region_law (refine step_append_E rfl (.tmp 19) (.tmp 21) 43 rfl (.slice a L.length cp) (.slice (some ⟨g, 0, none⟩) 1 c2) (by simp [Act.eval, Act.put]) (by simp [Act.eval, Act.put]) (HAp.out _) ?_; rintro v1 w1 ⟨⟨a', c', rfl⟩, ⟨z0, z1⟩, z2⟩; have HZ := Lib.hid z2; clear z2)
  all_goals go_wp2
  all_goals go_ret
  all_goals exact ⟨rfl, fun _ => HZ.out.1, HZ.out.2⟩
end Go.Proofs.YtpmblbhemcippaaGreatDoor

/-
  The walks of change.write, whole, and of change.apply.
-/
namespace Go.Proofs.YtpmblbhemcippaaGreatDoor
open Go.RowKit
set_option linter.unusedVariables false
set_option linter.unusedSimpArgs false

theorem write_any {w : World} {base p : Nat} {L : List Kd} {B : List Bd} (h : OSc w base p L B) (hbase : base ≤ w.heap.size) (hs : (sErr L B).2 = 0) (c : Ch) (hc : ChIs w c) (hz : ChSz c) :
    Calls Tryz.prog 49 #[.pointer (some ⟨p, 0, none⟩), c.one] w (WrP w base p (cE L B c) (cK L c) (cB B c)) := by
  by_cases h1 : c.wh = 1
  · have e1 : cE L B c = 0 := by unfold cE; rw [if_pos h1]
    have e2 : cK L c = L ++ [c.kd] := by unfold cK; rw [if_pos h1]
    have e3 : cB B c = B := by unfold cB; rw [h1]; rfl
    rw [e1, e2, e3]
    exact write_1 h hbase hs c hc hz h1
  by_cases h2 : c.wh = 2
  · have e1 : cE L B c = e2 L B c.nm := by unfold cE; rw [if_neg h1, if_pos h2]
    have e2 : cK L c = L.eraseIdx (nmAt L c.nm) := by unfold cK; rw [if_neg h1, if_pos h2]
    have e3 : cB B c = B := by unfold cB; rw [h2]; rfl
    rw [e1, e2, e3]
    exact write_2 h hbase hs c hc hz h2
  by_cases h3 : c.wh = 3
  · have e1 : cE L B c = e3 L c := by unfold cE; rw [if_neg h1, if_neg h2, if_pos h3]
    have e2 : cK L c = setFs L c.nm (insA (fdsAt L c.nm) c.fd) := by unfold cK; rw [if_neg h1, if_neg h2, if_pos h3]
    have e3 : cB B c = B := by unfold cB; rw [h3]; rfl
    rw [e1, e2, e3]
    exact write_3 h hbase hs c hc hz h3
  by_cases h4 : c.wh = 4
  · have e1 : cE L B c = e4 L c.nm c.fd.nm := by unfold cE; rw [if_neg h1, if_neg h2, if_neg h3, if_pos h4]
    have e2 : cK L c = setFs L c.nm ((fdsAt L c.nm).eraseIdx (lo c.fd.nm (fdsAt L c.nm))) := by unfold cK; rw [if_neg h1, if_neg h2, if_neg h3, if_pos h4]
    have e3 : cB B c = B := by unfold cB; rw [h4]; rfl
    rw [e1, e2, e3]
    exact write_4 h hbase hs c hc hz h4
  by_cases h5 : c.wh = 5
  · have e1 : cE L B c = 0 := by unfold cE; rw [if_neg h1, if_neg h2, if_neg h3, if_neg h4, if_pos h5]
    have e2 : cK L c = L := by unfold cK; rw [h5]; rfl
    have e3 : cB B c = B ++ [c.bd] := by unfold cB; rw [if_pos h5]
    rw [e1, e2, e3]
    exact write_5 h hbase hs c hc h5
  by_cases h6 : c.wh = 6
  · have e1 : cE L B c = e6 B c.nm := by unfold cE; rw [if_neg h1, if_neg h2, if_neg h3, if_neg h4, if_neg h5, if_pos h6]
    have e2 : cK L c = L := by unfold cK; rw [h6]; rfl
    have e3 : cB B c = B.eraseIdx (bAt B c.nm) := by unfold cB; rw [if_neg h5, if_pos h6]
    rw [e1, e2, e3]
    exact write_6 h hbase hs c hc hz h6
  by_cases h7 : c.wh = 7
  · have e1 : cE L B c = e7 L c.nm c.fd.nm c.tn := by unfold cE; rw [if_neg h1, if_neg h2, if_neg h3, if_neg h4, if_neg h5, if_neg h6, if_pos h7]
    have e2 : cK L c = setFs L c.nm (rnF (fdsAt L c.nm) c.fd.nm c.tn) := by unfold cK; rw [if_neg h1, if_neg h2, if_neg h3, if_neg h4, if_pos h7]
    have e3 : cB B c = B := by unfold cB; rw [h7]; rfl
    rw [e1, e2, e3]
    exact write_7 h hbase hs c hc hz h7
  by_cases h8 : c.wh = 8
  · have e1 : cE L B c = e6 B c.nm := by unfold cE; rw [if_neg h1, if_neg h2, if_neg h3, if_neg h4, if_neg h5, if_neg h6, if_neg h7, if_pos h8]
    have e2 : cK L c = L := by unfold cK; rw [h8]; rfl
    have e3 : cB B c = setR B c.nm c.bd.mn c.bd.mx := by unfold cB; rw [if_neg h5, if_neg h6, if_pos h8]
    rw [e1, e2, e3]
    exact write_8 h hbase hs c hc hz h8
  · have e1 : cE L B c = 1 := by unfold cE; rw [if_neg h1, if_neg h2, if_neg h3, if_neg h4, if_neg h5, if_neg h6, if_neg h7, if_neg h8]
    rw [e1]
    exact write_0 h hbase c hc h1 h2 h3 h4 h5 h6 h7 h8

/-! What a schema asks hangs on what its kinds say alone. -/
def Kd.cz (k : Kd) : Kd := ⟨k.nm, k.of, k.fs, .nilIface, .nilIface⟩
theorem idxK_c (nm : Nm) : ∀ (L : List Kd) (i : Nat), idxK nm (L.map Kd.cz) i = idxK nm L i
  | [], _ => rfl
  | k :: r, i => by
    rw [List.map_cons, idxK, idxK, idxK_c nm r]
    rfl
theorem oChk_c (A : List Kd) : ∀ (of seen : List Nm), oChk (A.map Kd.cz) seen of = oChk A seen of
  | [], _ => rfl
  | n :: r, seen => by rw [oChk, oChk, idxK_c, oChk_c A r]
theorem back_c : ∀ (L : List Kd) (ns : List Nm), back (L.map Kd.cz) ns = (back L ns).map Kd.cz
  | [], _ => rfl
  | k :: r, ns => by
    rw [List.map_cons, back, back]
    show (if hasN ns k.nm = true then k.cz :: back (r.map Kd.cz) (ns ++ k.of) else back (r.map Kd.cz) ns) = _
    rw [back_c r, back_c r]
    split <;> rfl
theorem kinOf_c (L : List Kd) : kinOf (L.map Kd.cz) = (kinOf L).map Kd.cz := by
  unfold kinOf
  rw [List.getLast?_map]
  cases L.getLast? with
  | none => rfl
  | some k =>
    show (back (L.map Kd.cz).reverse [k.nm]).reverse = ((back L.reverse [k.nm]).reverse).map Kd.cz
    rw [← List.map_reverse, back_c, List.map_reverse]
theorem fieldsOf_c (K : List Kd) : fieldsOf (K.map Kd.cz) = fieldsOf K := by
  unfold fieldsOf
  rw [List.flatMap_map]
  rfl
theorem kErr_c (A : List Kd) (k : Kd) : kErr (A.map Kd.cz) k.cz = kErr A k := by
  have e : kinOf (A.map Kd.cz ++ [k.cz]) = (kinOf (A ++ [k])).map Kd.cz := by rw [← kinOf_c, List.map_append]; rfl
  unfold kErr
  rw [show k.cz.nm = k.nm from rfl, show k.cz.of = k.of from rfl, show k.cz.fs = k.fs from rfl, idxK_c, oChk_c, e, fieldsOf_c]
theorem ksGo_c : ∀ (L A : List Kd), ksGo (A.map Kd.cz) (L.map Kd.cz) = ksGo A L
  | [], _ => rfl
  | k :: r, A => by
    rw [List.map_cons, ksGo, ksGo, kErr_c]
    have := ksGo_c r (A ++ [k])
    rw [List.map_append] at this
    rw [show A.map Kd.cz ++ [k.cz] = A.map Kd.cz ++ [k].map Kd.cz from rfl, this]
    rfl
theorem ksErr_c (L : List Kd) : ksErr (L.map Kd.cz) = ksErr L := by
  unfold ksErr
  rw [List.length_map]
  have := ksGo_c L []
  rw [show (([] : List Kd).map Kd.cz) = [] from rfl] at this
  rw [this]
theorem bErr_c (L : List Kd) (A : List Bd) (x : Bd) : bErr (L.map Kd.cz) A x = bErr L A x := by
  unfold bErr hasK
  rw [idxK_c, idxK_c]
theorem bsGo_c (L : List Kd) : ∀ (B A : List Bd), bsGo (L.map Kd.cz) A B = bsGo L A B
  | [], _ => rfl
  | x :: r, A => by rw [bsGo, bsGo, bErr_c, bsGo_c L r]
theorem sErr_c (L : List Kd) (B : List Bd) : sErr (L.map Kd.cz) B = sErr L B := by
  unfold sErr
  rw [ksErr_c, bsGo_c]
theorem cz_kq {L L' : List Kd} (h : L.map kq3 = L'.map kq3) : L.map Kd.cz = L'.map Kd.cz := by
  have e : ∀ M : List Kd, M.map Kd.cz = (M.map kq3).map fun q => ⟨q.1, q.2.1, q.2.2, .nilIface, .nilIface⟩ := fun M => by rw [List.map_map]; rfl
  rw [e, e, h]
theorem sErr_kq {L L' : List Kd} (h : L.map kq3 = L'.map kq3) (B : List Bd) : sErr L B = sErr L' B := by rw [← sErr_c L, ← sErr_c L', cz_kq h]
theorem SzK_kq {L L' : List Kd} (h : L.map kq3 = L'.map kq3) (hz : SzK L) : SzK L' := fun k hk => by
  have hm : kq3 k ∈ L'.map kq3 := List.mem_map.2 ⟨k, hk, rfl⟩
  rw [← h] at hm
  obtain ⟨x, hx, e⟩ := List.mem_map.1 hm
  have e1 : x.nm = k.nm := congrArg (fun q => q.1) e
  have e2 : x.fs = k.fs := congrArg (fun q => q.2.2) e
  rw [← e1, ← e2]
  exact hz x hx

/-! The names of a schema that is right are short; those of what comes are no longer than they may be. -/
theorem nErr_len {n : Nm} (h : nErr n = 0) : n.length ≤ maxLen := by
  unfold nErr at h
  split at h
  · exact absurd h (by decide)
  · split at h
    · exact absurd h (by decide)
    · unfold maxLen; omega
theorem fChk_sz : ∀ (l : List Fd) (o : Option Fd), fChk o l = 0 → ∀ f ∈ l, f.nm.length ≤ maxLen := by
  intro l
  induction l with
  | nil => intro o _ f hf; cases hf
  | cons g r ih =>
    intro o ho f hf
    unfold fChk at ho
    split at ho
    · rename_i hb
      rcases List.mem_cons.1 hf with rfl | hf
      · unfold fBad at hb
        split at hb
        · rename_i hn; exact nErr_len hn
        · rename_i hn; exact absurd hb hn
      · exact ih _ ho f hf
    · rename_i hb; exact absurd ho hb
theorem Good.sz {L : List Kd} (h : Good L) : SzK L := fun k hk => by
  obtain ⟨i, hi⟩ := List.getElem?_of_mem hk
  obtain ⟨h1, _, _, _, h5, _⟩ := kErr_zero (h i k hi)
  exact ⟨nErr_len h1, fChk_sz k.fs none h5⟩
theorem GoodB.sz {L : List Kd} {B : List Bd} (h : GoodB L B) : SzB B := fun x hx => by
  obtain ⟨i, hi⟩ := List.getElem?_of_mem hx
  exact nErr_len (bErr_zero (h i x hi)).1
theorem sz_setFs {L : List Kd} (h : SzK L) (n : Nm) {g : List Fd} (hg : ∀ f ∈ g, f.nm.length ≤ maxLen) : SzK (setFs L n g) := by
  unfold setFs
  split
  · rename_i k hk
    intro x hx
    rcases List.mem_or_eq_of_mem_set hx with hx | rfl
    · exact h x hx
    · exact ⟨(h k (List.mem_of_getElem? hk)).1, hg⟩
  · exact h
theorem sz_fdsAt {L : List Kd} (h : SzK L) (n : Nm) : ∀ f ∈ fdsAt L n, f.nm.length ≤ maxLen := by
  unfold fdsAt
  split
  · rename_i k hk; exact (h k (List.mem_of_getElem? hk)).2
  · intro f hf; cases hf
theorem mem_insA {l : List Fd} {f x : Fd} (h : x ∈ insA l f) : x ∈ l ∨ x = f := by
  unfold insA at h
  rcases List.mem_append.1 h with h | h
  · exact .inl (List.mem_of_mem_take h)
  · rcases List.mem_cons.1 h with h | h
    · exact .inr h
    · exact .inl (List.mem_of_mem_drop h)
theorem sz_cK {L : List Kd} (h : SzK L) (c : Ch) (hz : ChSz c) : SzK (cK L c) := by
  unfold cK
  split
  · intro x hx
    rcases List.mem_append.1 hx with hx | hx
    · exact h x hx
    · obtain rfl : x = c.kd := by simpa using hx
      exact hz.1
  · split
    · exact fun x hx => h x (List.mem_of_mem_eraseIdx hx)
    · split
      · refine sz_setFs h _ fun f hf => ?_
        rcases mem_insA hf with hf | rfl
        · exact sz_fdsAt h _ f hf
        · exact hz.2.2.2.1
      · split
        · exact sz_setFs h _ fun f hf => sz_fdsAt h _ f (List.mem_of_mem_eraseIdx hf)
        · split
          · refine sz_setFs h _ fun f hf => ?_
            unfold rnF at hf
            split at hf
            · rcases mem_insA hf with hf | rfl
              · exact sz_fdsAt h _ f (List.mem_of_mem_eraseIdx hf)
              · exact hz.2.2.2.2.2
            · exact sz_fdsAt h _ f hf
          · exact h
theorem sz_cB {B : List Bd} (h : SzB B) (c : Ch) (hz : ChSz c) : SzB (cB B c) := by
  unfold cB
  split
  · intro x hx
    rcases List.mem_append.1 hx with hx | hx
    · exact h x hx
    · obtain rfl : x = c.bd := by simpa using hx
      exact hz.2.2.1
  · split
    · exact fun x hx => h x (List.mem_of_mem_eraseIdx hx)
    · split
      · unfold setR
        split
        · rename_i y hy
          intro x hx
          rcases List.mem_or_eq_of_mem_set hx with hx | rfl
          · exact h x hx
          · exact h y (List.mem_of_getElem? hy)
        · exact h
      · exact h
def ApP (w : World) (base p : Nat) (L : List Kd) (B : List Bd) (c : Ch) (e : Ending) (w' : World) : Prop :=
  e = .returned (errV (apE L B c)) ∧ (apE L B c = 0 → ∃ M, OSc w' base p M (cB B c) ∧ M.map kq3 = (cK L c).map kq3) ∧ Below base w w'
set_option maxHeartbeats 4000000 in
set_option maxRecDepth 100000 in
theorem apply_any {w : World} {base p : Nat} {L : List Kd} {B : List Bd} (h : OSc w base p L B) (hbase : base ≤ w.heap.size) (hs : (sErr L B).2 = 0) (c : Ch) (hc : ChIs w c) (hz : ChSz c) :
    Calls Tryz.prog 31 #[.pointer (some ⟨p, 0, none⟩), c.one] w (ApP w base p L B c) := by
  have hsz : SzK (cK L c) ∧ SzB (cB B c) := by
    obtain ⟨g1, g2, _⟩ := sErr_good.1 hs
    exact ⟨sz_cK (ksErr_good.1 g1).1.sz c hz, sz_cB g2.sz c hz⟩
  obtain ⟨wh, nm, ⟨kn, ko, kf, vo, vf⟩, ⟨bn, bf, bt, mn, mx⟩, ⟨fn, ft, fm, fk⟩, vt, vn, vs, tn⟩ := c
  obtain ⟨ao, lo1, co, q1⟩ := hc.1.sl
  obtain ⟨af, lf1, cf, q2⟩ := hc.2.sl
  simp only at q1 q2 hsz ⊢
  subst q1 q2
  obtain ⟨W0, hW0⟩ : ∃ W0, W0 = w.alloc (.cells #[.int .i64 wh, .string (bs nm), .string (bs kn), .slice ao lo1 co, .slice af lf1 cf, .string (bs bn), .string (bs bf), .string (bs bt), .int .i64 mn, .int .i64 mx, .string (bs fn), .int .i64 ft, .bool fm, .bool fk, .int .i64 vt, .int .i64 vn, .string (bs vs), .string (bs tn)] 38) := ⟨_, rfl⟩
  have hB0 : Below w.heap.size w W0 := by rw [hW0]; exact b_alloc (Below.refl _ _) _
  have n0 := heap_alloc_new w (.cells #[.int .i64 wh, .string (bs nm), .string (bs kn), .slice ao lo1 co, .slice af lf1 cf, .string (bs bn), .string (bs bf), .string (bs bt), .int .i64 mn, .int .i64 mx, .string (bs fn), .int .i64 ft, .bool fm, .bool fk, .int .i64 vt, .int .i64 vn, .string (bs vs), .string (bs tn)] 38)
  rw [← hW0] at n0
  have hk := write_any (h.on hB0) (Nat.le_trans hbase hB0.size) hs ⟨wh, nm, ⟨kn, ko, kf, .slice ao lo1 co, .slice af lf1 cf⟩, ⟨bn, bf, bt, mn, mx⟩, ⟨fn, ft, fm, fk⟩, vt, vn, vs, tn⟩ (hc.on hB0) hz
  dsimp only [Ch.one] at hk
  have HN := Lib.hid n0
  have HB0 := Lib.hid hB0
  by_cases hx : cE L B ⟨wh, nm, ⟨kn, ko, kf, .slice ao lo1 co, .slice af lf1 cf⟩, ⟨bn, bf, bt, mn, mx⟩, ⟨fn, ft, fm, fk⟩, vt, vn, vs, tn⟩ = 0
  · have hap : apE L B ⟨wh, nm, ⟨kn, ko, kf, .slice ao lo1 co, .slice af lf1 cf⟩, ⟨bn, bf, bt, mn, mx⟩, ⟨fn, ft, fm, fk⟩, vt, vn, vs, tn⟩ = (sErr (cK L ⟨wh, nm, ⟨kn, ko, kf, .slice ao lo1 co, .slice af lf1 cf⟩, ⟨bn, bf, bt, mn, mx⟩, ⟨fn, ft, fm, fk⟩, vt, vn, vs, tn⟩) (cB B ⟨wh, nm, ⟨kn, ko, kf, .slice ao lo1 co, .slice af lf1 cf⟩, ⟨bn, bf, bt, mn, mx⟩, ⟨fn, ft, fm, fk⟩, vt, vn, vs, tn⟩)).2 := by unfold apE; rw [if_pos hx]
    have HS : Hid (∀ e w1, WrP W0 base p (cE L B ⟨wh, nm, ⟨kn, ko, kf, .slice ao lo1 co, .slice af lf1 cf⟩, ⟨bn, bf, bt, mn, mx⟩, ⟨fn, ft, fm, fk⟩, vt, vn, vs, tn⟩) (cK L ⟨wh, nm, ⟨kn, ko, kf, .slice ao lo1 co, .slice af lf1 cf⟩, ⟨bn, bf, bt, mn, mx⟩, ⟨fn, ft, fm, fk⟩, vt, vn, vs, tn⟩) (cB B ⟨wh, nm, ⟨kn, ko, kf, .slice ao lo1 co, .slice af lf1 cf⟩, ⟨bn, bf, bt, mn, mx⟩, ⟨fn, ft, fm, fk⟩, vt, vn, vs, tn⟩) e w1 → e = .returned .nilIface ∧ ∃ vk vb, w1.cell? ⟨p, 0, none⟩ = some vk ∧ w1.cell? ⟨p, 1, none⟩ = some vb ∧ (∃ a l c, vk = .slice a l c) ∧ (∃ a l c, vb = .slice a l c) ∧ Calls Tryz.prog 29 #[.agg #[vk, vb]] w1 fun e w' => (∃ z, e = .returned (.tuple #[z, errV (sErr (cK L ⟨wh, nm, ⟨kn, ko, kf, .slice ao lo1 co, .slice af lf1 cf⟩, ⟨bn, bf, bt, mn, mx⟩, ⟨fn, ft, fm, fk⟩, vt, vn, vs, tn⟩) (cB B ⟨wh, nm, ⟨kn, ko, kf, .slice ao lo1 co, .slice af lf1 cf⟩, ⟨bn, bf, bt, mn, mx⟩, ⟨fn, ft, fm, fk⟩, vt, vn, vs, tn⟩)).2])) ∧ ((∃ M, OSc w' base p M (cB B ⟨wh, nm, ⟨kn, ko, kf, .slice ao lo1 co, .slice af lf1 cf⟩, ⟨bn, bf, bt, mn, mx⟩, ⟨fn, ft, fm, fk⟩, vt, vn, vs, tn⟩) ∧ M.map kq3 = (cK L ⟨wh, nm, ⟨kn, ko, kf, .slice ao lo1 co, .slice af lf1 cf⟩, ⟨bn, bf, bt, mn, mx⟩, ⟨fn, ft, fm, fk⟩, vt, vn, vs, tn⟩).map kq3) ∧ Below base w w')) := fun e w1 hwr => by
      obtain ⟨r1, r2, r3⟩ := hwr
      obtain ⟨M, o, hM⟩ := r2 hx
      have o' := o
      obtain ⟨vk, vb, hp, hX, hK, hA, hT⟩ := o
      refine ⟨by rw [r1, hx, errV_0], vk, vb, cell_at hX rfl, cell_at hX rfl, ?_, ?_, ?_⟩
      · obtain ⟨a, c, e⟩ := own_slice hK.1; exact ⟨a, _, c, e⟩
      · obtain ⟨a, c, e⟩ := own_slice hT; exact ⟨a, _, c, e⟩
      · have := scheck_any hK.isK hK.parts (SzK_kq hM.symm hsz.1) hT.isB hsz.2
        refine this.mono ?_
        rintro e w' ⟨rfl, hB'⟩
        rw [sErr_kq hM]
        exact ⟨⟨_, rfl⟩, ⟨M, o'.on hB', hM⟩, (HB0.out.mono hbase).trans (r3.trans (hB'.mono (Nat.le_trans hp (Nat.le_of_lt (Array.getElem?_eq_some_iff.1 hX).1))))⟩
    unfold ApP
    rw [hap]
    generalize (sErr (cK L ⟨wh, nm, ⟨kn, ko, kf, .slice ao lo1 co, .slice af lf1 cf⟩, ⟨bn, bf, bt, mn, mx⟩, ⟨fn, ft, fm, fk⟩, vt, vn, vs, tn⟩) (cB B ⟨wh, nm, ⟨kn, ko, kf, .slice ao lo1 co, .slice af lf1 cf⟩, ⟨bn, bf, bt, mn, mx⟩, ⟨fn, ft, fm, fk⟩, vt, vn, vs, tn⟩)).2 = r at *
    generalize cE L B ⟨wh, nm, ⟨kn, ko, kf, .slice ao lo1 co, .slice af lf1 cf⟩, ⟨bn, bf, bt, mn, mx⟩, ⟨fn, ft, fm, fk⟩, vt, vn, vs, tn⟩ = ex at *
    generalize cK L ⟨wh, nm, ⟨kn, ko, kf, .slice ao lo1 co, .slice af lf1 cf⟩, ⟨bn, bf, bt, mn, mx⟩, ⟨fn, ft, fm, fk⟩, vt, vn, vs, tn⟩ = KK at *
    generalize cB B ⟨wh, nm, ⟨kn, ko, kf, .slice ao lo1 co, .slice af lf1 cf⟩, ⟨bn, bf, bt, mn, mx⟩, ⟨fn, ft, fm, fk⟩, vt, vn, vs, tn⟩ = BB at *
    clear h hs hc hz n0 hB0 hx hap hsz
    go_enter Tryz.func31, Tryz.ntmps31
    go_upto_region 1 with fail
    rw [← hW0]
    clear hW0
    go_wp2_with (first | (refine wpList_load_row rfl 38 (.tmp 3) rfl w.heap.size rfl 38 _ (0, 0) _ HN.out Tryz.underlying38 rfl info37 ?_) | (go_at_call 49; refine hk.mono ?_; intro e w1 hwr; obtain ⟨rfl, vk, vb, y0, y1, ⟨b1, b2, b3, rfl⟩, ⟨b4, b5, b6, rfl⟩, ck⟩ := HS.out e w1 hwr; clear hwr) | (go_at_call 29; refine ck.mono ?_; rintro e w2 ⟨⟨z, rfl⟩, z2⟩; have HZ := Lib.hid z2; clear z2))
    go_ret
    exact ⟨rfl, fun _ => HZ.out.1, HZ.out.2⟩
  · have hap : apE L B ⟨wh, nm, ⟨kn, ko, kf, .slice ao lo1 co, .slice af lf1 cf⟩, ⟨bn, bf, bt, mn, mx⟩, ⟨fn, ft, fm, fk⟩, vt, vn, vs, tn⟩ = cE L B ⟨wh, nm, ⟨kn, ko, kf, .slice ao lo1 co, .slice af lf1 cf⟩, ⟨bn, bf, bt, mn, mx⟩, ⟨fn, ft, fm, fk⟩, vt, vn, vs, tn⟩ := by unfold apE; rw [if_neg hx]
    unfold ApP
    rw [hap]
    have HX := Lib.hid hx
    have hk' : Calls Tryz.prog 49 _ W0 fun e w' => e = .returned (.iface 71 (.int .i64 (cE L B ⟨wh, nm, ⟨kn, ko, kf, .slice ao lo1 co, .slice af lf1 cf⟩, ⟨bn, bf, bt, mn, mx⟩, ⟨fn, ft, fm, fk⟩, vt, vn, vs, tn⟩))) ∧ Below base W0 w' := hk.mono fun e w' hwr => ⟨by rw [hwr.1, errV_ne hx], hwr.2.2⟩
    rw [errV_ne hx]
    generalize cE L B ⟨wh, nm, ⟨kn, ko, kf, .slice ao lo1 co, .slice af lf1 cf⟩, ⟨bn, bf, bt, mn, mx⟩, ⟨fn, ft, fm, fk⟩, vt, vn, vs, tn⟩ = ex at *
    clear h hs hc hz n0 hB0 hx hap hk hsz
    go_enter Tryz.func31, Tryz.ntmps31
    go_upto_region 1 with fail
    rw [← hW0]
    clear hW0
    go_wp2_with (first | (refine wpList_load_row rfl 38 (.tmp 3) rfl w.heap.size rfl 38 _ (0, 0) _ HN.out Tryz.underlying38 rfl info37 ?_) | (go_at_call 49; refine hk'.mono ?_; rintro e w1 ⟨rfl, hB1⟩))
    go_ret
    exact ⟨rfl, fun e => absurd e HX.out, (HB0.out.mono hbase).trans hB1⟩
end Go.Proofs.YtpmblbhemcippaaGreatDoor
