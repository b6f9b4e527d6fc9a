/-
  The walk of change.write: a kind and a bond that are added.
-/
import Derived.Test.YtkmkhadacppdnaaDoorChO
namespace Go.Proofs.YtkmkhadacppdnaaDoor
open Go.RowKit
set_option linter.unusedVariables false
set_option linter.unusedSimpArgs false

set_option maxHeartbeats 8000000 in
set_option maxRecDepth 100000 in
theorem write_5 {w : World} {base p : Nat} {L : List Kd} {B : List Bd} (h : OSc w base p L B) (hbase : base ≤ w.heap.size) (hs : (sErr L B).2 = 0) (c : Ch) (hc : ChIs w c) (hw : c.wh = 5) :
    Calls Tryd.prog 15 #[.pointer (some ⟨p, 0, none⟩), c.one] w (WrP w base p 0 L (B ++ [c.bd])) := by
  obtain ⟨i0, hi0, hz0, hz1, hz2⟩ := info_parts infoBdI
  obtain ⟨wh, nm, ⟨kn, ko, kf, vo, vf⟩, ⟨bn, bf, bt, mn, mx⟩, ⟨fn, ft, fm, fk⟩, vt, vn, vs, tn⟩ := c
  obtain ⟨ao, lo1, co, q1⟩ := hc.1.sl
  obtain ⟨af, lf1, cf, q2⟩ := hc.2.sl
  simp only at q1 q2 hw ⊢
  subst q1 q2
  obtain ⟨W0, hW0⟩ : ∃ W0, W0 = w.alloc (.cells #[.int .i64 wh, .string (bs nm), .string (bs kn), .slice ao lo1 co, .slice af lf1 cf, .string (bs bn), .string (bs bf), .string (bs bt), .int .i64 mn, .int .i64 mx, .string (bs fn), .int .i64 ft, .bool fm, .bool fk, .int .i64 vt, .int .i64 vn, .string (bs vs), .string (bs tn)] 42) := ⟨_, rfl⟩
  have hB0 : Below w.heap.size w W0 := by rw [hW0]; exact b_alloc (Below.refl _ _) _
  have n0 := heap_alloc_new w (.cells #[.int .i64 wh, .string (bs nm), .string (bs kn), .slice ao lo1 co, .slice af lf1 cf, .string (bs bn), .string (bs bf), .string (bs bt), .int .i64 mn, .int .i64 mx, .string (bs fn), .int .i64 ft, .bool fm, .bool fk, .int .i64 vt, .int .i64 vn, .string (bs vs), .string (bs tn)] 42)
  rw [← hW0] at n0
  subst hw
  obtain ⟨hG, hl, hb12⟩ := good_of hs
  obtain ⟨vk, vb, hp, hX, hK, hA, hT⟩ := h.on hB0
  obtain ⟨a, cp, rfl⟩ := own_slice hT
  obtain ⟨W1, hW1⟩ : ∃ W1, W1 = (W0.alloc (.cells #[.string (bs bn), .string (bs bf), .string (bs bt), .int .i64 mn, .int .i64 mx] 36)).drew := ⟨_, rfl⟩
  have hB1 : Below W0.heap.size W0 W1 := by rw [hW1]; exact (b_alloc (Below.refl _ _) _).drew
  have hpl := (Array.getElem?_eq_some_iff.1 hX).1
  have hX1 := (hB1.block p hpl).trans hX
  have hK1 := hK.kt (.of_below hB1) (.of_below hB1) (.of_below hB1)
  have hT1 : OwnBs W1 base (.slice a B.length cp) B := own_kt hT (.of_below hB1)
  have hbs : base ≤ W1.heap.size := Nat.le_trans hbase (Nat.le_trans hB0.size hB1.size)
  have n1 : W1.heap[W0.heap.size]? = some (.cells #[.string (bs bn), .string (bs bf), .string (bs bt), .int .i64 mn, .int .i64 mx] 36 (0, 0)) := by rw [hW1]; exact heap_alloc_new W0 _
  have HA : Hid (∀ ty, ∃ v' w', (Builtin.append_ #[23, 23] ty #[.slice a B.length cp, .slice (some ⟨W0.heap.size, 0, none⟩) 1 1]).run Tryd.prog W1 = .ok v' w' ∧ ((∃ a' c', v' = .slice a' (B.length + 1) c') ∧ (w'.cell? ⟨p, 1, none⟩ = some (.slice a B.length cp) ∧ w'.frozen? ⟨p, 1, none⟩ = false) ∧ OSc (w'.setCell ⟨p, 1, none⟩ v') base p L (B ++ [⟨bn, bf, bt, mn, mx⟩]) ∧ Below base w (w'.setCell ⟨p, 1, none⟩ v'))) := fun ty => by
    obtain ⟨v', w', r1, r2, r3, _⟩ := run_append_own (P := Tryd.prog) W1 base 23 ty 36 i0 _ 5 64 Tryd.underlying23 hi0 hz0 hz1 hz2 rfl (by decide) (.slice a B.length cp) B.length (cellsBd B) hT1 ⟨W0.heap.size, 0, none⟩ 1 1 [.string (bs bn), .string (bs bf), .string (bs bt), .int .i64 mn, .int .i64 mx] rfl (fun j u hu => by
      rw [Addr.add_lit, Nat.zero_add, cell_of_row W1 W0.heap.size j _ 36 (0, 0) n1]
      simpa using hu) (by simp [Value.oneCell']) (by unfold maxLen; omega) (by omega) hbs
    have r2' : OwnBs w' base v' (B ++ [⟨bn, bf, bt, mn, mx⟩]) := by
      unfold OwnBs
      rw [List.length_append, show cellsBd (B ++ [(⟨bn, bf, bt, mn, mx⟩ : Bd)]) = cellsBd B ++ [.string (bs bn), .string (bs bf), .string (bs bt), .int .i64 mn, .int .i64 mx] by simp [cellsBd, Bd.cells]]
      exact r2
    obtain ⟨s1, s2, s3⟩ := osc_setB hp hX1 hK1 hA hT1 hbs r3 r2'
    exact ⟨v', w', r1, own_slice r2, s1, s2, ((on1K hB0 hB1 (Nat.le_refl _)).mono hbase).trans s3⟩
  have d0 : W0.cell? ⟨w.heap.size, 0, none⟩ = some (.int .i64 5) := cell_at n0 rfl
  have d5 : W0.cell? ⟨w.heap.size, 5, none⟩ = some (.string (bs bn)) := cell_at n0 rfl
  have d6 : W0.cell? ⟨w.heap.size, 6, none⟩ = some (.string (bs bf)) := cell_at n0 rfl
  have d7 : W0.cell? ⟨w.heap.size, 7, none⟩ = some (.string (bs bt)) := cell_at n0 rfl
  have d8 : W0.cell? ⟨w.heap.size, 8, none⟩ = some (.int .i64 mn) := cell_at n0 rfl
  have d9 : W0.cell? ⟨w.heap.size, 9, none⟩ = some (.int .i64 mx) := cell_at n0 rfl
  have dp : W0.cell? ⟨p, 1, none⟩ = some (.slice a B.length cp) := cell_at hX rfl
  have da : ∀ o, (W0.alloc o).cell? ⟨p, 1, none⟩ = some (.slice a B.length cp) := fun o => ((b_alloc (Below.refl _ W0) o).cell (p := ⟨p, 1, none⟩) hpl).trans dp
  have HW1 := Lib.hid hW1
  clear h hs n0 hB0 hc hX hK hA hT hB1 hX1 hK1 hT1 n1 hW1 hbs hG hi0 hz0 hz1 hz2
  rw [HW1.out] at HA
  go_enter Tryd.func15, Tryd.ntmps15
  go_upto_region 1 with fail
  rw [← hW0]
  clear hW0
  go_wp2
  go_region_law (refine step_append_E rfl (.tmp 47) (.tmp 50) 23 rfl (.slice a B.length cp) (.slice (some ⟨W0.heap.size, 0, none⟩) 1 1) (by simp [Act.eval, Act.put]) (by simp [Act.eval, Act.put]) (HA.out _) ?_; rintro v1 w1 ⟨⟨a', c', rfl⟩, ⟨z0, z1⟩, z2⟩; have HZ := Lib.hid z2; clear z2)
  all_goals go_wp2
  all_goals go_ret
  all_goals exact ⟨rfl, fun _ => ⟨_, HZ.out.1, rfl⟩, HZ.out.2⟩
set_option maxHeartbeats 8000000 in
set_option maxRecDepth 100000 in
theorem write_1 {w : World} {base p : Nat} {L : List Kd} {B : List Bd} (h : OSc w base p L B) (hbase : base ≤ w.heap.size) (hs : (sErr L B).2 = 0) (c : Ch) (hc : ChIs w c) (hz : ChSz c) (hw : c.wh = 1) :
    Calls Tryd.prog 15 #[.pointer (some ⟨p, 0, none⟩), c.one] w (WrP w base p 0 (L ++ [c.kd]) B) := by
  obtain ⟨i0, hi0, hz0, hz1, hz2⟩ := info_parts infoKd
  obtain ⟨wh, nm, ⟨kn, ko, kf, vo, vf⟩, ⟨bn, bf, bt, mn, mx⟩, ⟨fn, ft, fm, fk⟩, vt, vn, vs, tn⟩ := c
  obtain ⟨ao, lo1, co, q1⟩ := hc.1.sl
  obtain ⟨af, lf1, cf, q2⟩ := hc.2.sl
  simp only at q1 q2 hw ⊢
  subst q1 q2
  obtain ⟨W0, hW0⟩ : ∃ W0, W0 = w.alloc (.cells #[.int .i64 wh, .string (bs nm), .string (bs kn), .slice ao lo1 co, .slice af lf1 cf, .string (bs bn), .string (bs bf), .string (bs bt), .int .i64 mn, .int .i64 mx, .string (bs fn), .int .i64 ft, .bool fm, .bool fk, .int .i64 vt, .int .i64 vn, .string (bs vs), .string (bs tn)] 42) := ⟨_, rfl⟩
  have hB0 : Below w.heap.size w W0 := by rw [hW0]; exact b_alloc (Below.refl _ _) _
  have n0 := heap_alloc_new w (.cells #[.int .i64 wh, .string (bs nm), .string (bs kn), .slice ao lo1 co, .slice af lf1 cf, .string (bs bn), .string (bs bf), .string (bs bt), .int .i64 mn, .int .i64 mx, .string (bs fn), .int .i64 ft, .bool fm, .bool fk, .int .i64 vt, .int .i64 vn, .string (bs vs), .string (bs tn)] 42)
  rw [← hW0] at n0
  subst hw
  obtain ⟨hG, hl, hb12⟩ := good_of hs
  obtain ⟨vk, vb, hp, hX, hK, hA, hT⟩ := h.on hB0
  obtain ⟨a, cp, rfl⟩ := own_slice hK.1
  obtain ⟨W1, hW1⟩ : ∃ W1, W1 = W0.alloc (.cells #[.string (bs kn), .slice ao lo1 co, .slice af lf1 cf] 34) := ⟨_, rfl⟩
  have hB1 : Below W0.heap.size W0 W1 := by rw [hW1]; exact b_alloc (Below.refl _ _) _
  have hpl := (Array.getElem?_eq_some_iff.1 hX).1
  have n1 : W1.heap[W0.heap.size]? = some (.cells #[.string (bs kn), .slice ao lo1 co, .slice af lf1 cf] 34 (0, 0)) := by rw [hW1]; exact heap_alloc_new W0 _
  have hcs := (hc.on hB0).on hB1
  have cS := scopy_any (L := [⟨kn, ko, kf, .slice ao lo1 co, .slice af lf1 cf⟩]) (B := []) (w := W1) (vk := .slice (some ⟨W0.heap.size, 0, none⟩) 1 1) (vb := .slice none 0 0) (.inr ⟨W0.heap.size, 0, 1, rfl, Nat.le_refl _, by unfold maxLen; omega, (Array.getElem?_eq_some_iff.1 n1).1, fun i k hk => by
      obtain ⟨hi, e⟩ := List.getElem?_eq_some_iff.1 hk
      have hi0 : i = 0 := by simp only [List.length_singleton] at hi; omega
      subst hi0
      simp only [List.getElem_cons_zero] at e
      subst e
      exact ⟨cell_at n1 rfl, cell_at n1 rfl, cell_at n1 rfl⟩⟩) (fun k hk => by
      have e : k = ⟨kn, ko, kf, .slice ao lo1 co, .slice af lf1 cf⟩ := by simpa using hk
      subst e
      exact hcs) (.inl ⟨rfl, rfl⟩) (by simp) (by simp) (fun k hk => by
      have e : k = ⟨kn, ko, kf, .slice ao lo1 co, .slice af lf1 cf⟩ := by simpa using hk
      subst e
      exact hz.2.1)
  have HS : Hid (∀ w2 uk ub M, M.map kq3 = [(⟨kn, ko, kf, .slice ao lo1 co, .slice af lf1 cf⟩ : Kd)].map kq3 → OwnKs w2 W1.heap.size uk M → Below W1.heap.size W1 w2 → ∀ (W3 : World), W3 = (w2.alloc (.cells #[uk, ub] 25)).drew → (∃ g c2, uk = .slice (some ⟨g, 0, none⟩) 1 c2) ∧ ∀ ty, ∃ v' w', (Builtin.append_ #[22, 22] ty #[.slice a L.length cp, uk]).run Tryd.prog W3 = .ok v' w' ∧ ((∃ a' c', v' = .slice a' (L.length + 1) c') ∧ (w'.cell? ⟨p, 0, none⟩ = some (.slice a L.length cp) ∧ w'.frozen? ⟨p, 0, none⟩ = false) ∧ (∃ N, OSc (w'.setCell ⟨p, 0, none⟩ v') base p N B ∧ N.map kq3 = (L ++ [(⟨kn, ko, kf, .slice ao lo1 co, .slice af lf1 cf⟩ : Kd)]).map kq3) ∧ Below base w (w'.setCell ⟨p, 0, none⟩ v'))) := fun w2 uk ub M hM hK2 hB2 W3 hW3 => by
    obtain ⟨k', rfl⟩ : ∃ k', M = [k'] := by
      have hl := congrArg List.length hM
      simp only [List.length_map, List.length_singleton] at hl
      match M, hl with
      | [k'], _ => exact ⟨k', rfl⟩
    obtain ⟨g, c2, rfl⟩ := hK2.at (by simp)
    refine ⟨⟨g, c2, rfl⟩, fun ty => ?_⟩
    have hB3 : Below w2.heap.size w2 W3 := by rw [hW3]; exact (b_alloc (Below.refl _ _) _).drew
    have hB13 := on1K hB2 hB3 (Nat.le_refl _)
    have hB03 := on1K hB1 hB13 (Nat.le_refl _)
    have hK3 := hK.kt (.of_below hB03) (.of_below hB03) (.of_below hB03)
    have hT3 : OwnBs W3 base vb B := own_kt hT (.of_below hB03)
    have hN3 := hK2.kt (.of_below hB3) (.of_below hB3) (.of_below hB3)
    have hbs : base ≤ W3.heap.size := Nat.le_trans hbase (Nat.le_trans hB0.size hB03.size)
    have hb1 : base ≤ W1.heap.size := Nat.le_trans hbase (Nat.le_trans hB0.size hB1.size)
    obtain ⟨v', w', r1, r2, r3, _⟩ := run_append_own (P := Tryd.prog) W3 base 22 ty 34 i0 _ 3 64 Tryd.underlying22 hi0 hz0 hz1 hz2 rfl (by decide) (.slice a L.length cp) L.length (cellsK L) hK3.1 ⟨g, 0, none⟩ 1 c2 (cellsK [k']) rfl (fun j u hu => World.ownsRow.cells hN3.1 (g := g) rfl j u hu) hN3.one (by unfold maxLen; omega) (by omega) hbs
    have r2' : w'.ownsRow base 34 3 v' (L ++ [k']).length (cellsK (L ++ [k'])) := by
      rw [List.length_append, cellsK_app]
      exact r2
    have hk' := hN3.2 k' (by simp)
    obtain ⟨s1, s2, s3⟩ := osc_setK (M := L ++ [k']) hp ((hB03.block p hpl).trans hX) hK3 (hA.snoc fun x hx g' hg1 hg2 => by
      have h1 := ((hK.2 x hx).2.lt g' hg1).2
      have h2 := (hk'.2.lt g' hg2).1
      have h3 := hB1.size
      omega) hT3 hbs r3 r2' (fun k hk => by
      rcases List.mem_append.1 hk with hk | hk
      · exact hK3.2 k hk
      · have e : k = k' := by simpa using hk
        rw [e]
        exact ⟨own_base hk'.1 hb1, own_base hk'.2 hb1⟩)
    exact ⟨v', w', r1, own_slice r2, s1, ⟨_, s2, by rw [List.map_append, List.map_append, hM]⟩, ((on1K hB0 hB03 (Nat.le_refl _)).mono hbase).trans s3⟩
  have HP : Hid (∀ W, Below W1.heap.size W1 W → W.cell? ⟨p, 0, none⟩ = some (.slice a L.length cp)) := fun W hb => cell_at (((on1K hB1 hb (Nat.le_refl _)).block p hpl).trans hX) rfl
  have d0 : W0.cell? ⟨w.heap.size, 0, none⟩ = some (.int .i64 1) := cell_at n0 rfl
  have d2 : W0.cell? ⟨w.heap.size, 2, none⟩ = some (.string (bs kn)) := cell_at n0 rfl
  have d3 : W0.cell? ⟨w.heap.size, 3, none⟩ = some (.slice ao lo1 co) := cell_at n0 rfl
  have d4 : W0.cell? ⟨w.heap.size, 4, none⟩ = some (.slice af lf1 cf) := cell_at n0 rfl
  have hpw : p < W1.heap.size := Nat.lt_of_lt_of_le hpl hB1.size
  rw [hW1] at cS
  have HW1 := Lib.hid hW1
  clear h hs n0 hB0 hc hX hK hA hT hB1 n1 hW1 hG hi0 hz0 hz1 hz2 hcs hz
  go_enter Tryd.func15, Tryd.ntmps15
  go_upto_region 1 with fail
  rw [← hW0]
  clear hW0
  go_wp2_with (go_at_call 10; refine cS.mono ?_; rintro e w2 ⟨uk, ub, M, rfl, hM, hK2, hT2, hB2, _⟩; rw [← HW1.out] at hK2 hB2; obtain ⟨a3, c3, rfl⟩ := own_slice hT2; obtain ⟨⟨g, c2, rfl⟩, hap⟩ := HS.out w2 uk (.slice a3 ([] : List Bd).length c3) M hM hK2 hB2 _ rfl; have y0 := HP.out w2 hB2; have HAp := Lib.hid hap; have HB2 := Lib.hid hB2; clear hap hM hK2 hT2 hB2)
  have hpz : ¬ p = w2.heap.size := by have := HB2.out.size; omega
  have da : ∀ o, (w2.alloc o).cell? ⟨p, 0, none⟩ = some (.slice a L.length cp) := fun o => ((b_alloc (Below.refl _ w2) o).cell (p := ⟨p, 0, none⟩) (by have := HB2.out.size; show p < _; omega)).trans y0
  go_region_law (refine step_append_E rfl (.tmp 19) (.tmp 21) 22 rfl (.slice a L.length cp) (.slice (some ⟨g, 0, none⟩) 1 c2) (by simp [Act.eval, Act.put]) (by simp [Act.eval, Act.put]) (HAp.out _) ?_; rintro v1 w1 ⟨⟨a', c', rfl⟩, ⟨z0, z1⟩, z2⟩; have HZ := Lib.hid z2; clear z2)
  all_goals go_wp2
  all_goals go_ret
  all_goals exact ⟨rfl, fun _ => HZ.out.1, HZ.out.2⟩
end Go.Proofs.YtkmkhadacppdnaaDoor
