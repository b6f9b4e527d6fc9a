import Derived.Test.YtahamkajkkkjdaaGreatDoorM37
import Derived.Test.YtahamkajkkkjdaaGreatDoorM24
import Derived.Deep.MidRow
import Derived.Deep.WholeRow
namespace Go.Proofs.YtahamkajkkkjdaaGreatDoor
open Go.RowKit
set_option linter.unusedVariables false
set_option linter.unusedSimpArgs false
theorem info37 : (Tryz.prog.info? 58).map (fun i => i.size) = some 18 := by kernel_rfl
theorem OwnKs.at {w : World} {base : Nat} {v : Value} {L : List Kd} (h : OwnKs w base v L) (h0 : 0 < L.length) : ∃ gk cp, v = .slice (some ⟨gk, 0, none⟩) L.length cp := by
  rcases h.1.2 with ⟨rfl, h1⟩ | ⟨g, cap, cur, rfl, _⟩
  · omega
  · exact ⟨g, cap, rfl⟩
def WrP (w : World) (base p : Nat) (ex : Int) (K : List Kd) (B : List Bd) (e : Ending) (w' : World) : Prop :=
  e = .returned (errV ex) ∧ (ex = 0 → ∃ M, OSc w' base p M B ∧ M.map kq3 = K.map kq3) ∧ Below base w w'
theorem WrP.no {w w' : World} {base p : Nat} {ex r : Int} {K : List Kd} {B : List Bd} {e : Ending} (hbase : base ≤ w.heap.size) (hr : r = ex) (hne : ¬ ex = 0) (h : e = .returned (errV r) ∧ Below w.heap.size w w') : WrP w base p ex K B e w' :=
  ⟨by rw [← hr]; exact h.1, fun h0 => absurd h0 hne, h.2.mono hbase⟩
theorem good_of {L : List Kd} {B : List Bd} (h : (sErr L B).2 = 0) : Good L ∧ L.length ≤ 12 ∧ B.length ≤ 12 := by
  obtain ⟨h1, _, h3⟩ := sErr_good.1 h
  obtain ⟨g1, g2⟩ := ksErr_good.1 h1
  exact ⟨g1, g2, h3⟩
set_option maxHeartbeats 8000000 in
set_option maxRecDepth 100000 in
theorem write_1 {w : World} {base p : Nat} {L : List Kd} {B : List Bd} (h : OSc w base p L B) (hbase : base ≤ w.heap.size) (hs : (sErr L B).2 = 0) (c : Ch) (hc : ChIs w c) (hz : ChSz c) (hw : c.wh = 1) :
    Calls Tryz.prog 139 #[.pointer (some ⟨p, 0, none⟩), c.one] w (WrP w base p 0 (L ++ [c.kd]) B) := by
  obtain ⟨i0, hi0, hz0, hz1, hz2⟩ := info_parts infoKd
  obtain ⟨wh, nm, ⟨kn, ko, kf, vo, vf⟩, ⟨bn, bf, bt, mn, mx⟩, ⟨fn, ft, fm, fk⟩, vt, vn, vs, tn⟩ := c
  obtain ⟨ao, lo1, co, q1⟩ := hc.1.sl
  obtain ⟨af, lf1, cf, q2⟩ := hc.2.sl
  simp only at q1 q2 hw ⊢
  subst q1 q2
  obtain ⟨W0, hW0⟩ : ∃ W0, W0 = w.alloc (.cells #[.int .i64 wh, .string (bs nm), .string (bs kn), .slice ao lo1 co, .slice af lf1 cf, .string (bs bn), .string (bs bf), .string (bs bt), .int .i64 mn, .int .i64 mx, .string (bs fn), .int .i64 ft, .bool fm, .bool fk, .int .i64 vt, .int .i64 vn, .string (bs vs), .string (bs tn)] 58) := ⟨_, rfl⟩
  have hB0 : Below w.heap.size w W0 := by rw [hW0]; exact b_alloc (Below.refl _ _) _
  have n0 := heap_alloc_new w (.cells #[.int .i64 wh, .string (bs nm), .string (bs kn), .slice ao lo1 co, .slice af lf1 cf, .string (bs bn), .string (bs bf), .string (bs bt), .int .i64 mn, .int .i64 mx, .string (bs fn), .int .i64 ft, .bool fm, .bool fk, .int .i64 vt, .int .i64 vn, .string (bs vs), .string (bs tn)] 58)
  rw [← hW0] at n0
  subst hw
  obtain ⟨hG, hl, hb12⟩ := good_of hs
  obtain ⟨vk, vb, hp, hX, hK, hA, hT⟩ := h.on hB0
  obtain ⟨a, cp, rfl⟩ := own_slice hK.1
  obtain ⟨W1, hW1⟩ : ∃ W1, W1 = W0.alloc (.cells #[.string (bs kn), .slice ao lo1 co, .slice af lf1 cf] 30) := ⟨_, rfl⟩
  have hB1 : Below W0.heap.size W0 W1 := by rw [hW1]; exact b_alloc (Below.refl _ _) _
  have hpl := (Array.getElem?_eq_some_iff.1 hX).1
  have n1 : W1.heap[W0.heap.size]? = some (.cells #[.string (bs kn), .slice ao lo1 co, .slice af lf1 cf] 30 (0, 0)) := by rw [hW1]; exact heap_alloc_new W0 _
  have hcs := (hc.on hB0).on hB1
  have cS := scopyA_any (L := [⟨kn, ko, kf, .slice ao lo1 co, .slice af lf1 cf⟩]) (B := []) (w := W1) (vk := .slice (some ⟨W0.heap.size, 0, none⟩) 1 1) (vb := .slice none 0 0) (.inr ⟨W0.heap.size, 0, 1, rfl, Nat.le_refl _, by unfold maxLen; omega, (Array.getElem?_eq_some_iff.1 n1).1, fun i k hk => by
      obtain ⟨hi, e⟩ := List.getElem?_eq_some_iff.1 hk
      have hi0 : i = 0 := by simp only [List.length_singleton] at hi; omega
      subst hi0
      simp only [List.getElem_cons_zero] at e
      subst e
      exact ⟨cell_at n1 rfl, cell_at n1 rfl, cell_at n1 rfl⟩⟩) (fun k hk => by
      have e : k = ⟨kn, ko, kf, .slice ao lo1 co, .slice af lf1 cf⟩ := by simpa using hk
      subst e
      exact hcs) (.inl ⟨rfl, rfl⟩) (by simp) (by simp) (fun k hk => by
      have e : k = ⟨kn, ko, kf, .slice ao lo1 co, .slice af lf1 cf⟩ := by simpa using hk
      subst e
      exact hz.2.1)
  have HS : Hid (∀ w2 uk ub M, M.map kq3 = [(⟨kn, ko, kf, .slice ao lo1 co, .slice af lf1 cf⟩ : Kd)].map kq3 → OwnKs w2 W1.heap.size uk M → Below W1.heap.size W1 w2 → ∀ (W3 : World), W3 = (w2.alloc (.cells #[uk, ub] 34)).drew → (∃ g c2, uk = .slice (some ⟨g, 0, none⟩) 1 c2) ∧ ∀ ty, ∃ v' w', (Builtin.append_ #[31, 31] ty #[.slice a L.length cp, uk]).run Tryz.prog W3 = .ok v' w' ∧ ((∃ a' c', v' = .slice a' (L.length + 1) c') ∧ (w'.cell? ⟨p, 0, none⟩ = some (.slice a L.length cp) ∧ w'.frozen? ⟨p, 0, none⟩ = false) ∧ (∃ N, OSc (w'.setCell ⟨p, 0, none⟩ v') base p N B ∧ N.map kq3 = (L ++ [(⟨kn, ko, kf, .slice ao lo1 co, .slice af lf1 cf⟩ : Kd)]).map kq3) ∧ Below base w (w'.setCell ⟨p, 0, none⟩ v'))) := fun w2 uk ub M hM hK2 hB2 W3 hW3 => by
    obtain ⟨k', rfl⟩ : ∃ k', M = [k'] := by
      have hl := congrArg List.length hM
      simp only [List.length_map, List.length_singleton] at hl
      match M, hl with
      | [k'], _ => exact ⟨k', rfl⟩
    obtain ⟨g, c2, rfl⟩ := hK2.at (by simp)
    refine ⟨⟨g, c2, rfl⟩, fun ty => ?_⟩
    have hB3 : Below w2.heap.size w2 W3 := by rw [hW3]; exact (b_alloc (Below.refl _ _) _).drew
    have hB13 := on1K hB2 hB3 (Nat.le_refl _)
    have hB03 := on1K hB1 hB13 (Nat.le_refl _)
    have hK3 := hK.kt (.of_below hB03) (.of_below hB03) (.of_below hB03)
    have hT3 : OwnBs W3 base vb B := own_kt hT (.of_below hB03)
    have hN3 := hK2.kt (.of_below hB3) (.of_below hB3) (.of_below hB3)
    have hbs : base ≤ W3.heap.size := Nat.le_trans hbase (Nat.le_trans hB0.size hB03.size)
    have hb1 : base ≤ W1.heap.size := Nat.le_trans hbase (Nat.le_trans hB0.size hB1.size)
    obtain ⟨v', w', r1, r2, r3, _⟩ := run_append_own (P := Tryz.prog) W3 base 31 ty 30 i0 _ 3 64 Tryz.underlying31 hi0 hz0 hz1 hz2 rfl (by decide) (.slice a L.length cp) L.length (cellsK L) hK3.1 ⟨g, 0, none⟩ 1 c2 (cellsK [k']) rfl (fun j u hu => World.ownsRow.cells hN3.1 (g := g) rfl j u hu) hN3.one (by unfold maxLen; omega) (by omega) hbs
    have r2' : w'.ownsRow base 30 3 v' (L ++ [k']).length (cellsK (L ++ [k'])) := by
      rw [List.length_append, cellsK_app]
      exact r2
    have hk' := hN3.2 k' (by simp)
    obtain ⟨s1, s2, s3⟩ := osc_setK (M := L ++ [k']) hp ((hB03.block p hpl).trans hX) hK3 (hA.snoc fun x hx g' hg1 hg2 => by
      have h1 := ((hK.2 x hx).2.lt g' hg1).2
      have h2 := (hk'.2.lt g' hg2).1
      have h3 := hB1.size
      omega) hT3 hbs r3 r2' (fun k hk => by
      rcases List.mem_append.1 hk with hk | hk
      · exact hK3.2 k hk
      · have e : k = k' := by simpa using hk
        rw [e]
        exact ⟨own_base hk'.1 hb1, own_base hk'.2 hb1⟩)
    exact ⟨v', w', r1, own_slice r2, s1, ⟨_, s2, by rw [List.map_append, List.map_append, hM]⟩, ((on1K hB0 hB03 (Nat.le_refl _)).mono hbase).trans s3⟩
  have HP : Hid (∀ W, Below W1.heap.size W1 W → W.cell? ⟨p, 0, none⟩ = some (.slice a L.length cp)) := fun W hb => cell_at (((on1K hB1 hb (Nat.le_refl _)).block p hpl).trans hX) rfl
  have d0 : W0.cell? ⟨w.heap.size, 0, none⟩ = some (.int .i64 1) := cell_at n0 rfl
  have d2 : W0.cell? ⟨w.heap.size, 2, none⟩ = some (.string (bs kn)) := cell_at n0 rfl
  have d3 : W0.cell? ⟨w.heap.size, 3, none⟩ = some (.slice ao lo1 co) := cell_at n0 rfl
  have d4 : W0.cell? ⟨w.heap.size, 4, none⟩ = some (.slice af lf1 cf) := cell_at n0 rfl
  have hpw : p < W1.heap.size := Nat.lt_of_lt_of_le hpl hB1.size
  rw [hW1] at cS
  have HW1 := Lib.hid hW1
  clear h hs n0 hB0 hc hX hK hA hT hB1 n1 hW1 hG hi0 hz0 hz1 hz2 hcs hz
  go_enter Tryz.func139, Tryz.ntmps139
  go_upto_region 1 with fail
  rw [← hW0]
  clear hW0
  go_wp2_with (go_at_call 13; refine cS.mono ?_; rintro e w2 ⟨uk, ub, M, rfl, hM, hK2, hT2, hB2, _⟩; rw [← HW1.out] at hK2 hB2; obtain ⟨a3, c3, rfl⟩ := own_slice hT2; obtain ⟨⟨g, c2, rfl⟩, hap⟩ := HS.out w2 uk (.slice a3 ([] : List Bd).length c3) M hM hK2 hB2 _ rfl; have y0 := HP.out w2 hB2; have HAp := Lib.hid hap; have HB2 := Lib.hid hB2; clear hap hM hK2 hT2 hB2)
  have hpz : ¬ p = w2.heap.size := by have := HB2.out.size; omega
  have da : ∀ o, (w2.alloc o).cell? ⟨p, 0, none⟩ = some (.slice a L.length cp) := fun o => ((b_alloc (Below.refl _ w2) o).cell (p := ⟨p, 0, none⟩) (by have := HB2.out.size; show p < _; omega)).trans y0
  go_region_law (refine step_append_E rfl (.tmp 19) (.tmp 21) 31 rfl (.slice a L.length cp) (.slice (some ⟨g, 0, none⟩) 1 c2) (by simp [Act.eval, Act.put]) (by simp [Act.eval, Act.put]) (HAp.out _) ?_; rintro v1 w1 ⟨⟨a', c', rfl⟩, ⟨z0, z1⟩, z2⟩; have HZ := Lib.hid z2; clear z2)
  all_goals go_wp2
  all_goals go_ret
  all_goals exact ⟨rfl, fun _ => HZ.out.1, HZ.out.2⟩
theorem write_any {w : World} {base p : Nat} {L : List Kd} {B : List Bd} (h : OSc w base p L B) (hbase : base ≤ w.heap.size) (hs : (sErr L B).2 = 0) (c : Ch) (hc : ChIs w c) (hz : ChSz c) :
    Calls Tryz.prog 139 #[.pointer (some ⟨p, 0, none⟩), c.one] w (WrP w base p (cE L B c) (cK L c) (cB B c)) := by
  have h1 := hz.wh1
  have e1 : cE L B c = 0 := by unfold cE; rw [if_pos h1]
  have e2 : cK L c = L ++ [c.kd] := by unfold cK; rw [if_pos h1]
  have e3 : cB B c = B := by unfold cB; rw [h1]; rfl
  rw [e1, e2, e3]
  exact write_1 h hbase hs c hc hz h1
theorem SzK_kq {L L' : List Kd} (h : L.map kq3 = L'.map kq3) (hz : SzK L) : SzK L' := fun k hk => by
  have hm : kq3 k ∈ L'.map kq3 := List.mem_map.2 ⟨k, hk, rfl⟩
  rw [← h] at hm
  obtain ⟨x, hx, e⟩ := List.mem_map.1 hm
  have e1 : x.nm = k.nm := congrArg (fun q => q.1) e
  have e2 : x.fs = k.fs := congrArg (fun q => q.2.2) e
  rw [← e1, ← e2]
  exact hz x hx
/-! The names of a schema that is right are short; those of what comes are no longer than they may be. -/
theorem nErr_len {n : Nm} (h : nErr n = 0) : n.length ≤ maxLen := by
  unfold nErr at h
  split at h
  · exact absurd h (by decide)
  · split at h
    · exact absurd h (by decide)
    · unfold maxLen; omega
theorem fChk_sz : ∀ (l : List Fd) (o : Option Fd), fChk o l = 0 → ∀ f ∈ l, f.nm.length ≤ maxLen := by
  intro l
  induction l with
  | nil => intro o _ f hf; cases hf
  | cons g r ih =>
    intro o ho f hf
    unfold fChk at ho
    split at ho
    · rename_i hb
      rcases List.mem_cons.1 hf with rfl | hf
      · unfold fBad at hb
        split at hb
        · rename_i hn; exact nErr_len hn
        · rename_i hn; exact absurd hb hn
      · exact ih _ ho f hf
    · rename_i hb; exact absurd ho hb
theorem Good.sz {L : List Kd} (h : Good L) : SzK L := fun k hk => by
  obtain ⟨i, hi⟩ := List.getElem?_of_mem hk
  obtain ⟨h1, _, _, _, h5, _⟩ := kErr_zero (h i k hi)
  exact ⟨nErr_len h1, fChk_sz k.fs none h5⟩
theorem GoodB.sz {L : List Kd} {B : List Bd} (h : GoodB L B) : SzB B := fun x hx => by
  obtain ⟨i, hi⟩ := List.getElem?_of_mem hx
  exact nErr_len (bErr_zero (h i x hi)).1
theorem sz_cK {L : List Kd} (h : SzK L) (c : Ch) (hz : ChSz c) : SzK (cK L c) := by
  have e2 : cK L c = L ++ [c.kd] := by unfold cK; rw [if_pos hz.wh1]
  rw [e2]
  intro x hx
  rcases List.mem_append.1 hx with hx | hx
  · exact h x hx
  · obtain rfl : x = c.kd := by simpa using hx
    exact hz.1
theorem sz_cB {B : List Bd} (h : SzB B) (c : Ch) (hz : ChSz c) : SzB (cB B c) := by
  have e3 : cB B c = B := by unfold cB; rw [hz.wh1]; rfl
  rw [e3]
  exact h
def ApP (w : World) (base p : Nat) (L : List Kd) (B : List Bd) (c : Ch) (e : Ending) (w' : World) : Prop :=
  e = .returned (errV (apE L B c)) ∧ (apE L B c = 0 → ∃ M, OSc w' base p M (cB B c) ∧ M.map kq3 = (cK L c).map kq3) ∧ Below base w w'
set_option maxHeartbeats 4000000 in
set_option maxRecDepth 100000 in
theorem apply_any {w : World} {base p : Nat} {L : List Kd} {B : List Bd} (h : OSc w base p L B) (hbase : base ≤ w.heap.size) (hs : (sErr L B).2 = 0) (c : Ch) (hc : ChIs w c) (hz : ChSz c) :
    Calls Tryz.prog 106 #[.pointer (some ⟨p, 0, none⟩), c.one] w (ApP w base p L B c) := by
  have hsz : SzK (cK L c) ∧ SzB (cB B c) := by
    obtain ⟨g1, g2, _⟩ := sErr_good.1 hs
    exact ⟨sz_cK (ksErr_good.1 g1).1.sz c hz, sz_cB g2.sz c hz⟩
  obtain ⟨wh, nm, ⟨kn, ko, kf, vo, vf⟩, ⟨bn, bf, bt, mn, mx⟩, ⟨fn, ft, fm, fk⟩, vt, vn, vs, tn⟩ := c
  obtain ⟨ao, lo1, co, q1⟩ := hc.1.sl
  obtain ⟨af, lf1, cf, q2⟩ := hc.2.sl
  simp only at q1 q2 hsz ⊢
  subst q1 q2
  obtain ⟨W0, hW0⟩ : ∃ W0, W0 = w.alloc (.cells #[.int .i64 wh, .string (bs nm), .string (bs kn), .slice ao lo1 co, .slice af lf1 cf, .string (bs bn), .string (bs bf), .string (bs bt), .int .i64 mn, .int .i64 mx, .string (bs fn), .int .i64 ft, .bool fm, .bool fk, .int .i64 vt, .int .i64 vn, .string (bs vs), .string (bs tn)] 58) := ⟨_, rfl⟩
  have hB0 : Below w.heap.size w W0 := by rw [hW0]; exact b_alloc (Below.refl _ _) _
  have n0 := heap_alloc_new w (.cells #[.int .i64 wh, .string (bs nm), .string (bs kn), .slice ao lo1 co, .slice af lf1 cf, .string (bs bn), .string (bs bf), .string (bs bt), .int .i64 mn, .int .i64 mx, .string (bs fn), .int .i64 ft, .bool fm, .bool fk, .int .i64 vt, .int .i64 vn, .string (bs vs), .string (bs tn)] 58)
  rw [← hW0] at n0
  have hk := write_any (h.on hB0) (Nat.le_trans hbase hB0.size) hs ⟨wh, nm, ⟨kn, ko, kf, .slice ao lo1 co, .slice af lf1 cf⟩, ⟨bn, bf, bt, mn, mx⟩, ⟨fn, ft, fm, fk⟩, vt, vn, vs, tn⟩ (hc.on hB0) hz
  dsimp only [Ch.one] at hk
  have HN := Lib.hid n0
  have HB0 := Lib.hid hB0
  by_cases hx : cE L B ⟨wh, nm, ⟨kn, ko, kf, .slice ao lo1 co, .slice af lf1 cf⟩, ⟨bn, bf, bt, mn, mx⟩, ⟨fn, ft, fm, fk⟩, vt, vn, vs, tn⟩ = 0
  · have hap : apE L B ⟨wh, nm, ⟨kn, ko, kf, .slice ao lo1 co, .slice af lf1 cf⟩, ⟨bn, bf, bt, mn, mx⟩, ⟨fn, ft, fm, fk⟩, vt, vn, vs, tn⟩ = (sErr (cK L ⟨wh, nm, ⟨kn, ko, kf, .slice ao lo1 co, .slice af lf1 cf⟩, ⟨bn, bf, bt, mn, mx⟩, ⟨fn, ft, fm, fk⟩, vt, vn, vs, tn⟩) (cB B ⟨wh, nm, ⟨kn, ko, kf, .slice ao lo1 co, .slice af lf1 cf⟩, ⟨bn, bf, bt, mn, mx⟩, ⟨fn, ft, fm, fk⟩, vt, vn, vs, tn⟩)).2 := by unfold apE; rw [if_pos hx]
    have HS : Hid (∀ e w1, WrP W0 base p (cE L B ⟨wh, nm, ⟨kn, ko, kf, .slice ao lo1 co, .slice af lf1 cf⟩, ⟨bn, bf, bt, mn, mx⟩, ⟨fn, ft, fm, fk⟩, vt, vn, vs, tn⟩) (cK L ⟨wh, nm, ⟨kn, ko, kf, .slice ao lo1 co, .slice af lf1 cf⟩, ⟨bn, bf, bt, mn, mx⟩, ⟨fn, ft, fm, fk⟩, vt, vn, vs, tn⟩) (cB B ⟨wh, nm, ⟨kn, ko, kf, .slice ao lo1 co, .slice af lf1 cf⟩, ⟨bn, bf, bt, mn, mx⟩, ⟨fn, ft, fm, fk⟩, vt, vn, vs, tn⟩) e w1 → e = .returned .nilIface ∧ ∃ vk vb, w1.cell? ⟨p, 0, none⟩ = some vk ∧ w1.cell? ⟨p, 1, none⟩ = some vb ∧ (∃ a l c, vk = .slice a l c) ∧ (∃ a l c, vb = .slice a l c) ∧ Calls Tryz.prog 12 #[.agg #[vk, vb]] w1 fun e w' => (∃ z, e = .returned (.tuple #[z, errV (sErr (cK L ⟨wh, nm, ⟨kn, ko, kf, .slice ao lo1 co, .slice af lf1 cf⟩, ⟨bn, bf, bt, mn, mx⟩, ⟨fn, ft, fm, fk⟩, vt, vn, vs, tn⟩) (cB B ⟨wh, nm, ⟨kn, ko, kf, .slice ao lo1 co, .slice af lf1 cf⟩, ⟨bn, bf, bt, mn, mx⟩, ⟨fn, ft, fm, fk⟩, vt, vn, vs, tn⟩)).2])) ∧ ((∃ M, OSc w' base p M (cB B ⟨wh, nm, ⟨kn, ko, kf, .slice ao lo1 co, .slice af lf1 cf⟩, ⟨bn, bf, bt, mn, mx⟩, ⟨fn, ft, fm, fk⟩, vt, vn, vs, tn⟩) ∧ M.map kq3 = (cK L ⟨wh, nm, ⟨kn, ko, kf, .slice ao lo1 co, .slice af lf1 cf⟩, ⟨bn, bf, bt, mn, mx⟩, ⟨fn, ft, fm, fk⟩, vt, vn, vs, tn⟩).map kq3) ∧ Below base w w')) := fun e w1 hwr => by
      obtain ⟨r1, r2, r3⟩ := hwr
      obtain ⟨M, o, hM⟩ := r2 hx
      have o' := o
      obtain ⟨vk, vb, hp, hX, hK, hA, hT⟩ := o
      refine ⟨by rw [r1, hx, errV_0], vk, vb, cell_at hX rfl, cell_at hX rfl, ?_, ?_, ?_⟩
      · obtain ⟨a, c, e⟩ := own_slice hK.1; exact ⟨a, _, c, e⟩
      · obtain ⟨a, c, e⟩ := own_slice hT; exact ⟨a, _, c, e⟩
      · have := scheck_any hK.isK hK.parts (SzK_kq hM.symm hsz.1) hT.isB hsz.2
        refine this.mono ?_
        rintro e w' ⟨rfl, hB'⟩
        rw [sErr_kq hM]
        exact ⟨⟨_, rfl⟩, ⟨M, o'.on hB', hM⟩, (HB0.out.mono hbase).trans (r3.trans (hB'.mono (Nat.le_trans hp (Nat.le_of_lt (Array.getElem?_eq_some_iff.1 hX).1))))⟩
    unfold ApP
    rw [hap]
    generalize (sErr (cK L ⟨wh, nm, ⟨kn, ko, kf, .slice ao lo1 co, .slice af lf1 cf⟩, ⟨bn, bf, bt, mn, mx⟩, ⟨fn, ft, fm, fk⟩, vt, vn, vs, tn⟩) (cB B ⟨wh, nm, ⟨kn, ko, kf, .slice ao lo1 co, .slice af lf1 cf⟩, ⟨bn, bf, bt, mn, mx⟩, ⟨fn, ft, fm, fk⟩, vt, vn, vs, tn⟩)).2 = r at *
    generalize cE L B ⟨wh, nm, ⟨kn, ko, kf, .slice ao lo1 co, .slice af lf1 cf⟩, ⟨bn, bf, bt, mn, mx⟩, ⟨fn, ft, fm, fk⟩, vt, vn, vs, tn⟩ = ex at *
    generalize cK L ⟨wh, nm, ⟨kn, ko, kf, .slice ao lo1 co, .slice af lf1 cf⟩, ⟨bn, bf, bt, mn, mx⟩, ⟨fn, ft, fm, fk⟩, vt, vn, vs, tn⟩ = KK at *
    generalize cB B ⟨wh, nm, ⟨kn, ko, kf, .slice ao lo1 co, .slice af lf1 cf⟩, ⟨bn, bf, bt, mn, mx⟩, ⟨fn, ft, fm, fk⟩, vt, vn, vs, tn⟩ = BB at *
    clear h hs hc hz n0 hB0 hx hap hsz
    go_enter Tryz.func106, Tryz.ntmps106
    go_upto_region 1 with fail
    rw [← hW0]
    clear hW0
    go_wp2_with (first | (refine wpList_load_row rfl 58 (.tmp 3) rfl w.heap.size rfl 58 _ (0, 0) _ HN.out Tryz.underlying58 rfl info37 ?_) | (go_at_call 139; refine hk.mono ?_; intro e w1 hwr; obtain ⟨rfl, vk, vb, y0, y1, ⟨b1, b2, b3, rfl⟩, ⟨b4, b5, b6, rfl⟩, ck⟩ := HS.out e w1 hwr; clear hwr) | (go_at_call 12; refine ck.mono ?_; rintro e w2 ⟨⟨z, rfl⟩, z2⟩; have HZ := Lib.hid z2; clear z2))
    go_ret
    exact ⟨rfl, fun _ => HZ.out.1, HZ.out.2⟩
  · have hap : apE L B ⟨wh, nm, ⟨kn, ko, kf, .slice ao lo1 co, .slice af lf1 cf⟩, ⟨bn, bf, bt, mn, mx⟩, ⟨fn, ft, fm, fk⟩, vt, vn, vs, tn⟩ = cE L B ⟨wh, nm, ⟨kn, ko, kf, .slice ao lo1 co, .slice af lf1 cf⟩, ⟨bn, bf, bt, mn, mx⟩, ⟨fn, ft, fm, fk⟩, vt, vn, vs, tn⟩ := by unfold apE; rw [if_neg hx]
    unfold ApP
    rw [hap]
    have HX := Lib.hid hx
    have hk' : Calls Tryz.prog 139 _ W0 fun e w' => e = .returned (.iface 76 (.int .i64 (cE L B ⟨wh, nm, ⟨kn, ko, kf, .slice ao lo1 co, .slice af lf1 cf⟩, ⟨bn, bf, bt, mn, mx⟩, ⟨fn, ft, fm, fk⟩, vt, vn, vs, tn⟩))) ∧ Below base W0 w' := hk.mono fun e w' hwr => ⟨by rw [hwr.1, errV_ne hx], hwr.2.2⟩
    rw [errV_ne hx]
    generalize cE L B ⟨wh, nm, ⟨kn, ko, kf, .slice ao lo1 co, .slice af lf1 cf⟩, ⟨bn, bf, bt, mn, mx⟩, ⟨fn, ft, fm, fk⟩, vt, vn, vs, tn⟩ = ex at *
    clear h hs hc hz n0 hB0 hx hap hk hsz
    go_enter Tryz.func106, Tryz.ntmps106
    go_upto_region 1 with fail
    rw [← hW0]
    clear hW0
    go_wp2_with (first | (refine wpList_load_row rfl 58 (.tmp 3) rfl w.heap.size rfl 58 _ (0, 0) _ HN.out Tryz.underlying58 rfl info37 ?_) | (go_at_call 139; refine hk'.mono ?_; rintro e w1 ⟨rfl, hB1⟩))
    go_ret
    exact ⟨rfl, fun e => absurd e HX.out, (HB0.out.mono hbase).trans hB1⟩
theorem nmAt_c (L : List Kd) (n : Nm) : nmAt (L.map Kd.cz) n = nmAt L n := by unfold nmAt; rw [idxK_c]
theorem fdsAt_c (L : List Kd) (n : Nm) : fdsAt (L.map Kd.cz) n = fdsAt L n := by
  unfold fdsAt
  rw [nmAt_c, List.getElem?_map]
  cases L[nmAt L n]? <;> rfl
theorem usK_c (L : List Kd) (n : Nm) : usK (L.map Kd.cz) n = usK L n := by
  unfold usK
  rw [List.any_map]
  rfl
theorem e4_c (L : List Kd) (n f : Nm) : e4 (L.map Kd.cz) n f = e4 L n f := by unfold e4; rw [idxK_c, fdsAt_c]
theorem cE_c (L : List Kd) (B : List Bd) (c : Ch) : cE (L.map Kd.cz) B c = cE L B c := by
  unfold cE e2 e3 e7
  rw [idxK_c, usK_c, fdsAt_c, e4_c]
theorem map_eraseIdx {α β : Type} (f : α → β) : ∀ (l : List α) (i : Nat), (l.eraseIdx i).map f = (l.map f).eraseIdx i
  | [], _ => rfl
  | a :: r, 0 => rfl
  | a :: r, i + 1 => by
    show f a :: (r.eraseIdx i).map f = f a :: (r.map f).eraseIdx i
    rw [map_eraseIdx f r i]
theorem setFs_c (L : List Kd) (n : Nm) (g : List Fd) : (setFs (L.map Kd.cz) n g).map kq3 = (setFs L n g).map kq3 := by
  unfold setFs
  rw [nmAt_c, List.getElem?_map]
  cases h : L[nmAt L n]? with
  | none =>
    show (L.map Kd.cz).map kq3 = L.map kq3
    rw [List.map_map]; rfl
  | some k =>
    show ((L.map Kd.cz).set (nmAt L n) _).map kq3 = (L.set (nmAt L n) _).map kq3
    rw [List.map_set, List.map_set, List.map_map]
    rfl
theorem cK_c (L : List Kd) (c : Ch) : (cK (L.map Kd.cz) c).map kq3 = (cK L c).map kq3 := by
  have e0 : (L.map Kd.cz).map kq3 = L.map kq3 := by rw [List.map_map]; rfl
  unfold cK
  rw [nmAt_c, fdsAt_c]
  split
  · rw [List.map_append, List.map_append, e0]
  · split
    · rw [map_eraseIdx, map_eraseIdx, e0]
    · split
      · exact setFs_c L _ _
      · split
        · exact setFs_c L _ _
        · split
          · exact setFs_c L _ _
          · exact e0
theorem cE_kq {L M : List Kd} (h : M.map kq3 = L.map kq3) (B : List Bd) (c : Ch) : cE M B c = cE L B c := by rw [← cE_c M, ← cE_c L, cz_kq h]
theorem cK_kq {L M : List Kd} (h : M.map kq3 = L.map kq3) (c : Ch) : (cK M c).map kq3 = (cK L c).map kq3 := by rw [← cK_c M, ← cK_c L, cz_kq h]
theorem apE_kq {L M : List Kd} (h : M.map kq3 = L.map kq3) (B : List Bd) (c : Ch) : apE M B c = apE L B c := by
  unfold apE
  rw [cE_kq h, sErr_kq (cK_kq h c)]
def goC : List Ch → Nat → List Kd → List Bd → Int × Nat × List Kd × List Bd
  | [], _, L, B => (0, 0, L, B)
  | c :: r, k, L, B => if apE L B c = 0 then goC r (k + 1) (cK L c) (cB B c) else (apE L B c, k, [], [])
def allA (L : List Kd) (B : List Bd) (l : List Ch) : Int × Nat × List Kd × List Bd := if 40 < l.length then (4, 0, [], []) else if (sErr L B).2 = 0 then goC l 0 L B else ((sErr L B).2, 0, [], [])
theorem goC_step {l : List Ch} {k : Nat} {c : Ch} {L : List Kd} {B : List Bd} (hc : l[k]? = some c) (h : apE L B c = 0) : goC (l.drop k) k L B = goC (l.drop (k + 1)) (k + 1) (cK L c) (cB B c) := by
  rw [dropK hc]
  conv => lhs; unfold goC
  rw [if_pos h]
theorem goC_stop {l : List Ch} {k : Nat} {c : Ch} {L : List Kd} {B : List Bd} (hc : l[k]? = some c) (h : ¬ apE L B c = 0) : goC (l.drop k) k L B = (apE L B c, k, [], []) := by
  rw [dropK hc]
  conv => lhs; unfold goC
  rw [if_neg h]
theorem goC_end {l : List Ch} {k : Nat} {L : List Kd} {B : List Bd} (h : l.length ≤ k) : goC (l.drop k) k L B = (0, 0, L, B) := by rw [List.drop_eq_nil_of_le h]; rfl
theorem apE_right {L : List Kd} {B : List Bd} {c : Ch} (h : apE L B c = 0) : (sErr (cK L c) (cB B c)).2 = 0 := by
  unfold apE at h
  split at h
  · exact h
  · rename_i hn; exact absurd h hn
def LiesC (w : World) (b off : Nat) (l : List Ch) : Prop := ∀ k c, l[k]? = some c → w.rangeAt b (off + k * 18) c.cells ∧ ChIs w c
def IsC (w : World) (v : Value) (l : List Ch) : Prop := ∃ ao cp, v = .slice ao l.length cp ∧ l.length ≤ maxLen ∧ (l = [] ∨ ∃ b off, ao = some ⟨b, off, none⟩ ∧ b < w.heap.size ∧ LiesC w b off l)
theorem LiesC.on {w w' : World} {b off : Nat} {l : List Ch} (h : LiesC w b off l) (hb : b < w.heap.size) (hB : Below w.heap.size w w') : LiesC w' b off l := fun k c hk =>
  ⟨fun j v hj => (hB.cell (p := ⟨b, off + k * 18 + j, none⟩) hb).trans ((h k c hk).1 j v hj), (h k c hk).2.on hB⟩
theorem wpList_store_new {P : Program} {ops : Array Oper} {rest : List Oper} {o : Oper} {a : Act} {w : World} {Q : Exit → Act → World → Prop} (hgd : o.guard = none) (ty : TypeId) (x y : Operand) (ho : o.op = .store ty x y) (old cells : Array Value)
    (hx : a.eval x = .pointer (some ⟨w.heap.size, 0, none⟩)) (hy : a.eval y = .agg cells) (hi : (P.info? ty).map (·.size) = some cells.size) (hs : old.size = cells.size) (h1 : cells.all (·.oneCell') = true)
    (h : wpList P ops Q rest (a.put o.dst undef) (w.alloc (.cells cells ty))) : wpList P ops Q (o :: rest) a (w.alloc (.cells old ty)) := by
  refine wpList_plain hgd fun K hK => ?_
  unfold Oper.wp execOp
  simp only [ho, hx, hy, Instr.storeAt, Instr.sureAddr, Sem.run_bind, Sem.run_pure, Result.andThen_ok, run_storeVar_new (P := P) w ty old cells hi hs h1]
  exact hK _ _ h
def AllP (w : World) (r : Int × Nat × List Kd × List Bd) (e : Ending) (w' : World) : Prop :=
  ∃ uk ub M, e = .returned (.tuple #[.agg #[uk, ub], .int .i64 r.2.1, errV r.1]) ∧ M.map kq3 = r.2.2.1.map kq3 ∧ OwnKs w' w.heap.size uk M ∧ OwnBs w' w.heap.size ub r.2.2.2 ∧ Below w.heap.size w w'
theorem allP_nil {w w' : World} {x : Int} {k : Nat} {e : Ending} (he : e = .returned (.tuple #[.agg #[.slice none 0 0, .slice none 0 0], .int .i64 k, errV x])) (hB : Below w.heap.size w w') : AllP w (x, k, [], []) e w' :=
  ⟨_, _, [], he, rfl, ⟨World.ownsRow_nil _ _ _ _, fun k hk => by cases hk⟩, World.ownsRow_nil _ _ _ _, hB⟩
def AlI (W1 : World) (base p : Nat) (L : List Kd) (B : List Bd) (l : List Ch) (k : Nat) (wr : World) : Prop :=
  ∃ Lk Bk M, goC l 0 L B = goC (l.drop k) k Lk Bk ∧ (sErr Lk Bk).2 = 0 ∧ M.map kq3 = Lk.map kq3 ∧ OSc wr base p M Bk ∧ Below base W1 wr
set_option maxHeartbeats 4000000 in
set_option maxRecDepth 100000 in
theorem all_many {w : World} {vk vb vl : Value} {L : List Kd} {B : List Bd} {l : List Ch} (hK : IsK w vk L) (hb : IsB w vb B) (hl : IsC w vl l) (h40 : 40 < l.length) :
    Calls Tryz.prog 74 #[.agg #[vk, vb], vl] w (AllP w (4, 0, [], [])) := by
  obtain ⟨ao, cp, rfl, hm, _⟩ := hl
  obtain ⟨a1, c1, rfl, _⟩ := hK.sln
  obtain ⟨a2, c2, rfl, _⟩ := hb.sln
  have h41 : (40 : Int) < (l.length : Int) := by omega
  have hB0 : Below w.heap.size w ((w.alloc (.cells #[.slice a1 L.length c1, .slice a2 B.length c2] 34)).alloc (.cells #[.slice none 0 0, .slice none 0 0] 34)) := b_alloc (b_alloc (Below.refl _ _) _) _
  unfold maxLen at hm
  clear hK hb
  go_enter Tryz.func74, Tryz.ntmps74
  go_wp2
  refine bodyPost_ret (v := .tuple #[.agg #[.slice none 0 0, .slice none 0 0], .int .i64 0, .iface 76 (.int .i64 4)]) ?_ rfl (allP_nil rfl ?_)
  · simp [results, Tryz.results74, go_sem]
  · first | exact hB0 | exact (hB0.setCell (by simp) _).setCell (by simp) _
end Go.Proofs.YtahamkajkkkjdaaGreatDoor
