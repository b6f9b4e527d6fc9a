import Derived.Test.YtahamkajkkkjdaaGreatDoorM46
import Derived.Deep.MidRow
import Derived.Deep.WholeRow
import Derived.Deep.RegionHeld
namespace Go.Proofs.YtahamkajkkkjdaaGreatDoor
open Go.RowKit
set_option linter.unusedVariables false
set_option linter.unusedSimpArgs false
def Bx3 (w : World) (gk gb gn gt : Value) (cs : Array Value) (W : World) : Prop :=
  Below w.heap.size w W ∧ W.heap[w.heap.size]? = some (.cells #[gk, gb] 34 (0, 0)) ∧ W.heap[w.heap.size + 1]? = some (.cells cs 58 (0, 0)) ∧ W.heap[w.heap.size + 2]? = some (.cells #[gn, gt] 67 (0, 0))
theorem Bx3.on {w W W' : World} {gk gb gn gt : Value} {cs : Array Value} (h : Bx3 w gk gb gn gt cs W) (hB : Below W.heap.size W W') : Bx3 w gk gb gn gt cs W' :=
  ⟨on1K h.1 hB (Nat.le_refl _), (hB.block _ (Array.getElem?_eq_some_iff.1 h.2.1).1).trans h.2.1, (hB.block _ (Array.getElem?_eq_some_iff.1 h.2.2.1).1).trans h.2.2.1, (hB.block _ (Array.getElem?_eq_some_iff.1 h.2.2.2).1).trans h.2.2.2⟩
theorem Bx3.mk3 (w : World) (gk gb gn gt : Value) (cs : Array Value) : Bx3 w gk gb gn gt cs (((w.alloc (.cells #[gk, gb] 34)).alloc (.cells cs 58)).alloc (.cells #[gn, gt] 67)) := by
  refine ⟨b_alloc (b_alloc (b_alloc (Below.refl _ _) _) _) _, ?_, ?_, ?_⟩
  · exact (heap_alloc_old _ _ (by simp; omega)).trans ((heap_alloc_old _ _ (by simp)).trans (heap_alloc_new w _))
  · have := heap_alloc_new (w.alloc (.cells #[gk, gb] 34)) (.cells cs 58)
    rw [World.size_alloc] at this
    exact (heap_alloc_old _ _ (by simp)).trans this
  · have := heap_alloc_new ((w.alloc (.cells #[gk, gb] 34)).alloc (.cells cs 58)) (.cells #[gn, gt] 67)
    rw [World.size_alloc, World.size_alloc] at this
    exact this
theorem Bx3.size {w W : World} {gk gb gn gt : Value} {cs : Array Value} (h : Bx3 w gk gb gn gt cs W) : w.heap.size + 3 ≤ W.heap.size := by
  have := (Array.getElem?_eq_some_iff.1 h.2.2.2).1
  omega
theorem info71 : (Tryz.prog.info? 222).map (fun i => i.size) = some 5 := by kernel_rfl
def nwE (L : List Kd) (B : List Bd) (c : Ch) (N : List Nd) (T : List Te) : Int := if doE L B c = 0 then (if inE L B N T = 0 then (if confB L B N T = true then 0 else 6) else inE L B N T) else doE L B c
def NwP (w : World) (L : List Kd) (B : List Bd) (c : Ch) (N : List Nd) (T : List Te) (e : Ending) (w' : World) : Prop :=
  (nwE L B c N T = 0 → ∃ w1 p Lm X uk ub ks fn vn vt vm, e = .returned (.tuple #[.pointer (some ⟨p, 0, none⟩), .nilIface]) ∧ Lm.map kq3 = (cK L c).map kq3 ∧ cN X = cN N ∧ Below w.heap.size w w1 ∧ Mv w1 w' p c (kdsA L c) Lm (cB B c) X T X 0 uk ub ks fn vn vt vm) ∧ (¬ nwE L B c N T = 0 → e = .returned (.tuple #[.pointer none, errV (nwE L B c N T)])) ∧ Below w.heap.size w w'
theorem nwP_bad {w w' : World} {L : List Kd} {B : List Bd} {c : Ch} {N : List Nd} {T : List Te} {z : Int} (hz : nwE L B c N T = z) (h0 : ¬ z = 0) (hB : Below w.heap.size w w') : NwP w L B c N T (.returned (.tuple #[.pointer none, .iface 76 (.int .i64 z)])) w' := by
  subst hz
  exact ⟨fun h => absurd h h0, fun _ => by rw [errV_ne h0], hB⟩
theorem nwP_ok {w W4 w' : World} {L : List Kd} {B : List Bd} {c : Ch} {N : List Nd} {T : List Te} (hz : nwE L B c N T = 0) {p : Nat} {Lm : List Kd} {X : List Nd} {uk ub ks fn vn vt u : Value} (h1 : Lm.map kq3 = (cK L c).map kq3) (h2 : cN X = cN N) (h3 : Below w.heap.size w W4) (hm : Mv W4 w' p c (kdsA L c) Lm (cB B c) X T X 0 uk ub ks fn vn vt u) : NwP w L B c N T (.returned (.tuple #[.pointer (some ⟨p, 0, none⟩), .nilIface])) w' :=
  ⟨fun _ => ⟨W4, p, Lm, X, uk, ub, ks, fn, vn, vt, u, rfl, h1, h2, h3, hm⟩, fun h => absurd hz h, on1K h3 hm.hB (Nat.le_refl _)⟩
theorem mv_new {W4 w' : World} {c : Ch} {K : List Nm} {Lm : List Kd} {B' : List Bd} {X : List Nd} {T : List Te} {uk ub ks fn vn vt u : Value} (hK : IsK W4 uk Lm) (hP : Parts W4 Lm) (hb : IsB W4 ub B') (hks : IsS W4 ks K) (hT : Turns W4 c fn) (hN : IsN W4 vn X) (hTt : IsT W4 vt T) (r1 : w'.heap[W4.heap.size]? = some (.cells #[uk, ub, ks, fn, .string (drp c), vn, vt, u, .int .i64 0] 226 (0, 0))) (r2 : w'.ownsRow W4.heap.size 40 3 u X.length (cellsN X)) (r3 : Below W4.heap.size W4 w') :
    Mv W4 w' W4.heap.size c K Lm B' X T X 0 uk ub ks fn vn vt u :=
  ⟨r1, Nat.le_refl _, r3, hK, hP, hb, hks, hT, hN, hTt, r2, rfl, Nat.zero_le _, fun i n _ h => h, fun i n h _ => absurd h (Nat.not_lt_zero _), rfl, rfl⟩
set_option maxHeartbeats 4000000 in
set_option maxRecDepth 100000 in
theorem wayOf_no {w : World} {vk vb : Value} {L : List Kd} {B : List Bd} (c : Ch) (hK : IsK w vk L) (hP : Parts w L) (hz : SzK L) (hb : IsB w vb B) (hzb : SzB B) (hc : ChIs w c) (hcz : ChSz c) (h0 : ¬ doE L B c = 0) :
    Calls Tryz.prog 101 #[.agg #[vk, vb], c.one] w fun e w' => e = .returned (.tuple #[.agg #[.slice none 0 0, .slice none 0 0, .slice none 0 0, .nilFunc, .string ⟨#[]⟩], .iface 76 (.int .i64 (doE L B c))]) ∧ Below w.heap.size w w' := by
  have h1_d : ∀ W, Below w.heap.size w W → Calls Tryz.prog 51 #[.agg #[vk, vb], c.one] W fun e w' => ∃ g1 g2 g3 g4 g5 g6, e = .returned (.tuple #[.agg #[.slice g1 g2 g3, .slice g4 g5 g6], .iface 76 (.int .i64 (doE L B c))]) ∧ Below W.heap.size W w' := fun W h => by
    refine (do_any c (hK.on h) (hP.on h) hz (hb.on h) hzb (hc.on h) hcz).mono ?_
    rintro e w' ⟨uk, ub, M, he, _, h2, h3, h4⟩
    obtain ⟨x1, x3, rfl⟩ := own_slice h2.1
    obtain ⟨x4, x6, rfl⟩ := own_slice h3
    rw [show (allA L B [c]).1 = doE L B c from one_err L B c, errV_ne h0] at he
    exact ⟨_, _, _, _, _, _, he, h4⟩
  obtain ⟨wh, nm, ⟨kn, ko, kf, vo, vf⟩, ⟨bn, bf, bt, mn, mx⟩, ⟨fnm, ft, fm, fk⟩, wt, wn, ws, tn⟩ := c
  obtain ⟨a1, c1, rfl, _⟩ := hK.sln
  obtain ⟨a2, c2, rfl, _⟩ := hb.sln
  obtain ⟨ao, lo1, co, q1⟩ := hc.1.sl
  obtain ⟨af, lf1, cf, q2⟩ := hc.2.sl
  simp only at q1 q2
  subst q1 q2
  obtain ⟨c0, hc0⟩ : ∃ c0 : Ch, c0 = ⟨wh, nm, ⟨kn, ko, kf, .slice ao lo1 co, .slice af lf1 cf⟩, ⟨bn, bf, bt, mn, mx⟩, ⟨fnm, ft, fm, fk⟩, wt, wn, ws, tn⟩ := ⟨_, rfl⟩
  have h18 : c0.one = .agg #[.int .i64 wh, .string (bs nm), .string (bs kn), .slice ao lo1 co, .slice af lf1 cf, .string (bs bn), .string (bs bf), .string (bs bt), .int .i64 mn, .int .i64 mx, .string (bs fnm), .int .i64 ft, .bool fm, .bool fk, .int .i64 wt, .int .i64 wn, .string (bs ws), .string (bs tn)] := by rw [hc0]
  rw [← hc0] at h0 h1_d ⊢
  rw [h18] at h1_d ⊢
  generalize doE L B c0 = z at *
  clear hc0 h18 hK hP hz hb hzb hc hcz
  obtain ⟨W0, hW0⟩ : ∃ W0, W0 = ((w.alloc (.cells #[.slice a1 L.length c1, .slice a2 B.length c2] 34)).alloc (.cells #[.int .i64 wh, .string (bs nm), .string (bs kn), .slice ao lo1 co, .slice af lf1 cf, .string (bs bn), .string (bs bf), .string (bs bt), .int .i64 mn, .int .i64 mx, .string (bs fnm), .int .i64 ft, .bool fm, .bool fk, .int .i64 wt, .int .i64 wn, .string (bs ws), .string (bs tn)] 58)).alloc (.cells #[.slice none 0 0, .slice none 0 0, .slice none 0 0, .nilFunc, .string ⟨#[]⟩] 222) := ⟨_, rfl⟩
  have hB0 : Below w.heap.size w W0 := by rw [hW0]; exact b_alloc (b_alloc (b_alloc (Below.refl _ _) _) _) _
  have n0 : W0.heap[w.heap.size]? = some (.cells #[.slice a1 L.length c1, .slice a2 B.length c2] 34 (0, 0)) := by rw [hW0]; exact (heap_alloc_old _ _ (by simp; omega)).trans ((heap_alloc_old _ _ (by simp)).trans (heap_alloc_new w _))
  have n1 : W0.heap[w.heap.size + 1]? = some (.cells #[.int .i64 wh, .string (bs nm), .string (bs kn), .slice ao lo1 co, .slice af lf1 cf, .string (bs bn), .string (bs bf), .string (bs bt), .int .i64 mn, .int .i64 mx, .string (bs fnm), .int .i64 ft, .bool fm, .bool fk, .int .i64 wt, .int .i64 wn, .string (bs ws), .string (bs tn)] 58 (0, 0)) := by
    have := heap_alloc_new (w.alloc (.cells #[.slice a1 L.length c1, .slice a2 B.length c2] 34)) (.cells #[.int .i64 wh, .string (bs nm), .string (bs kn), .slice ao lo1 co, .slice af lf1 cf, .string (bs bn), .string (bs bf), .string (bs bt), .int .i64 mn, .int .i64 mx, .string (bs fnm), .int .i64 ft, .bool fm, .bool fk, .int .i64 wt, .int .i64 wn, .string (bs ws), .string (bs tn)] 58)
    rw [World.size_alloc] at this; rw [hW0]; exact (heap_alloc_old _ _ (by simp)).trans this
  have n2 : W0.heap[w.heap.size + 2]? = some (.cells #[.slice none 0 0, .slice none 0 0, .slice none 0 0, .nilFunc, .string ⟨#[]⟩] 222 (0, 0)) := by
    have := heap_alloc_new ((w.alloc (.cells #[.slice a1 L.length c1, .slice a2 B.length c2] 34)).alloc (.cells #[.int .i64 wh, .string (bs nm), .string (bs kn), .slice ao lo1 co, .slice af lf1 cf, .string (bs bn), .string (bs bf), .string (bs bt), .int .i64 mn, .int .i64 mx, .string (bs fnm), .int .i64 ft, .bool fm, .bool fk, .int .i64 wt, .int .i64 wn, .string (bs ws), .string (bs tn)] 58)) (.cells #[.slice none 0 0, .slice none 0 0, .slice none 0 0, .nilFunc, .string ⟨#[]⟩] 222)
    rw [World.size_alloc, World.size_alloc] at this; rw [hW0]; exact this
  have s0 : W0.cell? ⟨w.heap.size, 0, none⟩ = some (.slice a1 L.length c1) := cell_at n0 rfl
  have s1 : W0.cell? ⟨w.heap.size, 1, none⟩ = some (.slice a2 B.length c2) := cell_at n0 rfl
  have HN := Lib.hid n1
  have cD := h1_d W0 hB0
  have HB := Lib.hid (And.intro hB0 n2)
  clear h1_d n0 n1 n2 hB0
  have hst := fun (a : Addr) (W : World) => run_store Tryz.prog W a .nilFunc .plain rfl
  go_enter Tryz.func101, Tryz.ntmps101
  go_upto_region 1 with fail
  rw [← hW0]
  clear hW0
  go_upto_region 2 with (first | (refine wpList_load_row rfl 58 (.tmp 3) rfl (w.heap.size + 1) rfl 58 _ (0, 0) _ HN.out Tryz.underlying58 rfl info37 ?_) | (go_at_call 51; refine cD.mono ?_; rintro e W1 ⟨g1, g2, g3, g4, g5, g6, rfl, hB1⟩) | (refine wpList_store_new rfl 34 (.tmp 6) (.tmp 15) rfl _ _ rfl rfl info25u rfl rfl ?_))
  obtain ⟨W2, hW2⟩ : ∃ W2, W2 = W1.alloc (.cells #[.slice g1 g2 g3, .slice g4 g5 g6] 34) := ⟨_, rfl⟩
  have hB2 : Below W0.heap.size W0 W2 := by rw [hW2]; exact on1K hB1 (b_alloc (Below.refl _ _) _) (Nat.le_refl _)
  have x2 : W2.heap[w.heap.size + 2]? = some (.cells #[.slice none 0 0, .slice none 0 0, .slice none 0 0, .nilFunc, .string ⟨#[]⟩] 222 (0, 0)) := (hB2.block _ (Array.getElem?_eq_some_iff.1 HB.out.2).1).trans HB.out.2
  rw [← hW2]
  have y0 : W2.cell? ⟨w.heap.size + 2, 0, none⟩ = some (.slice none 0 0) := cell_at x2 rfl
  have y1 : W2.cell? ⟨w.heap.size + 2, 1, none⟩ = some (.slice none 0 0) := cell_at x2 rfl
  have y2 : W2.cell? ⟨w.heap.size + 2, 2, none⟩ = some (.slice none 0 0) := cell_at x2 rfl
  have y3 : W2.cell? ⟨w.heap.size + 2, 3, none⟩ = some .nilFunc := cell_at x2 rfl
  have y4 : W2.cell? ⟨w.heap.size + 2, 4, none⟩ = some (.string ⟨#[]⟩) := cell_at x2 rfl
  have f0 : W2.frozen? ⟨w.heap.size + 2, 0, none⟩ = false := frz_at x2
  have f1 : W2.frozen? ⟨w.heap.size + 2, 1, none⟩ = false := frz_at x2
  have f2 : W2.frozen? ⟨w.heap.size + 2, 2, none⟩ = false := frz_at x2
  have f3 : W2.frozen? ⟨w.heap.size + 2, 3, none⟩ = false := frz_at x2
  have f4 : W2.frozen? ⟨w.heap.size + 2, 4, none⟩ = false := frz_at x2
  have HC := Lib.hid (And.intro hB2 x2)
  clear hW2 hB1 hB2 x2 cD s0 s1 HN
  go_wp2
  have r2 := set5_heap HC.out.2 (.slice none 0 0) (.slice none 0 0) (.slice none 0 0) .nilFunc (.string ⟨#[]⟩)
  unfold set5 at r2
  have z0 := cell_at (i := 0) r2 rfl
  have z1 := cell_at (i := 1) r2 rfl
  have z2 := cell_at (i := 2) r2 rfl
  have z3 := cell_at (i := 3) r2 rfl
  have z4 := cell_at (i := 4) r2 rfl
  refine bodyPost_ret (v := .tuple #[.agg #[.slice none 0 0, .slice none 0 0, .slice none 0 0, .nilFunc, .string ⟨#[]⟩], .iface 76 (.int .i64 z)]) ?_ rfl ⟨rfl, ?_⟩
  · simp [results, Tryz.results101, go_sem, z0, z1, z2, z3, z4]
  · exact set5_below (on1K HB.out.1 HC.out.1 (Nat.le_refl _)) (by omega) _ _ _ _ _
set_option maxHeartbeats 16000000 in
set_option maxRecDepth 100000 in
theorem new_nil {w : World} {vk vb : Value} {L : List Kd} {B : List Bd} (c : Ch) (hK : IsK w vk L) (hP : Parts w L) (hz : SzK L) (hb : IsB w vb B) (hzb : SzB B) (hc : ChIs w c) (hcz : ChSz c) {gn gt : Value} {N : List Nd} {T : List Te} (hN : IsN w gn N) (hT : IsT w gt T) (zN : SzN N) (zT : SzT T) (lN : N.length ≤ maxLen) (lT : T.length ≤ maxLen) (h0 : doE L B c = 0) (hw : ¬ (c.wh = 3 ∨ c.wh = 4 ∨ c.wh = 7)) :
    Calls Tryz.prog 72 #[.agg #[vk, vb], c.one, .agg #[gn, gt]] w (NwP w L B c N T) := by
  have h1_w : ∀ W, Below w.heap.size w W → Calls Tryz.prog 101 #[.agg #[vk, vb], c.one] W fun e w' => ∃ u1 u2 u3 b1 b2 b3 k1 k2 k3 M, e = .returned (.tuple #[.agg #[.slice u1 u2 u3, .slice b1 b2 b3, .slice k1 k2 k3, .nilFunc, .string (drp c)], .nilIface]) ∧ M.map kq3 = (cK L c).map kq3 ∧ OwnKs w' W.heap.size (.slice u1 u2 u3) M ∧ OwnBs w' W.heap.size (.slice b1 b2 b3) (cB B c) ∧ IsS w' (.slice k1 k2 k3) (kdsA L c) ∧ Turns w' c (.nilFunc) ∧ Below W.heap.size W w' := fun W h => by
    refine (wayOf_ok c (hK.on h) (hP.on h) hz (hb.on h) hzb (hc.on h) hcz h0).mono ?_
    rintro e w' ⟨uk, ub, ks, fn, M, he, hM, hO, hOb, hS, hT1, hB⟩
    obtain ⟨x1, x3, rfl⟩ := own_slice hO.1
    obtain ⟨x4, x6, rfl⟩ := own_slice hOb
    obtain ⟨x7, x9, rfl⟩ := own_slice hS
    have hT2 := hT1
    rcases hT1 with ⟨x, _⟩ | ⟨x, _⟩ | ⟨x, _⟩ | ⟨_, _, _, e1⟩
    · exact absurd x (by omega)
    · exact absurd x (by omega)
    · exact absurd x (by omega)
    · subst e1; exact ⟨_, _, _, _, _, _, _, _, _, M, he, hM, hO, hOb, own_isS hS, hT2, hB⟩
  have hcn : ∀ W, Below w.heap.size w W → Calls Tryz.prog 53 #[.agg #[vk, vb], .agg #[gn, gt]] W fun e w' => e = .returned (.tuple #[.bool (confB L B N T), errV (inE L B N T)]) ∧ Below W.heap.size W w' := fun W h =>
    conforms_any ⟨_, _, rfl, hK.on h, hP.on h, hz, hb.on h, hzb⟩ ⟨_, _, rfl, hN.on h, hT.on h, zN, zT, lN, lT⟩
  have hcp : confB L B N T = true → ∀ W, Below w.heap.size w W → Calls Tryz.prog 76 #[.agg #[gn, gt]] W fun e w' => ∃ p1 l1 q1 p2 l2 q2 X, e = .returned (.agg #[.slice p1 l1 q1, .slice p2 l2 q2]) ∧ (cN X = cN N ∧ X.length ≤ 1000) ∧ OwnNs w' W.heap.size (.slice p1 l1 q1) X ∧ OwnTs w' W.heap.size (.slice p2 l2 q2) T ∧ Below W.heap.size W w' := fun hcf W h => by
    have hg := (conf_parts hcf).2.2
    have hl := gErr_parts hg
    refine (copied_any (hN.on h) (hT.on h) hl.1 hl.2.1 (fun n hn => by have := rErr_len (gErr_recs hg n hn); omega)).mono ?_
    rintro e w' ⟨un, ut, X, he, hX, hO, hOt, hB⟩
    obtain ⟨x1, x3, rfl⟩ := own_slice hO.1
    obtain ⟨x4, x6, rfl⟩ := own_slice hOt
    have hlx : X.length = N.length := by have := congrArg List.length hX; simpa [cN] using this
    exact ⟨_, _, _, _, _, _, X, he, ⟨hX, by omega⟩, hO, hOt, hB⟩
  obtain ⟨wh, nm, ⟨kn, ko, kf, vo, vf⟩, ⟨bn, bf, bt, mn, mx⟩, ⟨fnm, ft, fm, fk⟩, wt, wn, ws, tn⟩ := c
  obtain ⟨a1, c1, rfl, _⟩ := hK.sln
  obtain ⟨a2, c2, rfl, _⟩ := hb.sln
  obtain ⟨a3, c3, rfl, _⟩ := id hN
  obtain ⟨a4, c4, rfl, _⟩ := id hT
  obtain ⟨ao, lo1, co, q1⟩ := hc.1.sl
  obtain ⟨af, lf1, cf, q2⟩ := hc.2.sl
  simp only at q1 q2
  subst q1 q2
  obtain ⟨c0, hc0⟩ : ∃ c0 : Ch, c0 = ⟨wh, nm, ⟨kn, ko, kf, .slice ao lo1 co, .slice af lf1 cf⟩, ⟨bn, bf, bt, mn, mx⟩, ⟨fnm, ft, fm, fk⟩, wt, wn, ws, tn⟩ := ⟨_, rfl⟩
  have h18 : c0.one = .agg #[.int .i64 wh, .string (bs nm), .string (bs kn), .slice ao lo1 co, .slice af lf1 cf, .string (bs bn), .string (bs bf), .string (bs bt), .int .i64 mn, .int .i64 mx, .string (bs fnm), .int .i64 ft, .bool fm, .bool fk, .int .i64 wt, .int .i64 wn, .string (bs ws), .string (bs tn)] := by rw [hc0]
  rw [← hc0] at h0 h1_w ⊢
  rw [h18] at h1_w ⊢
  have hlk := kdsA_le L c0
  have HNW : Hid ((inE L B N T = 0 → confB L B N T = true → nwE L B c0 N T = 0) ∧ (inE L B N T = 0 → ¬ confB L B N T = true → nwE L B c0 N T = 6) ∧ (¬ inE L B N T = 0 → nwE L B c0 N T = inE L B N T)) := by
    refine ⟨fun h1 h2 => ?_, fun h1 h2 => ?_, fun h1 => ?_⟩
    · unfold nwE; rw [if_pos h0, if_pos h1, if_pos h2]
    · unfold nwE; rw [if_pos h0, if_pos h1, if_neg h2]
    · unfold nwE; rw [if_pos h0, if_neg h1]
  clear hK hP hz hb hzb hc hcz hN hT zN zT lN lT h0 hw hc0 h18 hlk
  obtain ⟨W0, hW0⟩ : ∃ W0, W0 = ((w.alloc (.cells #[.slice a1 L.length c1, .slice a2 B.length c2] 34)).alloc (.cells #[.int .i64 wh, .string (bs nm), .string (bs kn), .slice ao lo1 co, .slice af lf1 cf, .string (bs bn), .string (bs bf), .string (bs bt), .int .i64 mn, .int .i64 mx, .string (bs fnm), .int .i64 ft, .bool fm, .bool fk, .int .i64 wt, .int .i64 wn, .string (bs ws), .string (bs tn)] 58)).alloc (.cells #[.slice a3 N.length c3, .slice a4 T.length c4] 67) := ⟨_, rfl⟩
  have bx0 : Bx3 w (.slice a1 L.length c1) (.slice a2 B.length c2) (.slice a3 N.length c3) (.slice a4 T.length c4) #[.int .i64 wh, .string (bs nm), .string (bs kn), .slice ao lo1 co, .slice af lf1 cf, .string (bs bn), .string (bs bf), .string (bs bt), .int .i64 mn, .int .i64 mx, .string (bs fnm), .int .i64 ft, .bool fm, .bool fk, .int .i64 wt, .int .i64 wn, .string (bs ws), .string (bs tn)] W0 := by rw [hW0]; exact Bx3.mk3 _ _ _ _ _ _
  have s0 : W0.cell? ⟨w.heap.size, 0, none⟩ = some (.slice a1 L.length c1) := cell_at bx0.2.1 rfl
  have s1 : W0.cell? ⟨w.heap.size, 1, none⟩ = some (.slice a2 B.length c2) := cell_at bx0.2.1 rfl
  have HN := Lib.hid bx0.2.2.1
  have cW := h1_w W0 bx0.1
  have HB0 := Lib.hid bx0
  have HCn := Lib.hid hcn
  have HCp := Lib.hid hcp
  clear h1_w hcn hcp bx0
  have hst := fun (a : Addr) (W : World) => run_store Tryz.prog W a .nilFunc .plain rfl
  go_enter Tryz.func72, Tryz.ntmps72
  go_upto_region 1 with fail
  rw [← hW0]
  clear hW0
  go_upto_region 2 with (first | (refine wpList_load_row rfl 58 (.tmp 4) rfl (w.heap.size + 1) rfl 58 _ (0, 0) _ HN.out Tryz.underlying58 rfl info37 ?_) | (go_at_call 101; refine cW.mono ?_; rintro e W1 ⟨u1, u2, u3, b1, b2, b3, k1, k2, k3, M, rfl, hM, hO, hOb, hS, hTn, hB1⟩) | (refine wpList_store_new rfl 222 (.tmp 8) (.tmp 16) rfl _ _ rfl rfl info71 rfl rfl ?_))
  obtain ⟨W2, hW2⟩ : ∃ W2, W2 = W1.alloc (.cells #[.slice u1 u2 u3, .slice b1 b2 b3, .slice k1 k2 k3, .nilFunc, .string (drp c0)] 222) := ⟨_, rfl⟩
  have hBa : Below W1.heap.size W1 W2 := by rw [hW2]; exact b_alloc (Below.refl _ _) _
  have hq : W2.heap[W1.heap.size]? = some (.cells #[.slice u1 u2 u3, .slice b1 b2 b3, .slice k1 k2 k3, .nilFunc, .string (drp c0)] 222 (0, 0)) := by rw [hW2]; exact heap_alloc_new W1 _
  have bx2 := (HB0.out.on hB1).on hBa
  have HP : Hid (Bx3 w (.slice a1 L.length c1) (.slice a2 B.length c2) (.slice a3 N.length c3) (.slice a4 T.length c4) #[.int .i64 wh, .string (bs nm), .string (bs kn), .slice ao lo1 co, .slice af lf1 cf, .string (bs bn), .string (bs bf), .string (bs bt), .int .i64 mn, .int .i64 mx, .string (bs fnm), .int .i64 ft, .bool fm, .bool fk, .int .i64 wt, .int .i64 wn, .string (bs ws), .string (bs tn)] W2 ∧ W2.heap[W1.heap.size]? = some (.cells #[.slice u1 u2 u3, .slice b1 b2 b3, .slice k1 k2 k3, .nilFunc, .string (drp c0)] 222 (0, 0)) ∧ M.map kq3 = (cK L c0).map kq3 ∧ IsK W2 (.slice u1 u2 u3) M ∧ Parts W2 M ∧ IsB W2 (.slice b1 b2 b3) (cB B c0) ∧ IsS W2 (.slice k1 k2 k3) (kdsA L c0) ∧ Turns W2 c0 (.nilFunc)) := ⟨bx2, hq, hM, hO.isK.on hBa, hO.parts.on hBa, hOb.isB.on hBa, hS.on hBa, hTn.on hBa⟩
  have s0 : W2.cell? ⟨w.heap.size, 0, none⟩ = some (.slice a1 L.length c1) := cell_at bx2.2.1 rfl
  have s1 : W2.cell? ⟨w.heap.size, 1, none⟩ = some (.slice a2 B.length c2) := cell_at bx2.2.1 rfl
  have g0 : W2.cell? ⟨w.heap.size + 2, 0, none⟩ = some (.slice a3 N.length c3) := cell_at bx2.2.2.2 rfl
  have g1 : W2.cell? ⟨w.heap.size + 2, 1, none⟩ = some (.slice a4 T.length c4) := cell_at bx2.2.2.2 rfl
  have cC := HCn.out W2 bx2.1
  rw [← hW2]
  clear hM hO hOb hS hTn hB1 hBa hq bx2 hW2 cW HN HB0 HCn
  generalize W1.heap.size = q at *
  by_cases hie : inE L B N T = 0
  · rw [hie, errV_0] at cC
    by_cases hcf : confB L B N T = true
    · have hnw := HNW.out.1 hie hcf
      rw [hcf] at cC
      have hcp := HCp.out hcf
      clear HCp HNW hie hcf
      go_upto_region 9 with (go_at_call 53; refine cC.mono ?_; rintro e W3 ⟨rfl, hB3⟩)
      have cc := hcp W3.drew (b_drew (on1K HP.out.1.1 hB3 (Nat.le_refl _)))
      have HC : Hid (∀ W4, Below W3.heap.size W3 W4 → ((W4.cell? ⟨q, 0, none⟩ = some (.slice u1 u2 u3) ∧ W4.cell? ⟨q, 1, none⟩ = some (.slice b1 b2 b3) ∧ W4.cell? ⟨q, 2, none⟩ = some (.slice k1 k2 k3) ∧ W4.cell? ⟨q, 3, none⟩ = some (.nilFunc) ∧ W4.cell? ⟨q, 4, none⟩ = some (.string (drp c0))) ∧ W4.cell? ⟨w.heap.size + 2, 0, none⟩ = some (.slice a3 N.length c3) ∧ W4.cell? ⟨w.heap.size + 2, 1, none⟩ = some (.slice a4 T.length c4)) ∧ (W2.heap.size ≤ W4.heap.size ∧ Below W2.heap.size W2 W4)) := fun W4 h4 => by
        have h24 := on1K hB3 h4 (Nat.le_refl _)
        have k1 := (h24.block _ (Array.getElem?_eq_some_iff.1 HP.out.2.1).1).trans HP.out.2.1
        have k2 := (HP.out.1.on h24).2.2.2
        exact ⟨⟨⟨cell_at k1 rfl, cell_at k1 rfl, cell_at k1 rfl, cell_at k1 rfl, cell_at k1 rfl⟩, cell_at k2 rfl, cell_at k2 rfl⟩, h24.size, h24⟩
      obtain ⟨⟨⟨z0, z1, z2, z3, z4⟩, z5, z6⟩, _⟩ := HC.out W3 (Below.refl _ _)
      clear hcp cC hB3 s0 s1 g0 g1
      first | (go_region_held (fun w' => (w'.cell? ⟨q, 0, none⟩ = some (.slice u1 u2 u3) ∧ w'.cell? ⟨q, 1, none⟩ = some (.slice b1 b2 b3) ∧ w'.cell? ⟨q, 2, none⟩ = some (.slice k1 k2 k3) ∧ w'.cell? ⟨q, 3, none⟩ = some (.nilFunc) ∧ w'.cell? ⟨q, 4, none⟩ = some (.string (drp c0))) ∧ w'.cell? ⟨w.heap.size + 2, 0, none⟩ = some (.slice a3 N.length c3) ∧ w'.cell? ⟨w.heap.size + 2, 1, none⟩ = some (.slice a4 T.length c4)) (go_keep) (first | (go_at_call 76; refine cc.mono ?_; rintro e W4 ⟨p1, l1, q1, p2, l2, q2, X, rfl, hX, hO, hOt, hB4'⟩; have hB4 := b_undrew hB4'; obtain ⟨⟨⟨v0, v1, v2, v3, v4⟩, v5, v6⟩, _, h24⟩ := HC.out W4 hB4; have HX := Lib.hid (And.intro hX (And.intro hO (And.intro hOt h24))); clear hX hO hOt hB4 hB4' h24))) | fail
      all_goals
        obtain ⟨W5, hW5⟩ : ∃ W5, W5 = W4.alloc (.cells #[.slice u1 u2 u3, .slice b1 b2 b3, .slice k1 k2 k3, .nilFunc, .string (drp c0), .slice p1 l1 q1, .slice p2 l2 q2, .slice none 0 0, .int .i64 0] 226) := ⟨_, rfl⟩
        rw [← hW5]
        have hq5 : W5.heap[W4.heap.size]? = some (.cells #[.slice u1 u2 u3, .slice b1 b2 b3, .slice k1 k2 k3, .nilFunc, .string (drp c0), .slice p1 l1 q1, .slice p2 l2 q2, .slice none 0 0, .int .i64 0] 226 (0, 0)) := by rw [hW5]; exact heap_alloc_new W4 _
        have hB45 : Below W4.heap.size W4 W5 := by rw [hW5]; exact b_alloc (Below.refl _ _) _
        have cR := restart_any (base := W4.heap.size) hq5 (Nat.le_refl _) hB45.size (HX.out.2.1.isN.on hB45) HX.out.1.2
        have HB45 := Lib.hid hB45
        clear hW5 hq5 hB45 v0 v1 v2 v3 v4 v5 v6 z0 z1 z2 z3 z4 z5 z6 cc HC
        go_wp2_with (go_at_call 102; refine cR.mono ?_; rintro e W6 ⟨u, rfl, r1, r2, r3, _⟩; have HR := Lib.hid (And.intro r1 (And.intro r2 r3)); clear r1 r2 r3)
        go_ret2
        obtain ⟨hX, hO, hOt, h24⟩ := HX.out
        obtain ⟨bx, _, hM, i1, i2, i3, i4, i5⟩ := HP.out
        exact nwP_ok hnw hM hX.1 (on1K bx.1 h24 (Nat.le_refl _)) (mv_new (i1.on h24) (i2.on h24) (i3.on h24) (i4.on h24) (i5.on h24) hO.isN hOt.isT HR.out.1 HR.out.2.1 (HB45.out.trans HR.out.2.2))
    · have hnw := HNW.out.2.1 hie hcf
      rw [Bool.not_eq_true] at hcf
      rw [hcf] at cC
      clear HCp HNW hie hcf
      go_wp2_with (go_at_call 53; refine cC.mono ?_; rintro e W3 ⟨rfl, hB3⟩)
      go_ret2
      exact nwP_bad hnw (by decide) (on1K HP.out.1.1 hB3 (Nat.le_refl _))
  · have hnw := HNW.out.2.2 hie
    rw [errV_ne hie] at cC
    generalize inE L B N T = ie at *
    clear HCp HNW
    go_wp2_with (go_at_call 53; refine cC.mono ?_; rintro e W3 ⟨rfl, hB3⟩)
    go_ret2
    exact nwP_bad hnw hie (on1K HP.out.1.1 hB3 (Nat.le_refl _))
end Go.Proofs.YtahamkajkkkjdaaGreatDoor
