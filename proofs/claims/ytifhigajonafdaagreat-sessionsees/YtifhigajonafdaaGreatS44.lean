/-
  The walk of Do, where the op can be done.
-/
import Derived.Test.YtifhigajonafdaaGreatS40
import Derived.Deep.RegionHeld3
namespace Go.Proofs.YtifhigajonafdaaGreat
open Go.RowKit Go.Maps
set_option linter.unusedVariables false
set_option linter.unusedSimpArgs false

def DoC (w : World) (X : List Nd) (U : List Te) (s5 s6 : Value) (wx : World) : Prop :=
  ∃ q un ut M, s5 = .pointer (some ⟨q, 0, none⟩) ∧ s6 = .nilIface ∧ wx.heap[q]? = some (.cells #[un, ut] 29 (0, 0)) ∧ w.heap.size ≤ q ∧ cN M = X ∧ OwnNs wx w.heap.size un M ∧ OwnTs wx w.heap.size ut U ∧ gErr M U = 0 ∧ Below w.heap.size w wx
theorem doC_alloc {w W2 : World} {un ut : Value} {X M : List Nd} {U : List Te} {B : Nat} (hB : w.heap.size ≤ B) (h1 : OwnNs W2 B un M) (h2 : OwnTs W2 B ut U) (h3 : cN M = X) (h4 : gErr M U = 0) (h6 : Below w.heap.size w W2) :
    DoC w X U (.pointer (some ⟨W2.heap.size, 0, none⟩)) .nilIface (W2.alloc (.cells #[un, ut] 29)) := by
  have hb : Below W2.heap.size W2 (W2.alloc (.cells #[un, ut] 29)) := b_alloc (Below.refl _ _) _
  exact ⟨W2.heap.size, un, ut, M, rfl, rfl, heap_alloc_new W2 _, h6.size, h3, (h1.kt (.of_below hb) (.of_below hb)).base hB, own_base (h2.kt (.of_below hb)) hB, h4, on1K h6 hb (Nat.le_refl _)⟩
theorem doC_set {w W2 : World} {un ut z1 z2 : Value} {X M : List Nd} {U : List Te} {B p2 : Nat} (hp2 : W2.heap[p2]? = some (.cells #[z1, z2] 29 (0, 0))) (hp0 : w.heap.size ≤ p2) (hB : w.heap.size ≤ B) (h1 : OwnNs W2 B un M) (h2 : OwnTs W2 B ut U) (h3 : cN M = X) (h4 : gErr M U = 0) (h6 : Below w.heap.size w W2) :
    DoC w X U (.pointer (some ⟨p2, 0, none⟩)) .nilIface ((W2.setCell ⟨p2, 0, none⟩ un).setCell ⟨p2, 1, none⟩ ut) := by
  have ty : Ty W2 p2 29 := ⟨_, hp2⟩
  have k : ∀ t, 29 ≠ t → Kt t W2 ((W2.setCell ⟨p2, 0, none⟩ un).setCell ⟨p2, 1, none⟩ ut) := fun t ht => ((Kt.refl _ _).ty ty ht _ _).ty (ty.set _ _ _) ht _ _
  exact ⟨p2, un, ut, M, rfl, rfl, heap_setCell_same _ _ 1 _ 29 _ (heap_setCell_same W2 _ 0 _ 29 _ hp2), hp0, h3, (h1.kt (k _ (by decide)) (k _ (by decide))).base hB, own_base (h2.kt (k _ (by decide))) hB, h4, (h6.setCell hp0 _).setCell hp0 _⟩

structure Ap5 (w : World) (q g b0 nb : Nat) (cs : Array Value) (u1 u2 : Value) (W : World) : Prop where
  bx : Bx w.heap.size [q] w W
  nw : W.heap[nb]? = some (.cells cs 56 (0, 0))
  op : W.heap[b0]? = some (.cells cs 56 (0, 0))
  gr : W.heap[g]? = some (.cells #[u1, u2] 29 (0, 0))
  le : w.heap.size ≤ W.heap.size
theorem Ap5.set {w W : World} {q g b0 nb : Nat} {cs : Array Value} {u1 u2 : Value} (h : Ap5 w q g b0 nb cs u1 u2 W) (hq : q < w.heap.size) (h1 : w.heap.size ≤ g) (h2 : w.heap.size ≤ b0) (h3 : w.heap.size ≤ nb) (i : Nat) (u : Value) : Ap5 w q g b0 nb cs u1 u2 (W.setCell ⟨q, i, none⟩ u) :=
  ⟨bx_set h.bx (.inl (by simp)) _ _, (heap_setCell_other W _ _ _ (by show nb ≠ q; omega)).trans h.nw, (heap_setCell_other W _ _ _ (by show b0 ≠ q; omega)).trans h.op, (heap_setCell_other W _ _ _ (by show g ≠ q; omega)).trans h.gr, by have := h.le; simpa using this⟩
theorem Ap5.drew {w W : World} {q g b0 nb : Nat} {cs : Array Value} {u1 u2 : Value} (h : Ap5 w q g b0 nb cs u1 u2 W) : Ap5 w q g b0 nb cs u1 u2 W.drew := ⟨bx_drew h.bx, h.nw, h.op, h.gr, h.le⟩
theorem ap5_new {w W : World} {q g b0 : Nat} {cs : Array Value} {u1 u2 : Value} (hb : Bx w.heap.size [q] w W) (ho : W.heap[b0]? = some (.cells cs 56 (0, 0))) (hg : W.heap[g]? = some (.cells #[u1, u2] 29 (0, 0))) : Ap5 w q g b0 W.heap.size cs u1 u2 (W.alloc (.cells cs 56)) := by
  have k : Below W.heap.size W (W.alloc (.cells cs 56)) := b_alloc (Below.refl _ _) _
  exact ⟨bx_alloc hb hb.size _, heap_alloc_new W _, (k.block _ (Array.getElem?_eq_some_iff.1 ho).1).trans ho, (k.block _ (Array.getElem?_eq_some_iff.1 hg).1).trans hg, Nat.le_trans hb.size k.size⟩
theorem ap5_app {w W : World} {base q g b0 nb : Nat} {u1 u2 vo : Value} {O : List Opx} {o : Opx} (h : Ap5 w q g b0 nb o.cells.toArray u1 u2 W) (hb : base ≤ w.heap.size) (hO : OwnOs w base vo O) (ho : ∀ k, vo.ownBlock = some k → k ≠ q) (hl : O.length < 40) (hr : OwnRc W base o.nd.rv o.nd.rc) (hq : Ty w q 78) (h1 : w.heap.size ≤ g) (h2 : w.heap.size ≤ b0) :
    ∃ v' w', (Builtin.append_ #[30, 30] 30 #[vo, .slice (some ⟨nb, 0, none⟩) 1 1]).run Tryz.prog W = .ok v' w' ∧ ((∃ a n c, v' = .slice a n c) ∧ w'.heap[b0]? = some (.cells o.cells.toArray 56 (0, 0)) ∧ w'.heap[g]? = some (.cells #[u1, u2] 29 (0, 0)) ∧ w'.heap[q]? = W.heap[q]? ∧ OwnOs w' base v' (O ++ [o]) ∧ Moved w vo v' ∧ Bx w.heap.size (q :: vo.ownBlock.toList) w w' ∧ w.heap.size ≤ w'.heap.size ∧ W.grownBy w' vo.ownBlock) := by
  have hlt := own_lt hO.1
  have kW : ∀ t, t ≠ 78 → Kt t w W := fun t ht => kt_bx h.bx fun x hx => .inr ⟨78, fun e => ht e.symm, by rw [List.mem_singleton.1 hx]; exact hq⟩
  have hOW : OwnOs W base vo O := ⟨own_blk hO.1 fun k hk => h.bx.block k (hlt k hk).2.1 (by simpa using ho k hk), fun x hx => (hO.2 x hx).kt (kW _ (by decide))⟩
  obtain ⟨v', w', r1, r2, r3, r4, r5⟩ := ops_app (g0 := nb) hOW hr hl (fun j u hu => by
    rw [Addr.add_lit, Nat.zero_add]
    exact cell_at h.nw (by simpa using hu)) (Nat.le_trans hb h.le)
  have hbk : ∀ x, w.heap.size ≤ x → x < W.heap.size → w'.heap[x]? = W.heap[x]? := fun x hx hxl => r3.block x hxl (fun e => by
    have := (hlt x e.symm).2.1; omega)
  refine ⟨v', w', r1 _, r5, (hbk _ h2 (Array.getElem?_eq_some_iff.1 h.op).1).trans h.op, (hbk _ h1 (Array.getElem?_eq_some_iff.1 h.gr).1).trans h.gr, r3.block q (Nat.lt_of_lt_of_le (by obtain ⟨cs, e⟩ := hq; exact (Array.getElem?_eq_some_iff.1 e).1) h.le) (fun e => ho q e.symm rfl), r2, ?_, ?_, Nat.le_trans h.le r3.size, r3⟩
  · rcases r4 with e | ⟨k, e, hk⟩
    · exact .inl e
    · exact .inr ⟨k, e, Nat.le_trans h.le hk⟩
  · exact (h.bx.sub (fun x hx => by rw [List.mem_singleton.1 hx]; exact List.mem_cons_self ..)).trans (.of_grown r3 h.le (fun k hk => .inl (by simp [hk])))

set_option maxHeartbeats 8000000 in
set_option maxRecDepth 100000 in
theorem sdo_in {w : World} {base p : Nat} {l : Bl} {s : Bs} (hl' : BeL w base p l s) (hok : BsOk s) {i : Int} {x : Ss} (hF : s.F i = some x) (hl : x.O.length < 40) {o : Opx} (hR : IsR w o.nd.rv o.nd.rc) (zo : OpSz o) (hrc : o.nd.rc.length ≤ 2932031007402) (e0 : opE o x.eN x.eT = 0) (hb : base ≤ w.heap.size) :
    Calls Tryz.prog 7 #[.pointer (some ⟨p, 0, none⟩), .int .i64 i, o.one] w fun e w' => e = .returned .nilIface ∧ (Be w' base p (doS s i x o) ∧ Fr base w w') ∧ Bx w.heap.size (l.q i :: (l.v i).ownBlock.toList) w w' := by
  obtain ⟨hsok, hi64⟩ := hok.so i x hF
  obtain ⟨vn, vt, un, ut, K, M, n, O, hq, hg, ⟨hO, hOw⟩, ⟨hc, hN, hT⟩, hS, hnb, hqb, hmb⟩ := (hl'.ss i x hF).1
  have HL : Hid (BeL w base p l s) := hl'
  have HQ : Hid (w.heap[l.q i]? = some (.cells #[vn, vt, l.v i, un, ut, .map (some (l.m i))] 78 (0, 0)) ∧ (cN K = x.gN ∧ OwnNs w base vn K ∧ OwnTs w base vt x.gT)) := ⟨hq, hg⟩
  have hgM : gErr M x.eT = 0 := by rw [← gErr_c, hc]; exact hsok.eg
  obtain ⟨zM, zT⟩ := gErr_sz hgM
  obtain ⟨av0, cv0, e1⟩ := own_slice hg.2.1.1
  obtain ⟨at0, ct0, e2⟩ := own_slice hg.2.2
  obtain ⟨ao, co, e3⟩ := own_slice hOw.1
  obtain ⟨an, cn, e4⟩ := own_slice hN.1
  obtain ⟨am, cm, e5⟩ := own_slice hT
  have hOl : O.length < 40 := by
    have : (cO O).length = x.O.length := by rw [hO]
    simp [cO] at this
    omega
  have hplt : p < w.heap.size := (Array.getElem?_eq_some_iff.1 hl'.cs).1
  have hqlt : l.q i < w.heap.size := (Array.getElem?_eq_some_iff.1 hq).1
  obtain ⟨W0, hW0⟩ : ∃ W0, W0 = w.alloc (.cells (opA o) 56) := ⟨_, rfl⟩
  have hB0 : Below w.heap.size w W0 := by rw [hW0]; exact b_alloc (Below.refl _ _) _
  have n0 : W0.heap[w.heap.size]? = some (.cells (opA o) 56 (0, 0)) := by rw [hW0]; exact heap_alloc_new w _
  have hs0' : W0.heap.size = w.heap.size + 1 := by rw [hW0]; simp
  have hcs0 := (hB0.block p hplt).trans hl'.cs
  have hq0 := (hB0.block _ hqlt).trans hq
  have hmp := hl'.mp.of_block (hB0.block _ hl'.mp.lt)
  have hlook := smap_look hmp hi64 (q := l.q i) (by show (s.F i).map _ = _; rw [hF]; rfl)
  have y0 : W0.cell? ⟨p, 4, none⟩ = some (.map (some l.mb)) := cell_at hcs0 rfl
  rw [e3, e4, e5] at hq0
  have y2 : W0.cell? ⟨l.q i, 2, none⟩ = some (.slice ao O.length co) := cell_at hq0 rfl
  have y3 : W0.cell? ⟨l.q i, 3, none⟩ = some (.slice an M.length cn) := cell_at hq0 rfl
  have y4 : W0.cell? ⟨l.q i, 4, none⟩ = some (.slice am x.eT.length cm) := cell_at hq0 rfl
  have hne : ¬ l.q i = w.heap.size := by omega
  have hne1 : ¬ p = w.heap.size := by omega
  obtain ⟨av, lv, cv, hv⟩ := hR.sl
  have hO40 : ¬ ((O.length : Int) = 40) := by omega
  have hcc : opS.e o (cN M) x.eT = 0 := by rw [hc]; exact e0
  have HD1 : Hid (∀ W, Below W0.heap.size W0 W → Calls Tryz.prog 20 #[.agg #[.slice an M.length cn, .slice am x.eT.length cm], o.one] W fun e w' => ∃ a n c a' n' c' M', e = .returned (.tuple #[.agg #[.slice a n c, .slice a' n' c'], .nilIface]) ∧ (cN M' = opM o x.eN x.eT ∧ OwnNs w' W0.heap.size (.slice a n c) M' ∧ OwnTs w' W0.heap.size (.slice a' n' c') (opT o x.eN x.eT) ∧ gErr M' (opT o x.eN x.eT) = 0) ∧ Below W.heap.size W w') := fun W hB => by
    have hw : Below w.heap.size w W := on1K hB0 hB (Nat.le_refl _)
    rw [e4] at hN
    rw [e5] at hT
    refine (do_in opS ((hN.kt (.of_below hw) (.of_below hw)).isN) ((hT.kt (.of_below hw)).isT) zM zT hgM (hR.on hw) zo (apply_all o) (keeps_all o)).mono fun e w' hP => ?_
    obtain ⟨hB1, ⟨_, un, ut, M', rfl, q1, q2, q3, q4⟩ | ⟨h1, _⟩⟩ := hP
    · obtain ⟨a, c, rfl⟩ := own_slice q2.1
      obtain ⟨a', c', rfl⟩ := own_slice q3
      rw [hc] at q1 q3 q4
      exact ⟨_, _, _, _, _, _, M', rfl, ⟨q1, q2.base hB.size, own_base q3 hB.size, q4⟩, hB1⟩
    · exact absurd hcc h1
  have HR : Hid (IsR w o.nd.rv o.nd.rc ∧ o.nd.rc.length ≤ 2932031007402) := ⟨hR, hrc⟩
  have HB0 := Lib.hid (And.intro hB0 n0)
  have HE := Lib.hid (And.intro e1 (And.intro e2 (And.intro e3 (And.intro e4 e5))))
  have HOw := Lib.hid (And.intro hO hOw)
  generalize hX : opM o x.eN x.eT = X at HD1
  generalize hU : opT o x.eN x.eT = U at HD1
  have HXU := Lib.hid (And.intro hX hU)
  have HOo : Hid (o = o) := rfl
  obtain ⟨o', ho'⟩ : ∃ o', o' = o := ⟨o, rfl⟩
  have HO' := Lib.hid ho'
  rw [← ho'] at HR HB0
  clear ho' hl' hq hg hO hOw hc hN hT hS hgM zM zT hB0 hcs0 hmp hq0 hcc hR e1 e2 e3 e4 e5 hX hU hsok hi64 e0 hok zo hrc HOo
  obtain ⟨wh, ⟨id, kd, rv, rc⟩, ⟨nm, pt, pn, ps⟩, ⟨bd, fr, tt⟩⟩ := o
  simp only at hv
  subst hv
  unfold opA at n0 hW0
  simp only at n0 hW0
  have c0 : W0.cell? ⟨w.heap.size, 0, none⟩ = some (.int .i64 wh) := cell_at n0 rfl
  have c1 : W0.cell? ⟨w.heap.size, 1, none⟩ = some (.int .i64 id) := cell_at n0 rfl
  have c2 : W0.cell? ⟨w.heap.size, 2, none⟩ = some (.string kd) := cell_at n0 rfl
  have c3 : W0.cell? ⟨w.heap.size, 3, none⟩ = some (.slice av lv cv) := cell_at n0 rfl
  have c4 : W0.cell? ⟨w.heap.size, 4, none⟩ = some (.string nm) := cell_at n0 rfl
  have c5 : W0.cell? ⟨w.heap.size, 5, none⟩ = some (.int .i64 pt) := cell_at n0 rfl
  have c6 : W0.cell? ⟨w.heap.size, 6, none⟩ = some (.int .i64 pn) := cell_at n0 rfl
  have c7 : W0.cell? ⟨w.heap.size, 7, none⟩ = some (.string ps) := cell_at n0 rfl
  have c8 : W0.cell? ⟨w.heap.size, 8, none⟩ = some (.string bd) := cell_at n0 rfl
  have c9 : W0.cell? ⟨w.heap.size, 9, none⟩ = some (.int .i64 fr) := cell_at n0 rfl
  have c10 : W0.cell? ⟨w.heap.size, 10, none⟩ = some (.int .i64 tt) := cell_at n0 rfl
  have HN0 : Hid (W0.heap[w.heap.size]? = some (.cells #[.int .i64 wh, .int .i64 id, .string kd, .slice av lv cv, .string nm, .int .i64 pt, .int .i64 pn, .string ps, .string bd, .int .i64 fr, .int .i64 tt] 56 (0, 0))) := n0
  have HS0 := Lib.hid hs0'
  clear n0
  go_enter Tryz.func7, Tryz.ntmps7
  go_upto_region 1 with fail
  rw [← hW0]
  clear hW0
  go_upto_region 6 with fail
  clear hlook y0 y2
  go_cut [9, 10] (fun s9 s10 wx => DoC W0 X U s9 s10 wx)
  case first =>
    (go_region_law (first | (go_simp; go_at_call 20; refine (HD1.out _ (by first | exact b_drew (Below.refl _ _) | exact b_alloc (b_drew (Below.refl _ _)) _)).mono ?_; rintro e W2 ⟨a1, n1, c1', a2, n2, c2', M', rfl, hO, hB2'⟩; have hb2 : Hid (Below W0.heap.size W0 W2) := on1K (by first | exact b_drew (Below.refl _ _) | exact b_alloc (b_drew (Below.refl _ _)) _) hB2' (Nat.le_refl _); (try (have kb : W2.heap[w.heap.size + 1]? = some (.cells #[.slice none 0 0, .slice none 0 0] 29 (0, 0)) := (hB2'.block _ (by simp [hs0'])).trans (by have := heap_alloc_new W0.drew (.cells #[.slice none 0 0, .slice none 0 0] 29); rw [show W0.drew.heap.size = w.heap.size + 1 from hs0'] at this; exact this); have y5 : W2.cell? ⟨w.heap.size + 1, 0, none⟩ = some (.slice none 0 0) := cell_at kb rfl; have y6 : W2.cell? ⟨w.heap.size + 1, 1, none⟩ = some (.slice none 0 0) := cell_at kb rfl; have f5 : W2.frozen? ⟨w.heap.size + 1, 0, none⟩ = false := frz_at kb; have f6 : W2.frozen? ⟨w.heap.size + 1, 1, none⟩ = false := frz_at kb; replace kb := Lib.hid kb)); have HO := Lib.hid hO; clear hO hB2')))
    all_goals
      go_wp2
      go_meet
      first
        | exact doC_alloc (Nat.le_refl _) HO.out.2.1 HO.out.2.2.1 HO.out.1 HO.out.2.2.2 hb2.out
        | exact doC_set kb.out (by omega) (Nat.le_refl _) HO.out.2.1 HO.out.2.2.1 HO.out.1 HO.out.2.2.2 hb2.out
  case rest =>
  obtain ⟨g, un1, ut1, M', rfl, rfl, r1, r1', r2, r3, r4, r5, r6⟩ := hcut
  obtain ⟨a1, d1, hv1⟩ := own_slice r3.1
  obtain ⟨a2, d2, hv2⟩ := own_slice r4
  subst hv1 hv2
  have hwc : Below w.heap.size w wc := on1K HB0.out.1 r6 (Nat.le_refl _)
  have nc := (r6.block _ (by have := HS0.out; omega)).trans HN0.out
  have qc := (hwc.block _ hqlt).trans HQ.out.1
  have cN := copiedNode_big ⟨id, kd, .slice av lv cv, rc⟩ wc (by have := HR.out.1.on hwc; rw [HO'.out] at this; exact this) (by have := HR.out.2; rw [HO'.out] at this; exact this)
  have z1 : wc.cell? ⟨w.heap.size, 1, none⟩ = some (.int .i64 id) := cell_at nc rfl
  have z2 : wc.cell? ⟨w.heap.size, 2, none⟩ = some (.string kd) := cell_at nc rfl
  have z3 : wc.cell? ⟨w.heap.size, 3, none⟩ = some (.slice av lv cv) := cell_at nc rfl
  have HC := Lib.hid (And.intro r1 (And.intro r1' (And.intro r2 (And.intro r3 (And.intro r4 (And.intro r5 (And.intro r6 (And.intro hwc (And.intro nc qc)))))))))
  clear r1 r1' r2 r3 r4 r5 r6 hwc nc qc c0 c1 c2 c3 c4 c5 c6 c7 c8 c9 c10 y3 y4
  go_upto_region 9 with fail
  go_wp2_with (first | (go_at_call 21; refine cN.mono ?_; rintro e W2 ⟨v1, rfl, hrc2, hB2⟩; refine Hid.out ?_))
  refine Lib.hid ?_
  obtain ⟨r1, r1', r2, r3, r4, r5, r6, hwc, nc, qc⟩ := HC.out
  obtain ⟨a3, d3, hv3⟩ := own_slice hrc2
  subst hv3
  have hzc := hwc.size
  have hw2 : Below w.heap.size w W2 := on1K hwc hB2 (Nat.le_refl _)
  have n2 := (hB2.block _ (Array.getElem?_eq_some_iff.1 nc).1).trans nc
  have q2 := (hB2.block _ (by omega)).trans qc
  have g2 := (hB2.block _ (Array.getElem?_eq_some_iff.1 r1).1).trans r1
  have k1 : W2.cell? ⟨w.heap.size, 1, none⟩ = some (.int .i64 id) := cell_at n2 rfl
  have k2 : W2.cell? ⟨w.heap.size, 2, none⟩ = some (.string kd) := cell_at n2 rfl
  have k3 : W2.cell? ⟨w.heap.size, 3, none⟩ = some (.slice av lv cv) := cell_at n2 rfl
  have j1 : W2.frozen? ⟨w.heap.size, 1, none⟩ = false := frz_at n2
  have j2 : W2.frozen? ⟨w.heap.size, 2, none⟩ = false := frz_at n2
  have j3 : W2.frozen? ⟨w.heap.size, 3, none⟩ = false := frz_at n2
  obtain ⟨W5, hW5⟩ : ∃ W5, W5 = ((W2.setCell ⟨w.heap.size, 1, none⟩ (.int .i64 id)).setCell ⟨w.heap.size, 2, none⟩ (.string kd)).setCell ⟨w.heap.size, 3, none⟩ (.slice a3 rc.length d3) := ⟨_, rfl⟩
  have hz5 : W5.heap.size = W2.heap.size := by rw [hW5]; simp
  have hz2 := hw2.size
  have n5 : W5.heap[w.heap.size]? = some (.cells #[.int .i64 wh, .int .i64 id, .string kd, .slice a3 rc.length d3, .string nm, .int .i64 pt, .int .i64 pn, .string ps, .string bd, .int .i64 fr, .int .i64 tt] 56 (0, 0)) := by
    rw [hW5]
    exact heap_setCell_same _ _ 3 _ 56 _ (heap_setCell_same _ _ 2 _ 56 _ (heap_setCell_same W2 _ 1 _ 56 _ n2))
  have b5 : ∀ x, x ≠ w.heap.size → W5.heap[x]? = W2.heap[x]? := fun x hx => by
    rw [hW5, heap_setCell_other _ _ _ _ hx, heap_setCell_other _ _ _ _ hx, heap_setCell_other _ _ _ _ hx]
  have hg5 := HS0.out
  have g5 := (b5 g (by omega)).trans g2
  have q5 := (b5 (l.q i) (by omega)).trans q2
  have hb5 : Bx w.heap.size [l.q i] w W5 := by
    rw [hW5]
    exact bx_set (bx_set (bx_set (.of_below hw2 (Nat.le_refl _)) (.inr (Nat.le_refl _)) _ _) (.inr (Nat.le_refl _)) _ _) (.inr (Nat.le_refl _)) _ _
  have t50 : Kt 52 W2 W5 := by
    rw [hW5]; exact (Kt.refl _ _).ty3 ⟨_, n2⟩ (by decide) _ _ _ _ _ _
  have t46 : Kt 48 W2 W5 := by
    rw [hW5]; exact (Kt.refl _ _).ty3 ⟨_, n2⟩ (by decide) _ _ _ _ _ _
  have t52 : Kt 54 W2 W5 := by
    rw [hW5]; exact (Kt.refl _ _).ty3 ⟨_, n2⟩ (by decide) _ _ _ _ _ _
  obtain ⟨e1, e2, e3, e4, e5⟩ := HE.out
  have hA := fun W (h : Ap5 w (l.q i) g w.heap.size W5.heap.size _ (.slice a1 M'.length d1) (.slice a2 U.length d2) W) (hk : Kt 52 W5 W) => ap5_app (o := ⟨wh, ⟨id, kd, .slice a3 rc.length d3, rc⟩, ⟨nm, pt, pn, ps⟩, ⟨bd, fr, tt⟩⟩) h hb (HOw.out.2) (fun k hk' e => by
    have := ((own_lt HOw.out.2.1) k hk').2.2
    exact Ty.ne this ⟨_, HQ.out.1⟩ (by decide) e) hOl (own_base ((hrc2.kt t50).kt hk) (by omega)) ⟨_, HQ.out.1⟩ (by omega) (Nat.le_refl _)
  rw [e3] at hA
  have HA := Lib.hid hA
  rw [e3, e4, e5] at q5
  have w0 : W5.cell? ⟨g, 0, none⟩ = some (.slice a1 M'.length d1) := cell_at g5 rfl
  have w1 : W5.cell? ⟨g, 1, none⟩ = some (.slice a2 U.length d2) := cell_at g5 rfl
  have c0 : W5.cell? ⟨w.heap.size, 0, none⟩ = some (.int .i64 wh) := cell_at n5 rfl
  have c1 : W5.cell? ⟨w.heap.size, 1, none⟩ = some (.int .i64 id) := cell_at n5 rfl
  have c2 : W5.cell? ⟨w.heap.size, 2, none⟩ = some (.string kd) := cell_at n5 rfl
  have c3 : W5.cell? ⟨w.heap.size, 3, none⟩ = some (.slice a3 rc.length d3) := cell_at n5 rfl
  have c4 : W5.cell? ⟨w.heap.size, 4, none⟩ = some (.string nm) := cell_at n5 rfl
  have c5 : W5.cell? ⟨w.heap.size, 5, none⟩ = some (.int .i64 pt) := cell_at n5 rfl
  have c6 : W5.cell? ⟨w.heap.size, 6, none⟩ = some (.int .i64 pn) := cell_at n5 rfl
  have c7 : W5.cell? ⟨w.heap.size, 7, none⟩ = some (.string ps) := cell_at n5 rfl
  have c8 : W5.cell? ⟨w.heap.size, 8, none⟩ = some (.string bd) := cell_at n5 rfl
  have c9 : W5.cell? ⟨w.heap.size, 9, none⟩ = some (.int .i64 fr) := cell_at n5 rfl
  have c10 : W5.cell? ⟨w.heap.size, 10, none⟩ = some (.int .i64 tt) := cell_at n5 rfl
  have q0 : W5.cell? ⟨l.q i, 2, none⟩ = some (.slice ao O.length co) := cell_at q5 rfl
  have q1 : W5.cell? ⟨l.q i, 3, none⟩ = some (.slice an M.length cn) := cell_at q5 rfl
  have q6 : W5.cell? ⟨l.q i, 4, none⟩ = some (.slice am x.eT.length cm) := cell_at q5 rfl
  have i0 : W5.frozen? ⟨l.q i, 2, none⟩ = false := frz_at q5
  have i1 : W5.frozen? ⟨l.q i, 3, none⟩ = false := frz_at q5
  have i2 : W5.frozen? ⟨l.q i, 4, none⟩ = false := frz_at q5
  have HF5 := Lib.hid (And.intro n5 (And.intro g5 (And.intro q5 (And.intro hb5 (And.intro hz5 hz2)))))
  have HT5 := Lib.hid (And.intro t46 (And.intro t50 t52))
  have HW5 := Lib.hid hW5
  have hlt5 : ¬ l.q i = W5.heap.size := by omega
  have hlt6 : ¬ w.heap.size = W5.heap.size := by rw [hz5]; have := (Array.getElem?_eq_some_iff.1 n2).1; omega
  have hlt7 : ¬ g = W5.heap.size := by rw [hz5]; have := (Array.getElem?_eq_some_iff.1 g2).1; omega
  have hlt8 : ¬ l.q i = g := by omega
  have H2 := Lib.hid (And.intro hrc2 hB2)
  clear r1 r2 r3 r4 r5 r6 hwc nc qc hw2 n2 q2 g2 b5 hb5 t50 t46 t52 e1 e2 e3 e4 e5 hA n5 g5 q5 hW5 hz5 hz2 hrc2 hB2 cN z1 z2 z3 hzc
  go_upto_region 10 with fail
  rw [← HW5.out]
  clear k1 k2 k3 j1 j2 j3
  have HP0 := Lib.hid (ap5_new HF5.out.2.2.2.1 HF5.out.1 HF5.out.2.1)
  have hKn : ∀ t, Kt t W5 (W5.alloc (.cells (Opx.cells ⟨wh, ⟨id, kd, .slice a3 rc.length d3, rc⟩, ⟨nm, pt, pn, ps⟩, ⟨bd, fr, tt⟩⟩).toArray 56)) := fun t => .of_below (b_alloc (Below.refl _ _) _)
  have HKn := Lib.hid hKn
  clear hKn
  have HA5 : Hid (∀ W, W = W5.alloc (.cells #[.int .i64 wh, .int .i64 id, .string kd, .slice a3 rc.length d3, .string nm, .int .i64 pt, .int .i64 pn, .string ps, .string bd, .int .i64 fr, .int .i64 tt] 56) ∨ W = (W5.alloc (.cells #[.int .i64 wh, .int .i64 id, .string kd, .slice a3 rc.length d3, .string nm, .int .i64 pt, .int .i64 pn, .string ps, .string bd, .int .i64 fr, .int .i64 tt] 56)).drew → ∃ v' w', (Builtin.append_ #[30, 30] 30 #[.slice ao O.length co, .slice (some ⟨W5.heap.size, 0, none⟩) 1 1]).run Tryz.prog W = .ok v' w' ∧
      ((∃ a n c, v' = .slice a n c) ∧ w'.heap[w.heap.size]? = some (.cells #[.int .i64 wh, .int .i64 id, .string kd, .slice a3 rc.length d3, .string nm, .int .i64 pt, .int .i64 pn, .string ps, .string bd, .int .i64 fr, .int .i64 tt] 56 (0, 0)) ∧ w'.heap[g]? = some (.cells #[.slice a1 M'.length d1, .slice a2 U.length d2] 29 (0, 0)) ∧ w'.heap[l.q i]? = some (.cells #[vn, vt, .slice ao O.length co, .slice an M.length cn, .slice am x.eT.length cm, .map (some (l.m i))] 78 (0, 0)) ∧
        ((Be (((w'.setCell ⟨l.q i, 3, none⟩ (.slice a1 M'.length d1)).setCell ⟨l.q i, 4, none⟩ (.slice a2 U.length d2)).setCell ⟨l.q i, 2, none⟩ v') base p (doS s i x ⟨wh, ⟨id, kd, .slice av lv cv, rc⟩, ⟨nm, pt, pn, ps⟩, ⟨bd, fr, tt⟩⟩) ∧ Fr base w (((w'.setCell ⟨l.q i, 3, none⟩ (.slice a1 M'.length d1)).setCell ⟨l.q i, 4, none⟩ (.slice a2 U.length d2)).setCell ⟨l.q i, 2, none⟩ v')) ∧ Bx w.heap.size (l.q i :: (l.v i).ownBlock.toList) w (((w'.setCell ⟨l.q i, 3, none⟩ (.slice a1 M'.length d1)).setCell ⟨l.q i, 4, none⟩ (.slice a2 U.length d2)).setCell ⟨l.q i, 2, none⟩ v')))) := fun W hW => by
    have hq0 : W.heap[l.q i]? = some (.cells #[vn, vt, .slice ao O.length co, .slice an M.length cn, .slice am x.eT.length cm, .map (some (l.m i))] 78 (0, 0)) := by
      have : (W5.alloc (.cells #[.int .i64 wh, .int .i64 id, .string kd, .slice a3 rc.length d3, .string nm, .int .i64 pt, .int .i64 pn, .string ps, .string bd, .int .i64 fr, .int .i64 tt] 56)).heap[l.q i]? = some (.cells #[vn, vt, .slice ao O.length co, .slice an M.length cn, .slice am x.eT.length cm, .map (some (l.m i))] 78 (0, 0)) := (Below.heap_alloc _ _ _ (Array.getElem?_eq_some_iff.1 HF5.out.2.2.1).1).trans HF5.out.2.2.1
      rcases hW with rfl | rfl <;> exact this
    have hk : ∀ t, Kt t W5 W := fun t => by rcases hW with rfl | rfl <;> exact HKn.out t
    have hap : Ap5 w (l.q i) g w.heap.size W5.heap.size #[.int .i64 wh, .int .i64 id, .string kd, .slice a3 rc.length d3, .string nm, .int .i64 pt, .int .i64 pn, .string ps, .string bd, .int .i64 fr, .int .i64 tt] (.slice a1 M'.length d1) (.slice a2 U.length d2) W := by
      rcases hW with rfl | rfl
      · exact HP0.out
      · exact HP0.out.drew
    obtain ⟨v', w', s0, s1, s2, s3, s4, s5, s6, s7, s8, s9⟩ := HA.out W hap (hk 52)
    have hOW := HOw.out.2.1
    rw [HE.out.2.2.1] at hOW
    have := own_lt hOW
    have hk9 : ∀ t, t ≠ 56 → Kt t W5 w' := fun t ht => (hk t).trans ⟨s9.size, fun b cs hb' => (s9.block b (Array.getElem?_eq_some_iff.1 hb').1 (fun e => by
      have t1 := (this b e.symm).2.2
      have t2 : Ty W b 56 := by
        obtain ⟨cs', h'⟩ := t1
        exact ⟨cs', (hap.bx.block b (this b e.symm).2.1 (by
          rw [List.mem_singleton]
          rintro rfl
          exact Ty.ne ⟨cs', h'⟩ ⟨_, HQ.out.1⟩ (by decide) rfl)).trans h'⟩
      exact Ty.ne t2 ⟨cs, hb'⟩ (fun q => ht q.symm) rfl)).trans hb'⟩
    have hqw := s4.trans hq0
    have hze : ∀ t, 78 ≠ t → Kt t w' (((w'.setCell ⟨l.q i, 3, none⟩ (.slice a1 M'.length d1)).setCell ⟨l.q i, 4, none⟩ (.slice a2 U.length d2)).setCell ⟨l.q i, 2, none⟩ v') := fun t ht => (Kt.refl _ _).ty3 ⟨_, hqw⟩ ht _ _ _ _ _ _
    obtain ⟨_, _, c2, c3, c4, _, c6, _, _, _⟩ := HC.out
    have hz0 := HS0.out
    have hbx : Bx w.heap.size (l.q i :: (l.v i).ownBlock.toList) w (((w'.setCell ⟨l.q i, 3, none⟩ (.slice a1 M'.length d1)).setCell ⟨l.q i, 4, none⟩ (.slice a2 U.length d2)).setCell ⟨l.q i, 2, none⟩ v') := (bx_set (bx_set (bx_set (by rw [HE.out.2.2.1]; exact s7) (.inl (List.mem_cons_self ..)) _ _) (.inl (List.mem_cons_self ..)) _ _) (.inl (List.mem_cons_self ..)) _ _)
    refine ⟨v', w', s0, s1, s2, s3, hqw, be_do (M := M') HL.out hb hF hbx HQ.out.1 HQ.out.2 (heap_setCell_same _ _ 2 _ 78 _ (heap_setCell_same _ _ 4 _ 78 _ (heap_setCell_same w' _ 3 _ 78 _ hqw))) (by
      show cO (O ++ _) = _
      rw [← HOw.out.1]
      unfold cO
      rw [List.map_append]
      rfl) ⟨own_kt s5.1 (hze _ (by decide)), fun y hy => (s5.2 y hy).kt (hze _ (by decide))⟩ (by rw [HE.out.2.2.1]; exact s6) ⟨by rw [HXU.out.1]; exact c2, ?_, ?_⟩, hbx⟩
    · exact (((((c3.kt (.of_below H2.out.2) (.of_below H2.out.2)).kt HT5.out.1 HT5.out.2.1).kt (hk9 _ (by decide)) (hk9 _ (by decide))).kt (hze _ (by decide)) (hze _ (by decide))).base (by omega))
    · rw [HXU.out.2]
      exact own_base ((((c4.kt (.of_below H2.out.2)).kt HT5.out.2.2).kt (hk9 _ (by decide))).kt (hze _ (by decide))) (by omega)
  have N0 : ∀ a v, W5.cell? a = some v → (W5.alloc (.cells #[.int .i64 wh, .int .i64 id, .string kd, .slice a3 rc.length d3, .string nm, .int .i64 pt, .int .i64 pn, .string ps, .string bd, .int .i64 fr, .int .i64 tt] 56)).cell? a = some v := fun a v ha => cell_old ha _
  have m0 := N0 _ _ w0
  have m1 := N0 _ _ w1
  have m2 := N0 _ _ q0
  clear N0
  (go_region_law ((refine step_append_E rfl (.tmp 52) (.tmp 54) 30 rfl (.slice ao O.length co) (.slice (some ⟨W5.heap.size, 0, none⟩) 1 1) (by simp [Act.eval, Act.put]) (by simp [Act.eval, Act.put]) (HA5.out _ (by first | exact .inl rfl | exact .inr rfl)) ?_; rintro v1 w1 ⟨⟨a6, n6, d6, rfl⟩, s2, s3, s4, s5⟩; have p0 := cell_at (i := 0) s3 rfl; have p1 := cell_at (i := 1) s3 rfl; have o0 := cell_at (i := 0) s2 rfl; have o1 := cell_at (i := 1) s2 rfl; have o2 := cell_at (i := 2) s2 rfl; have o3 := cell_at (i := 3) s2 rfl; have o4 := cell_at (i := 4) s2 rfl; have o5 := cell_at (i := 5) s2 rfl; have o6 := cell_at (i := 6) s2 rfl; have o7 := cell_at (i := 7) s2 rfl; have o8 := cell_at (i := 8) s2 rfl; have o9 := cell_at (i := 9) s2 rfl; have o10 := cell_at (i := 10) s2 rfl; have x2 := cell_at (i := 2) s4 rfl; have x3 := cell_at (i := 3) s4 rfl; have x4 := cell_at (i := 4) s4 rfl; have f2 := frz_at (i := 2) s4; have f3 := frz_at (i := 3) s4; have f4 := frz_at (i := 4) s4; have S5 := Lib.hid (And.intro s2 (And.intro s3 (And.intro s4 s5))); clear s2 s3 s4 s5)))
  all_goals
    go_wp2
    go_ret
    exact ⟨rfl, S5.out.2.2.2⟩
theorem sdo_yes {w : World} {base p : Nat} {s : Bs} (h : Be w base p s) (hok : BsOk s) {i : Int} {x : Ss} (hF : s.F i = some x) (hl : x.O.length < 40) {o : Opx} (hR : IsR w o.nd.rv o.nd.rc) (zo : OpSz o) (hrc : o.nd.rc.length ≤ 2932031007402) (e0 : opE o x.eN x.eT = 0) (hb : base ≤ w.heap.size) :
    Calls Tryz.prog 7 #[.pointer (some ⟨p, 0, none⟩), .int .i64 i, o.one] w fun e w' => e = .returned .nilIface ∧ Be w' base p (doS s i x o) ∧ Fr base w w' := by
  obtain ⟨l, hl'⟩ := h
  exact (sdo_in hl' hok hF hl hR zo hrc e0 hb).mono fun e w' h => ⟨h.1, h.2.1⟩
end Go.Proofs.YtifhigajonafdaaGreat

/-
  The walk of Do, where the op cannot be done.
-/
namespace Go.Proofs.YtifhigajonafdaaGreat
open Go.RowKit Go.Maps
set_option linter.unusedVariables false
set_option linter.unusedSimpArgs false

def DoE (w : World) (z : Int) (s6 : Value) (wx : World) : Prop := s6 = .iface 74 (.int .i64 z) ∧ Below w.heap.size w wx

set_option maxHeartbeats 8000000 in
set_option maxRecDepth 100000 in
theorem sdo_no {w : World} {base p : Nat} {s : Bs} (h : Be w base p s) (hok : BsOk s) {i : Int} {x : Ss} (hF : s.F i = some x) (hl : x.O.length < 40) {o : Opx} (hR : IsR w o.nd.rv o.nd.rc) (zo : OpSz o) (e0 : opE o x.eN x.eT ≠ 0) (hb : base ≤ w.heap.size) :
    Calls Tryz.prog 7 #[.pointer (some ⟨p, 0, none⟩), .int .i64 i, o.one] w fun e w' => (∃ v, e = .returned v) ∧ Below w.heap.size w w' := by
  obtain ⟨l, hl'⟩ := h
  obtain ⟨hsok, hi64⟩ := hok.so i x hF
  obtain ⟨vn, vt, un, ut, K, M, n, O, hq, hg, ⟨hO, hOw⟩, ⟨hc, hN, hT⟩, hS, hnb, hqb, hmb⟩ := (hl'.ss i x hF).1
  have hgM : gErr M x.eT = 0 := by rw [← gErr_c, hc]; exact hsok.eg
  obtain ⟨zM, zT⟩ := gErr_sz hgM
  obtain ⟨ao, co, e3⟩ := own_slice hOw.1
  obtain ⟨an, cn, e4⟩ := own_slice hN.1
  obtain ⟨am, cm, e5⟩ := own_slice hT
  have hOl : O.length < 40 := by
    have : (cO O).length = x.O.length := by rw [hO]
    simp [cO] at this
    omega
  have hplt : p < w.heap.size := (Array.getElem?_eq_some_iff.1 hl'.cs).1
  have hqlt : l.q i < w.heap.size := (Array.getElem?_eq_some_iff.1 hq).1
  obtain ⟨W0, hW0⟩ : ∃ W0, W0 = w.alloc (.cells (opA o) 56) := ⟨_, rfl⟩
  have hB0 : Below w.heap.size w W0 := by rw [hW0]; exact b_alloc (Below.refl _ _) _
  have n0 : W0.heap[w.heap.size]? = some (.cells (opA o) 56 (0, 0)) := by rw [hW0]; exact heap_alloc_new w _
  have hs0' : W0.heap.size = w.heap.size + 1 := by rw [hW0]; simp
  have hcs0 := (hB0.block p hplt).trans hl'.cs
  have hq0 := (hB0.block _ hqlt).trans hq
  have hmp := hl'.mp.of_block (hB0.block _ hl'.mp.lt)
  have hlook := smap_look hmp hi64 (q := l.q i) (by show (s.F i).map _ = _; rw [hF]; rfl)
  have y0 : W0.cell? ⟨p, 4, none⟩ = some (.map (some l.mb)) := cell_at hcs0 rfl
  rw [e3, e4, e5] at hq0
  have y2 : W0.cell? ⟨l.q i, 2, none⟩ = some (.slice ao O.length co) := cell_at hq0 rfl
  have y3 : W0.cell? ⟨l.q i, 3, none⟩ = some (.slice an M.length cn) := cell_at hq0 rfl
  have y4 : W0.cell? ⟨l.q i, 4, none⟩ = some (.slice am x.eT.length cm) := cell_at hq0 rfl
  have hne : ¬ l.q i = w.heap.size := by omega
  have hne1 : ¬ p = w.heap.size := by omega
  obtain ⟨av, lv, cv, hv⟩ := hR.sl
  have hO40 : ¬ ((O.length : Int) = 40) := by omega
  have hcc : ¬ opS.e o (cN M) x.eT = 0 := by rw [hc]; exact e0
  have HD1 : Hid (∀ W, Below W0.heap.size W0 W → Calls Tryz.prog 20 #[.agg #[.slice an M.length cn, .slice am x.eT.length cm], o.one] W fun e w' => e = .returned (.tuple #[.agg #[.slice none 0 0, .slice none 0 0], .iface 74 (.int .i64 (opE o (cN M) x.eT))]) ∧ Below W.heap.size W w') := fun W hB => by
    have hw : Below w.heap.size w W := on1K hB0 hB (Nat.le_refl _)
    rw [e4] at hN
    rw [e5] at hT
    refine (do_in opS ((hN.kt (.of_below hw) (.of_below hw)).isN) ((hT.kt (.of_below hw)).isT) zM zT hgM (hR.on hw) zo (apply_all o) (keeps_all o)).mono fun e w' hP => ?_
    obtain ⟨hB1, ⟨h1, _⟩ | ⟨h1, rfl⟩⟩ := hP
    · exact absurd h1 hcc
    · refine ⟨?_, hB1⟩
      rw [errV_ne h1]
      rfl
  have HB0 := Lib.hid (And.intro hB0 n0)
  generalize hX : opE o (cN M) x.eT = z at HD1
  clear hl' hq hg hO hOw hc hN hT hS hgM zM zT hB0 hcs0 hmp hq0 hcc hR e3 e4 e5 hX hsok hi64 e0 hok zo
  obtain ⟨wh, ⟨id, kd, rv, rc⟩, ⟨nm, pt, pn, ps⟩, ⟨bd, fr, tt⟩⟩ := o
  simp only at hv
  subst hv
  unfold opA at n0 hW0
  simp only at n0 hW0
  have c0 : W0.cell? ⟨w.heap.size, 0, none⟩ = some (.int .i64 wh) := cell_at n0 rfl
  have c1 : W0.cell? ⟨w.heap.size, 1, none⟩ = some (.int .i64 id) := cell_at n0 rfl
  have c2 : W0.cell? ⟨w.heap.size, 2, none⟩ = some (.string kd) := cell_at n0 rfl
  have c3 : W0.cell? ⟨w.heap.size, 3, none⟩ = some (.slice av lv cv) := cell_at n0 rfl
  have c4 : W0.cell? ⟨w.heap.size, 4, none⟩ = some (.string nm) := cell_at n0 rfl
  have c5 : W0.cell? ⟨w.heap.size, 5, none⟩ = some (.int .i64 pt) := cell_at n0 rfl
  have c6 : W0.cell? ⟨w.heap.size, 6, none⟩ = some (.int .i64 pn) := cell_at n0 rfl
  have c7 : W0.cell? ⟨w.heap.size, 7, none⟩ = some (.string ps) := cell_at n0 rfl
  have c8 : W0.cell? ⟨w.heap.size, 8, none⟩ = some (.string bd) := cell_at n0 rfl
  have c9 : W0.cell? ⟨w.heap.size, 9, none⟩ = some (.int .i64 fr) := cell_at n0 rfl
  have c10 : W0.cell? ⟨w.heap.size, 10, none⟩ = some (.int .i64 tt) := cell_at n0 rfl
  have HS0 := Lib.hid hs0'
  clear n0
  go_enter Tryz.func7, Tryz.ntmps7
  go_upto_region 1 with fail
  rw [← hW0]
  clear hW0
  go_upto_region 6 with fail
  clear hlook y0 y2
  go_cut [10] (fun s10 wx => DoE W0 z s10 wx)
  case first =>
    (go_region_law (first | (go_simp; go_at_call 20; refine (HD1.out _ (by first | exact b_drew (Below.refl _ _) | exact b_alloc (b_drew (Below.refl _ _)) _)).mono ?_; rintro e W2 ⟨rfl, hB2'⟩; have hb2 : Hid (Below W0.heap.size W0 W2) := on1K (by first | exact b_drew (Below.refl _ _) | exact b_alloc (b_drew (Below.refl _ _)) _) hB2' (Nat.le_refl _); (try (have kb : W2.heap[w.heap.size + 1]? = some (.cells #[.slice none 0 0, .slice none 0 0] 29 (0, 0)) := (hB2'.block _ (by simp [hs0'])).trans (by have := heap_alloc_new W0.drew (.cells #[.slice none 0 0, .slice none 0 0] 29); rw [show W0.drew.heap.size = w.heap.size + 1 from hs0'] at this; exact this); have y5 : W2.cell? ⟨w.heap.size + 1, 0, none⟩ = some (.slice none 0 0) := cell_at kb rfl; have y6 : W2.cell? ⟨w.heap.size + 1, 1, none⟩ = some (.slice none 0 0) := cell_at kb rfl; have f5 : W2.frozen? ⟨w.heap.size + 1, 0, none⟩ = false := frz_at kb; have f6 : W2.frozen? ⟨w.heap.size + 1, 1, none⟩ = false := frz_at kb; replace kb := Lib.hid kb)); clear hB2')))
    all_goals
      go_wp2
      go_meet
      first
        | exact ⟨rfl, b_alloc hb2.out _⟩
        | exact ⟨rfl, (hb2.out.setCell (by show W0.heap.size ≤ w.heap.size + 1; omega) _).setCell (by show W0.heap.size ≤ w.heap.size + 1; omega) _⟩
  case rest =>
  obtain ⟨rfl, r6⟩ := hcut
  have H6 := Lib.hid r6
  clear r6 c0 c1 c2 c3 c4 c5 c6 c7 c8 c9 c10 y3 y4
  go_wp2
  go_ret
  exact ⟨⟨_, rfl⟩, on1K HB0.out.1 H6.out (Nat.le_refl _)⟩
end Go.Proofs.YtifhigajonafdaaGreat
