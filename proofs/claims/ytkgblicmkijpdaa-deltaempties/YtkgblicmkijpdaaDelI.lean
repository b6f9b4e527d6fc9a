/-
  The walk of delta.All, by contracts of delta.apply.
-/
import Derived.Test.YtkgblicmkijpdaaDelB
import Derived.Test.YtkgblicmkijpdaaDelH
namespace Go.Proofs.Ytkgblicmkijpdaa
open Go.RowKit
set_option linter.unusedVariables false
set_option linter.unusedSimpArgs false

/-- The first error of ops, one by one. -/
def OpS.err (S : OpS) : List Opx → List Nd → List Te → Int
  | [], _, _ => 0
  | o :: r, M, T => if S.e o M T = 0 then S.err r (S.m o M T) (S.t o M T) else S.e o M T
/-- Its number. -/
def OpS.at (S : OpS) : List Opx → List Nd → List Te → Nat
  | [], _, _ => 0
  | o :: r, M, T => if S.e o M T = 0 then S.at r (S.m o M T) (S.t o M T) + 1 else 0
/-- What they make of a graph. -/
def OpS.res (S : OpS) : List Opx → List Nd → List Te → List Nd × List Te
  | [], M, T => (M, T)
  | o :: r, M, T => if S.e o M T = 0 then S.res r (S.m o M T) (S.t o M T) else (M, T)
theorem ndE_c (o : Option Nd) (n : Nd) : ndE (o.map Nd.c) n.c = ndE o n := by
  cases o <;> rfl
theorem chkN_c : ∀ (N : List Nd) (o : Option Nd), chkN (o.map Nd.c) (cN N) = chkN o N
  | [], o => by cases o <;> rfl
  | n :: r, o => by
    show chkN (o.map Nd.c) (n.c :: cN r) = _
    have e := ndE_c o n
    by_cases h : ndE o n = 0
    · rw [chkN_ok h, chkN_ok (e.trans h)]
      exact chkN_c r (some n)
    · rw [chkN_bad h, chkN_bad (by rw [e]; exact h), e]
theorem gErr_c (N : List Nd) (T : List Te) : gErr (cN N) T = gErr N T := by
  unfold gErr
  rw [show chkN none (cN N) = chkN none N from chkN_c N none, show (cN N).length = N.length from List.length_map ..]
theorem cN_c (N : List Nd) : cN (cN N) = cN N := by unfold cN; rw [List.map_map]; rfl
theorem cN_len (N : List Nd) : (cN N).length = N.length := List.length_map ..
/-- Ops keep a graph right. -/
def KeepsR (S : OpS) (o : Opx) : Prop := ∀ M T, gErr M T = 0 → S.e o M T = 0 → gErr (S.m o M T) (S.t o M T) = 0
/-- What All gives. -/
def AllPost (S : OpS) (N : List Nd) (T : List Te) (L : List Opx) (w : World) (e : Ending) (w' : World) : Prop :=
  Below w.heap.size w w' ∧ ((S.err L (cN N) T = 0 ∧ ∃ un ut M, e = .returned (.tuple #[.agg #[un, ut], .int .i64 0, .nilIface]) ∧ cN M = (S.res L (cN N) T).1 ∧ OwnNs w' w.heap.size un M ∧ OwnTs w' w.heap.size ut (S.res L (cN N) T).2 ∧ gErr M (S.res L (cN N) T).2 = 0) ∨
   (S.err L (cN N) T ≠ 0 ∧ e = .returned (.tuple #[.agg #[.slice none 0 0, .slice none 0 0], .int .i64 (S.at L (cN N) T), errV (S.err L (cN N) T)])))
/-- Where the loop of All stands. -/
def AlI (S : OpS) (N : List Nd) (T : List Te) (L : List Opx) (W1 : World) (p k : Nat) (wr : World) : Prop := ∃ M U, OG wr W1.heap.size p M U ∧ gErr M U = 0 ∧ S.err L (cN N) T = S.err (L.drop k) (cN M) U ∧ S.at L (cN N) T = k + S.at (L.drop k) (cN M) U ∧ S.res L (cN N) T = S.res (L.drop k) (cN M) U ∧ Below W1.heap.size W1 wr

set_option maxHeartbeats 4000000 in
set_option maxRecDepth 100000 in
theorem all_in (S : OpS) {vn vt vl : Value} {N : List Nd} {T : List Te} {L : List Opx} {w : World} (hN : IsN w vn N) (hT : IsT w vt T) (zN : SzN N) (zT : SzT T) (he : gErr N T = 0) (hL : IsO w vl L) (hl : L.length ≤ 40) (zL : ∀ o ∈ L, OpSz o) (hap : ∀ o ∈ L, ApOk S o) (hri : ∀ o ∈ L, KeepsR S o) :
    Calls Try.prog 8 #[.agg #[vn, vt], vl] w (AllPost S N T L w) := by
  obtain ⟨l60, l120, hcn, _⟩ := gErr_lens he
  obtain ⟨W0, hW0⟩ : ∃ W0, W0 = (w.alloc (.cells #[vn, vt] 25)).alloc (.cells #[.slice none 0 0, .slice none 0 0] 25) := ⟨_, rfl⟩
  have hB0 : Below w.heap.size w W0 := by rw [hW0]; exact b_alloc (b_alloc (Below.refl _ _) _) _
  have hs0 : W0.heap.size = w.heap.size + 2 := by rw [hW0]; simp
  have n0 : W0.heap[w.heap.size]? = some (.cells #[vn, vt] 25 (0, 0)) := by rw [hW0]; exact (heap_alloc_old _ _ (by simp)).trans (heap_alloc_new w _)
  have n1 : W0.heap[w.heap.size + 1]? = some (.cells #[.slice none 0 0, .slice none 0 0] 25 (0, 0)) := by
    have := heap_alloc_new (w.alloc (.cells #[vn, vt] 25)) (.cells #[.slice none 0 0, .slice none 0 0] 25)
    rw [World.size_alloc] at this; rw [hW0]; exact this
  have h8 : ∀ n ∈ N, n.rc.length ≤ 1000 := fun n hn => by have := gErr_rc8 he n hn; omega
  have cG := gcheck_any (hN.on hB0) (hT.on hB0) zN zT (by unfold maxLen; omega) (by unfold maxLen; omega)
  rw [he] at cG
  have cC := fun (W1 : World) (hB : Below W0.heap.size W0 W1) => copied_any (hN.on (on1K hB0 hB (Nat.le_refl _))) (hT.on (on1K hB0 hB (Nat.le_refl _))) l60 l120 h8
  obtain ⟨an, cn, hvn, _⟩ := hN
  obtain ⟨am, cm, hvt, _⟩ := hT
  obtain ⟨ao, co, hvl, hco, hLl⟩ := hL
  subst hvn hvt hvl
  have x0 : W0.cell? ⟨w.heap.size, 0, none⟩ = some (.slice an N.length cn) := cell_at n0 rfl
  have x1 : W0.cell? ⟨w.heap.size, 1, none⟩ = some (.slice am T.length cm) := cell_at n0 rfl
  have HI : Hid (Below w.heap.size w W0 ∧ W0.heap[w.heap.size]? = some (.cells #[.slice an N.length cn, .slice am T.length cm] 25 (0, 0)) ∧ W0.heap[w.heap.size + 1]? = some (.cells #[.slice none 0 0, .slice none 0 0] 25 (0, 0)) ∧ (L = [] ∨ ∃ b off, ao = some ⟨b, off, none⟩ ∧ b < w.heap.size ∧ LiesO w b off L) ∧ gErr N T = 0) := ⟨hB0, n0, n1, hLl, he⟩
  clear hB0 n0 n1 hLl hcn he
  rw [show errV 0 = .nilIface from rfl] at cG
  have hlen : ¬ ((L.length : Int) > 40) := by omega
  go_enter Try.func8, Try.ntmps8
  subst hW0
  go_wp2_with (first | (go_at_call 11; refine cG.mono ?_; rintro e W1 ⟨rfl, hB1⟩; refine Hid.out ?_))
  refine Lib.hid ?_
  have hbw := on1K HI.out.1 hB1 (Nat.le_refl _)
  have n0 := (hB1.block w.heap.size (by rw [hs0]; omega)).trans HI.out.2.1
  have n1 := (hB1.block (w.heap.size + 1) (by rw [hs0]; omega)).trans HI.out.2.2.1
  have cC1 := cC W1 hB1
  have hW1 : w.heap.size + 2 ≤ W1.heap.size := by have := hB1.size; rw [hs0] at this; exact this
  have y0 : W1.cell? ⟨w.heap.size, 0, none⟩ = some (.slice an N.length cn) := cell_at n0 rfl
  have y1 : W1.cell? ⟨w.heap.size, 1, none⟩ = some (.slice am T.length cm) := cell_at n0 rfl
  have HJ : Hid (Below w.heap.size w W1 ∧ W1.heap[w.heap.size + 1]? = some (.cells #[.slice none 0 0, .slice none 0 0] 25 (0, 0)) ∧ (L = [] ∨ ∃ b off, ao = some ⟨b, off, none⟩ ∧ b < w.heap.size ∧ LiesO w b off L) ∧ gErr N T = 0) := ⟨hbw, n1, HI.out.2.2.2.1, HI.out.2.2.2.2⟩
  clear hbw n0 n1 cC hB1 HI cG x0 x1 hs0
  go_wp2_with (first | (go_at_call 17; refine cC1.mono ?_; rintro e W2 ⟨un, ut, M, rfl, hM, hN2, hT2, hB2⟩; refine Hid.out ?_))
  refine Lib.hid ?_
  obtain ⟨a3, c3, hu3⟩ := own_slice hN2.1
  obtain ⟨a4, c4, hu4⟩ := own_slice hT2
  subst hu3 hu4
  have hG3 : OG (W2.alloc (.cells #[.slice a3 M.length c3, .slice a4 T.length c4] 25)) W1.heap.size W2.heap.size M T :=
    ⟨_, _, hB2.size, heap_alloc_new W2 _, hN2.kt (.of_below (b_alloc (Below.refl _ _) _)) (.of_below (b_alloc (Below.refl _ _) _)), hT2.kt (.of_below (b_alloc (Below.refl _ _) _))⟩
  have hg3 : gErr M T = 0 := by rw [← gErr_c, hM, gErr_c]; exact HJ.out.2.2.2
  have HS : Hid (AlI S N T L W1 W2.heap.size 0 (W2.alloc (.cells #[.slice a3 M.length c3, .slice a4 T.length c4] 25))) := ⟨M, T, hG3, hg3, by rw [hM]; rfl, by rw [hM]; simp, by rw [hM]; rfl, b_alloc hB2 _⟩
  clear hG3 hg3 hM hN2 hT2 hB2 cC1 y0 y1
  go_wp2
  go_loopw [27] (fun i wr => ∃ k : Nat, k ≤ L.length ∧ i = .int .i64 k ∧ AlI S N T L W1 W2.heap.size k wr) (fun i _ => L.length - (intOf i).toNat)
  case atStart => exact ⟨0, Nat.zero_le _, rfl, HS.out⟩
  case round =>
    obtain ⟨k, hk, rfl, hA⟩ := hrel
    obtain ⟨M', U, g1, g2, g3, g4, g5, g6⟩ := hA
    have r1 := (g6.block (w.heap.size + 1) (by omega)).trans HJ.out.2.1
    have r0 : wr.cell? ⟨w.heap.size + 1, 0, none⟩ = some (.slice none 0 0) := cell_at r1 rfl
    by_cases hlt : k < L.length
    · obtain ⟨o, ho⟩ : ∃ o, L[k]? = some o := ⟨L[k], by simp [hlt]⟩
      have hom := List.mem_of_getElem? ho
      rcases HJ.out.2.2.1 with h0 | ⟨b, off, hao, hb, hLO⟩
      · rw [h0] at hlt; exact absurd hlt (by simp)
      subst hao
      obtain ⟨hc, hR⟩ := hLO k o ho
      have hbw : Below w.heap.size w wr := on1K HJ.out.1 g6 (Nat.le_refl _)
      have d : ∀ i u, o.cells[i]? = some u → wr.cell? ⟨b, off + k * 11 + i, none⟩ = some u := fun i u hu => (hbw.cell hb).trans (hc i u hu)
      have hX : Below wr.heap.size wr (wr.alloc (.cells #[.int .i64 o.wh, .int .i64 o.nd.id, .string o.nd.kd, o.nd.rv, .string o.pr.nm, .int .i64 o.pr.t, .int .i64 o.pr.n, .string o.pr.s, .string o.te.bd, .int .i64 o.te.fr, .int .i64 o.te.tt] 42)) := b_alloc (Below.refl _ _) _
      have cA := hap o hom _ _ _ _ _ (g1.on hX) (Nat.le_trans g6.size hX.size) g2 (hR.on (on1K hbw hX (Nat.le_refl _))) (zL o hom)
      have hdr : L.drop k = o :: L.drop (k + 1) := by
        obtain ⟨h, rfl⟩ := List.getElem?_eq_some_iff.1 ho
        exact List.drop_eq_getElem_cons h
      rw [hdr] at g3 g4 g5
      have e0 := d 0 _ rfl
      have e1 := d 1 _ rfl
      have e2 := d 2 _ rfl
      have e3 := d 3 _ rfl
      have e4 := d 4 _ rfl
      have e5 := d 5 _ rfl
      have e6 := d 6 _ rfl
      have e7 := d 7 _ rfl
      have e8 := d 8 _ rfl
      have e9 := d 9 _ rfl
      have e10 := d 10 _ rfl
      simp only [Nat.add_zero] at e0
      have HK : Hid (∀ W', Below W1.heap.size (wr.alloc (.cells #[.int .i64 o.wh, .int .i64 o.nd.id, .string o.nd.kd, o.nd.rv, .string o.pr.nm, .int .i64 o.pr.t, .int .i64 o.pr.n, .string o.pr.s, .string o.te.bd, .int .i64 o.te.fr, .int .i64 o.te.tt] 42)) W' → Below W1.heap.size W1 W') := fun W' h' => (g6.trans (hX.mono g6.size)).trans h'
      have hkr := hri o hom
      clear d hc hX hbw hLO
      by_cases hz : S.e o (cN M') U = 0
      · have HZ : Hid (∀ W' M2, Below W1.heap.size W1 W' → cN M2 = S.m o (cN M') U → OG W' W1.heap.size W2.heap.size M2 (S.t o (cN M') U) → AlI S N T L W1 W2.heap.size (k + 1) W') := fun W' M2 hB' hM2 hG' => by
          refine ⟨M2, _, hG', ?_, ?_, ?_, ?_, hB'⟩
          · rw [← gErr_c, hM2]; exact hkr _ _ (by rw [gErr_c]; exact g2) hz
          · rw [g3, hM2]; simp [OpS.err, hz]
          · rw [g4, hM2]; simp [OpS.at, hz]; omega
          · rw [g5, hM2]; simp [OpS.res, hz]
        rw [hz, show errV 0 = .nilIface from rfl] at cA
        clear g1 g2 g3 g4 g5 g6 r1 r0 hap hri zL HS hkr hdr hom ho hk
        obtain ⟨av, lv, cv, hv⟩ := hR.sl
        clear hR
        obtain ⟨wh, ⟨id, kd, rv, rc⟩, ⟨nm, pt, pn, ps⟩, ⟨bd, fr, tt⟩⟩ := o
        simp only at hv e0 e1 e2 e3 e4 e5 e6 e7 e8 e9 e10 HK
        subst hv
        go_wp2_with (first | (go_at_call 18; refine cA.mono ?_; rintro e W' ⟨rfl, h2, hB'⟩))
        obtain ⟨M2, hM2, hG'⟩ := h2 (by trivial)
        refine ⟨⟨k + 1, hlt, ?_, HZ.out W' M2 (HK.out W' hB') hM2 hG'⟩, ?_⟩
        · go_num
        · simp [intOf]
          omega
      · have HZ : Hid (S.err L (cN N) T = S.e o (cN M') U ∧ S.at L (cN N) T = k) := ⟨by rw [g3]; simp [OpS.err, hz], by rw [g4]; simp [OpS.at, hz]⟩
        obtain ⟨z, hzz⟩ : ∃ z, z = S.e o (cN M') U := ⟨_, rfl⟩
        rw [← hzz] at cA hz HZ
        rw [errV_ne hz] at cA
        have HQ : Hid (∀ W', Below W1.heap.size W1 W' → W'.heap[w.heap.size + 1]? = some (.cells #[.slice none 0 0, .slice none 0 0] 25 (0, 0)) ∧ Below w.heap.size w W') := fun W' h' => ⟨(h'.block _ (by omega)).trans HJ.out.2.1, on1K HJ.out.1 h' (Nat.le_refl _)⟩
        have HZ0 : Hid (z ≠ 0) := hz
        clear g1 g2 g3 g4 g5 g6 r1 r0 hap hri zL HS hkr hdr hom ho hk hzz hz
        obtain ⟨av, lv, cv, hv⟩ := hR.sl
        clear hR
        obtain ⟨wh, ⟨id, kd, rv, rc⟩, ⟨nm, pt, pn, ps⟩, ⟨bd, fr, tt⟩⟩ := o
        simp only at hv e0 e1 e2 e3 e4 e5 e6 e7 e8 e9 e10 HK
        subst hv
        go_wp2_with (first | (go_at_call 18; refine cA.mono ?_; rintro e W' ⟨rfl, h2, hB'⟩; obtain ⟨q1, q2⟩ := HQ.out W' (HK.out W' hB'); have t0 : W'.cell? ⟨w.heap.size + 1, 0, none⟩ = some (.slice none 0 0) := cell_at q1 rfl; have t1 : W'.cell? ⟨w.heap.size + 1, 1, none⟩ = some (.slice none 0 0) := cell_at q1 rfl; have f0 : W'.frozen? ⟨w.heap.size + 1, 0, none⟩ = false := frz_at q1; have f1 : W'.frozen? ⟨w.heap.size + 1, 1, none⟩ = false := frz_at q1; have HW' := Lib.hid (And.intro q1 q2); clear q1 q2 h2 hB'))
        have u1 : ((W'.setCell ⟨w.heap.size + 1, 0, none⟩ (.slice none 0 0)).setCell ⟨w.heap.size + 1, 1, none⟩ (.slice none 0 0)).heap[w.heap.size + 1]? = some (.cells #[.slice none 0 0, .slice none 0 0] 25 (0, 0)) := heap_setCell_same _ _ 1 _ 25 _ (heap_setCell_same W' _ 0 _ 25 _ HW'.out.1)
        have v0 : ((W'.setCell ⟨w.heap.size + 1, 0, none⟩ (.slice none 0 0)).setCell ⟨w.heap.size + 1, 1, none⟩ (.slice none 0 0)).cell? ⟨w.heap.size + 1, 0, none⟩ = some (.slice none 0 0) := cell_at u1 rfl
        have v1 : ((W'.setCell ⟨w.heap.size + 1, 0, none⟩ (.slice none 0 0)).setCell ⟨w.heap.size + 1, 1, none⟩ (.slice none 0 0)).cell? ⟨w.heap.size + 1, 1, none⟩ = some (.slice none 0 0) := cell_at u1 rfl
        refine bodyPost_ret (v := .tuple #[.agg #[.slice none 0 0, .slice none 0 0], .int .i64 k, .iface 60 (.int .i64 z)]) ?_ rfl ⟨(HW'.out.2.setCell (by show _ ≤ w.heap.size + 1; omega) _).setCell (by show _ ≤ w.heap.size + 1; omega) _, .inr ⟨by rw [HZ.out.1]; exact HZ0.out, ?_⟩⟩
        · simp [results, Try.results8, go_sem, v0, v1]
        · rw [HZ.out.1, HZ.out.2, errV_ne HZ0.out]
    · have hdr : L.drop k = [] := List.drop_eq_nil_of_le (by omega)
      rw [hdr] at g3 g4 g5
      obtain ⟨vn', vt', o1, o2, o3, o4⟩ := g1
      obtain ⟨a5, c5, hu5⟩ := own_slice o3.1
      obtain ⟨a6, c6, hu6⟩ := own_slice o4
      subst hu5 hu6
      have HZ : Hid (S.err L (cN N) T = 0 ∧ (S.res L (cN N) T) = (cN M', U) ∧ OwnNs wr W1.heap.size (.slice a5 M'.length c5) M' ∧ OwnTs wr W1.heap.size (.slice a6 U.length c6) U ∧ Ty wr (w.heap.size + 1) 25 ∧ Below w.heap.size w wr ∧ gErr M' U = 0) := ⟨g3, g5, o3, o4, ⟨_, r1⟩, on1K HJ.out.1 g6 (Nat.le_refl _), g2⟩
      have p0 : wr.cell? ⟨W2.heap.size, 0, none⟩ = some (.slice a5 M'.length c5) := cell_at o2 rfl
      have p1 : wr.cell? ⟨W2.heap.size, 1, none⟩ = some (.slice a6 U.length c6) := cell_at o2 rfl
      have r2 : wr.cell? ⟨w.heap.size + 1, 1, none⟩ = some (.slice none 0 0) := cell_at r1 rfl
      have f0 : wr.frozen? ⟨w.heap.size + 1, 0, none⟩ = false := frz_at r1
      have f1 : wr.frozen? ⟨w.heap.size + 1, 1, none⟩ = false := frz_at r1
      have u1 : ((wr.setCell ⟨w.heap.size + 1, 0, none⟩ (.slice a5 M'.length c5)).setCell ⟨w.heap.size + 1, 1, none⟩ (.slice a6 U.length c6)).heap[w.heap.size + 1]? = some (.cells #[.slice a5 M'.length c5, .slice a6 U.length c6] 25 (0, 0)) := heap_setCell_same _ _ 1 _ 25 _ (heap_setCell_same wr _ 0 _ 25 _ r1)
      have HU : Hid (((wr.setCell ⟨w.heap.size + 1, 0, none⟩ (.slice a5 M'.length c5)).setCell ⟨w.heap.size + 1, 1, none⟩ (.slice a6 U.length c6)).heap[w.heap.size + 1]? = some (.cells #[.slice a5 M'.length c5, .slice a6 U.length c6] 25 (0, 0))) := u1
      clear u1 g2 g3 g4 g5 g6 r1 hap hri zL HS hdr hk o1 o2 o3 o4
      go_wp2
      obtain ⟨z1, z2, z3, z4, z5, z6, z7⟩ := HZ.out
      have v0 := cell_at (i := 0) HU.out rfl
      have v1 := cell_at (i := 1) HU.out rfl
      have hww : w.heap.size ≤ W1.heap.size := by omega
      refine bodyPost_ret (v := .tuple #[.agg #[.slice a5 M'.length c5, .slice a6 U.length c6], .int .i64 0, .nilIface]) ?_ rfl ⟨(z6.setCell (by show _ ≤ w.heap.size + 1; omega) _).setCell (by show _ ≤ w.heap.size + 1; omega) _, .inl ⟨z1, _, _, M', rfl, by rw [z2], ?_, ?_, by rw [z2]; exact z7⟩⟩
      · simp [results, Try.results8, go_sem, v0, v1]
      · exact ⟨own_base (own_kt z3.1 (((Kt.refl _ _).ty z5 (by decide) _ _).ty (z5.set _ _ _) (by decide) _ _)) hww, fun n hn => own_base ((z3.2 n hn).kt (((Kt.refl _ _).ty z5 (by decide) _ _).ty (z5.set _ _ _) (by decide) _ _)) hww⟩
      · rw [z2]
        exact own_base (z4.kt (((Kt.refl _ _).ty z5 (by decide) _ _).ty (z5.set _ _ _) (by decide) _ _)) hww
end Go.Proofs.Ytkgblicmkijpdaa
