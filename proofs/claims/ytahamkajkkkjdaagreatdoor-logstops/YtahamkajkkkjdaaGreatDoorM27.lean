import Derived.Test.YtahamkajkkkjdaaGreatDoorM26
import Derived.Test.YtahamkajkkkjdaaGreatDoorM24
import Derived.Test.YtahamkajkkkjdaaGreatDoorM04
import Derived.Laws.Externs
import Derived.Deep.RegionLaw
namespace Go.Proofs.YtahamkajkkkjdaaGreatDoor
open Go.RowKit
set_option linter.unusedVariables false
set_option linter.unusedSimpArgs false
structure Opx where
  wh : Int
  nd : Nd
  pr : Pr
  te : Te
def Opx.cells (o : Opx) : List Value := [.int .i64 o.wh, .int .i64 o.nd.id, .string o.nd.kd, o.nd.rv, .string o.pr.nm, .int .i64 o.pr.t, .int .i64 o.pr.n, .string o.pr.s, .string o.te.bd, .int .i64 o.te.fr, .int .i64 o.te.tt]
abbrev Opx.one (o : Opx) : Value := .agg #[.int .i64 o.wh, .int .i64 o.nd.id, .string o.nd.kd, o.nd.rv, .string o.pr.nm, .int .i64 o.pr.t, .int .i64 o.pr.n, .string o.pr.s, .string o.te.bd, .int .i64 o.te.fr, .int .i64 o.te.tt]
theorem op_len (o : Opx) : o.cells.length = 11 := rfl
def OpSz (o : Opx) : Prop := (o.nd.kd.size ≤ maxLen ∧ Sz o.nd.rc ∧ o.nd.rc.length ≤ maxLen) ∧ (o.pr.nm.size ≤ maxLen ∧ o.pr.s.size ≤ maxLen) ∧ o.te.bd.size ≤ maxLen ∧ (o.wh = 1 ∨ o.wh = 2)
def LiesO (w : World) (b off : Nat) (L : List Opx) : Prop := ∀ k o, L[k]? = some o → (∀ i u, o.cells[i]? = some u → w.cell? ⟨b, off + k * 11 + i, none⟩ = some u) ∧ IsR w o.nd.rv o.nd.rc
def IsO (w : World) (v : Value) (L : List Opx) : Prop :=
  ∃ ao c, v = .slice ao L.length c ∧ L.length ≤ c ∧ (L = [] ∨ ∃ b off, ao = some ⟨b, off, none⟩ ∧ b < w.heap.size ∧ LiesO w b off L)
theorem LiesO.on {w w' : World} {b off : Nat} {L : List Opx} (h : LiesO w b off L) (hb : b < w.heap.size) (hB : Below w.heap.size w w') : LiesO w' b off L := fun k o ho => by
  obtain ⟨c0, c1⟩ := h k o ho
  exact ⟨fun i u hu => (hB.cell hb).trans (c0 i u hu), c1.on hB⟩
theorem IsO.on {w w' : World} {v : Value} {L : List Opx} (h : IsO w v L) (hB : Below w.heap.size w w') : IsO w' v L := by
  obtain ⟨ao, c, rfl, hc, h0 | ⟨b, off, rfl, hb, hL⟩⟩ := h
  · exact ⟨ao, c, rfl, hc, .inl h0⟩
  · exact ⟨_, c, rfl, hc, .inr ⟨b, off, rfl, Nat.lt_of_lt_of_le hb hB.size, hL.on hb hB⟩⟩
structure OpS where
  e : Opx → List Nd → List Te → Int
  m : Opx → List Nd → List Te → List Nd
  t : Opx → List Nd → List Te → List Te
def ApOk (S : OpS) (o : Opx) : Prop := ∀ (w : World) (base p : Nat) (N : List Nd) (T : List Te), OG w base p N T → base ≤ w.heap.size → gErr N T = 0 → IsR w o.nd.rv o.nd.rc → OpSz o →
  Calls Tryz.prog 77 #[.pointer (some ⟨p, 0, none⟩), o.one] w fun e w' => e = .returned (errV (S.e o (cN N) T)) ∧ (S.e o (cN N) T = 0 → ∃ N', cN N' = S.m o (cN N) T ∧ OG w' base p N' (S.t o (cN N) T)) ∧ Below base w w'
theorem loN_c (id : Int) : ∀ N : List Nd, loN id (cN N) = loN id N
  | [] => rfl
  | n :: r => by
    have := loN_c id r
    show loN id (n.c :: cN r) = _
    unfold loN
    rw [this]
    rfl
theorem fndN_c (id : Int) (N : List Nd) : fndN id (cN N) = fndN id N := by
  unfold fndN
  rw [loN_c]
  unfold cN
  rw [List.getElem?_map]
  cases N[loN id N]? <;> rfl
theorem chkN_srt : ∀ (N : List Nd) (o : Option Nd), chkN o N = 0 → (∀ q, o = some q → ∀ x ∈ N, q.id < x.id) ∧ SrtN N
  | [], o, _ => ⟨fun q _ x hx => (by cases hx), List.Pairwise.nil⟩
  | n :: r, o, h => by
    have hn : ndE o n = 0 := by
      by_cases e : ndE o n = 0
      · exact e
      · rw [chkN_bad e] at h; exact absurd h e
    rw [chkN_ok hn] at h
    obtain ⟨h1, h2⟩ := chkN_srt r (some n) h
    have hl : n.low o = false := by
      unfold ndE at hn
      by_cases a : idOk n.id = true
      · rw [if_pos a] at hn
        by_cases b : n.low o = true
        · rw [if_pos b] at hn; omega
        · simpa using b
      · rw [if_neg a] at hn; omega
    refine ⟨fun q hq x hx => ?_, List.pairwise_cons.2 ⟨h1 n rfl, h2⟩⟩
    subst hq
    have hlt : q.id < n.id := by simpa [Nd.low] using hl
    rcases List.mem_cons.1 hx with rfl | hx
    · exact hlt
    · exact Int.lt_trans hlt (h1 n rfl x hx)
theorem gErr_lens {N : List Nd} {T : List Te} (h : gErr N T = 0) : N.length ≤ 60 ∧ T.length ≤ 120 ∧ chkN none N = 0 ∧ chkT none T = 0 := by
  unfold gErr at h
  by_cases h1 : 60 < N.length ∨ 120 < T.length
  · rw [if_pos h1] at h; omega
  · rw [if_neg h1] at h
    by_cases h2 : chkN none N = 0
    · rw [if_pos h2] at h; exact ⟨by omega, by omega, h2, h⟩
    · rw [if_neg h2] at h; exact absurd h h2
theorem gErr_srt {N : List Nd} {T : List Te} (h : gErr N T = 0) : SrtN N := (chkN_srt N none (gErr_lens h).2.2.1).2
theorem chkN_rc : ∀ (N : List Nd) (o : Option Nd), chkN o N = 0 → ∀ n ∈ N, idOk n.id = true ∧ nErr n.kd.data.toList = 0 ∧ rErr n.rc = 0
  | [], o, _, n, hn => by cases hn
  | x :: r, o, h, n, hn => by
    have hx : ndE o x = 0 := by
      by_cases e : ndE o x = 0
      · exact e
      · rw [chkN_bad e] at h; exact absurd h e
    rw [chkN_ok hx] at h
    rcases List.mem_cons.1 hn with rfl | hn
    · unfold ndE at hx
      by_cases a : idOk n.id = true
      · rw [if_pos a] at hx
        by_cases b : n.low o = true
        · rw [if_pos b] at hx; omega
        · rw [if_neg b] at hx
          by_cases c : nErr n.kd.data.toList = 0
          · rw [if_pos c] at hx; exact ⟨a, c, hx⟩
          · rw [if_neg c] at hx; exact absurd hx c
      · rw [if_neg a] at hx; omega
    · exact chkN_rc r (some x) h n hn
theorem rErr_le {L : List Pr} (h : rErr L = 0) : L.length ≤ 8 := by
  unfold rErr at h
  by_cases e : 8 < L.length
  · rw [if_pos e] at h; omega
  · omega
theorem gErr_rc8 {N : List Nd} {T : List Te} (h : gErr N T = 0) : ∀ n ∈ N, n.rc.length ≤ 8 := fun n hn => rErr_le (chkN_rc N none (gErr_lens h).2.2.1 n hn).2.2
def goneE (id : Int) (M : List Nd) : Int := if fndN id M = true then 0 else 5
set_option maxHeartbeats 1000000 in
theorem apply_gone (o : Opx) (ho : o.wh = 2) (w : World) (base p : Nat) (N : List Nd) (T : List Te) (hG : OG w base p N T) (hb : base ≤ w.heap.size) (he : gErr N T = 0) (hR : IsR w o.nd.rv o.nd.rc) :
    Calls Tryz.prog 77 #[.pointer (some ⟨p, 0, none⟩), o.one] w fun e w' => e = .returned (errV (goneE o.nd.id (cN N))) ∧ (goneE o.nd.id (cN N) = 0 → ∃ N', cN N' = (cN N).eraseIdx (loN o.nd.id (cN N)) ∧ OG w' base p N' (T.filter (keepT o.nd.id))) ∧ Below base w w' := by
  obtain ⟨l60, l120, _, _⟩ := gErr_lens he
  have hs := gErr_srt he
  obtain ⟨av, lv, cv, hv⟩ := hR.sl
  obtain ⟨wh, ⟨id, kd, rv, rc⟩, ⟨nm, pt, pn, ps⟩, ⟨bd, fr, tt⟩⟩ := o
  simp only at ho hv ⊢
  subst ho hv
  obtain ⟨W0, hW0⟩ : ∃ W0, W0 = w.alloc (.cells #[.int .i64 2, .int .i64 id, .string kd, .slice av lv cv, .string nm, .int .i64 pt, .int .i64 pn, .string ps, .string bd, .int .i64 fr, .int .i64 tt] 48) := ⟨_, rfl⟩
  have hB0 : Below w.heap.size w W0 := by rw [hW0]; exact b_alloc (Below.refl _ _) _
  have hG0 := hG.on hB0
  have n0 : W0.heap[w.heap.size]? = some (.cells #[.int .i64 2, .int .i64 id, .string kd, .slice av lv cv, .string nm, .int .i64 pt, .int .i64 pn, .string ps, .string bd, .int .i64 fr, .int .i64 tt] 48 (0, 0)) := by rw [hW0]; exact heap_alloc_new w _
  have x0 : W0.cell? ⟨w.heap.size, 0, none⟩ = some (.int .i64 2) := cell_at n0 rfl
  have x1 : W0.cell? ⟨w.heap.size, 1, none⟩ = some (.int .i64 id) := cell_at n0 rfl
  unfold goneE
  rw [fndN_c, loN_c]
  cases hf : fndN id N with
  | false =>
    have cD := dropNode_no hG0 hs (by omega) id hf
    have HB : Hid (Below w.heap.size w W0) := hB0
    clear hG0 hG hB0 n0 hs he hR hf
    simp only [Bool.false_eq_true, if_false]
    rw [show errV 5 = .iface 76 (.int .i64 5) from rfl] at cD ⊢
    subst hW0
    go_enter Tryz.func77, Tryz.ntmps77
    go_wp2_with (first | (go_at_call 111; refine cD.mono ?_; rintro e W2 ⟨rfl, hB2⟩))
    go_ret
    exact ⟨rfl, fun h => (by cases h), (on1K HB.out hB2 (Nat.le_refl _)).mono hb⟩
  | true =>
    have cD := dropNode_ok hG0 (Nat.le_trans hb hB0.size) hs (by omega) (by omega) id hf
    have HB : Hid (Below w.heap.size w W0 ∧ OG w base p N T) := ⟨hB0, hG⟩
    clear hG0 hG hB0 n0 hs he hR hf
    simp only [if_true]
    subst hW0
    go_enter Tryz.func77, Tryz.ntmps77
    go_wp2_with (first | (go_at_call 111; refine cD.mono ?_; rintro e W2 ⟨rfl, hG2, hB2⟩))
    go_ret
    refine ⟨rfl, fun _ => ⟨_, ?_, hG2⟩, (HB.out.1.mono hb).trans hB2⟩
    unfold cN
    rw [List.eraseIdx_eq_take_drop_succ, List.eraseIdx_eq_take_drop_succ, List.map_append, List.map_take, List.map_drop]
def OpS.err (S : OpS) : List Opx → List Nd → List Te → Int
  | [], _, _ => 0
  | o :: r, M, T => if S.e o M T = 0 then S.err r (S.m o M T) (S.t o M T) else S.e o M T
def OpS.at (S : OpS) : List Opx → List Nd → List Te → Nat
  | [], _, _ => 0
  | o :: r, M, T => if S.e o M T = 0 then S.at r (S.m o M T) (S.t o M T) + 1 else 0
def OpS.res (S : OpS) : List Opx → List Nd → List Te → List Nd × List Te
  | [], M, T => (M, T)
  | o :: r, M, T => if S.e o M T = 0 then S.res r (S.m o M T) (S.t o M T) else (M, T)
theorem cN_c (N : List Nd) : cN (cN N) = cN N := by unfold cN; rw [List.map_map]; rfl
theorem cN_len (N : List Nd) : (cN N).length = N.length := List.length_map ..
def KeepsR (S : OpS) (o : Opx) : Prop := ∀ M T, gErr M T = 0 → S.e o M T = 0 → gErr (S.m o M T) (S.t o M T) = 0
def AllPost (S : OpS) (N : List Nd) (T : List Te) (L : List Opx) (w : World) (e : Ending) (w' : World) : Prop :=
  Below w.heap.size w w' ∧ ((S.err L (cN N) T = 0 ∧ ∃ un ut M, e = .returned (.tuple #[.agg #[un, ut], .int .i64 0, .nilIface]) ∧ cN M = (S.res L (cN N) T).1 ∧ OwnNs w' w.heap.size un M ∧ OwnTs w' w.heap.size ut (S.res L (cN N) T).2 ∧ gErr M (S.res L (cN N) T).2 = 0) ∨
   (S.err L (cN N) T ≠ 0 ∧ e = .returned (.tuple #[.agg #[.slice none 0 0, .slice none 0 0], .int .i64 (S.at L (cN N) T), errV (S.err L (cN N) T)])))
def AlID (S : OpS) (N : List Nd) (T : List Te) (L : List Opx) (W1 : World) (p k : Nat) (wr : World) : Prop := ∃ M U, OG wr W1.heap.size p M U ∧ gErr M U = 0 ∧ S.err L (cN N) T = S.err (L.drop k) (cN M) U ∧ S.at L (cN N) T = k + S.at (L.drop k) (cN M) U ∧ S.res L (cN N) T = S.res (L.drop k) (cN M) U ∧ Below W1.heap.size W1 wr
set_option maxHeartbeats 4000000 in
set_option maxRecDepth 100000 in
theorem all_in (S : OpS) {vn vt vl : Value} {N : List Nd} {T : List Te} {L : List Opx} {w : World} (hN : IsN w vn N) (hT : IsT w vt T) (zN : SzN N) (zT : SzT T) (he : gErr N T = 0) (hL : IsO w vl L) (hl : L.length ≤ 40) (zL : ∀ o ∈ L, OpSz o) (hap : ∀ o ∈ L, ApOk S o) (hri : ∀ o ∈ L, KeepsR S o) :
    Calls Tryz.prog 52 #[.agg #[vn, vt], vl] w (AllPost S N T L w) := by
  obtain ⟨l60, l120, hcn, _⟩ := gErr_lens he
  obtain ⟨W0, hW0⟩ : ∃ W0, W0 = (w.alloc (.cells #[vn, vt] 67)).alloc (.cells #[.slice none 0 0, .slice none 0 0] 67) := ⟨_, rfl⟩
  have hB0 : Below w.heap.size w W0 := by rw [hW0]; exact b_alloc (b_alloc (Below.refl _ _) _) _
  have hs0 : W0.heap.size = w.heap.size + 2 := by rw [hW0]; simp
  have n0 : W0.heap[w.heap.size]? = some (.cells #[vn, vt] 67 (0, 0)) := by rw [hW0]; exact (heap_alloc_old _ _ (by simp)).trans (heap_alloc_new w _)
  have n1 : W0.heap[w.heap.size + 1]? = some (.cells #[.slice none 0 0, .slice none 0 0] 67 (0, 0)) := by
    have := heap_alloc_new (w.alloc (.cells #[vn, vt] 67)) (.cells #[.slice none 0 0, .slice none 0 0] 67)
    rw [World.size_alloc] at this; rw [hW0]; exact this
  have h8 : ∀ n ∈ N, n.rc.length ≤ 1000 := fun n hn => by have := gErr_rc8 he n hn; omega
  have cG := gcheck_any (hN.on hB0) (hT.on hB0) zN zT (by unfold maxLen; omega) (by unfold maxLen; omega)
  rw [he] at cG
  have cC := fun (W1 : World) (hB : Below W0.heap.size W0 W1) => copied_any (hN.on (on1K hB0 hB (Nat.le_refl _))) (hT.on (on1K hB0 hB (Nat.le_refl _))) l60 l120 h8
  obtain ⟨an, cn, hvn, _⟩ := hN
  obtain ⟨am, cm, hvt, _⟩ := hT
  obtain ⟨ao, co, hvl, hco, hLl⟩ := hL
  subst hvn hvt hvl
  have x0 : W0.cell? ⟨w.heap.size, 0, none⟩ = some (.slice an N.length cn) := cell_at n0 rfl
  have x1 : W0.cell? ⟨w.heap.size, 1, none⟩ = some (.slice am T.length cm) := cell_at n0 rfl
  have HI : Hid (Below w.heap.size w W0 ∧ W0.heap[w.heap.size]? = some (.cells #[.slice an N.length cn, .slice am T.length cm] 67 (0, 0)) ∧ W0.heap[w.heap.size + 1]? = some (.cells #[.slice none 0 0, .slice none 0 0] 67 (0, 0)) ∧ (L = [] ∨ ∃ b off, ao = some ⟨b, off, none⟩ ∧ b < w.heap.size ∧ LiesO w b off L) ∧ gErr N T = 0) := ⟨hB0, n0, n1, hLl, he⟩
  clear hB0 n0 n1 hLl hcn he
  rw [show errV 0 = .nilIface from rfl] at cG
  have hlen : ¬ ((L.length : Int) > 40) := by omega
  go_enter Tryz.func52, Tryz.ntmps52
  subst hW0
  go_wp2_with (first | (go_at_call 75; refine cG.mono ?_; rintro e W1 ⟨rfl, hB1⟩; refine Hid.out ?_))
  refine Lib.hid ?_
  have hbw := on1K HI.out.1 hB1 (Nat.le_refl _)
  have n0 := (hB1.block w.heap.size (by rw [hs0]; omega)).trans HI.out.2.1
  have n1 := (hB1.block (w.heap.size + 1) (by rw [hs0]; omega)).trans HI.out.2.2.1
  have cC1 := cC W1 hB1
  have hW1 : w.heap.size + 2 ≤ W1.heap.size := by have := hB1.size; rw [hs0] at this; exact this
  have y0 : W1.cell? ⟨w.heap.size, 0, none⟩ = some (.slice an N.length cn) := cell_at n0 rfl
  have y1 : W1.cell? ⟨w.heap.size, 1, none⟩ = some (.slice am T.length cm) := cell_at n0 rfl
  have HJ : Hid (Below w.heap.size w W1 ∧ W1.heap[w.heap.size + 1]? = some (.cells #[.slice none 0 0, .slice none 0 0] 67 (0, 0)) ∧ (L = [] ∨ ∃ b off, ao = some ⟨b, off, none⟩ ∧ b < w.heap.size ∧ LiesO w b off L) ∧ gErr N T = 0) := ⟨hbw, n1, HI.out.2.2.2.1, HI.out.2.2.2.2⟩
  clear hbw n0 n1 cC hB1 HI cG x0 x1 hs0
  go_wp2_with (first | (go_at_call 76; refine cC1.mono ?_; rintro e W2 ⟨un, ut, M, rfl, hM, hN2, hT2, hB2⟩; refine Hid.out ?_))
  refine Lib.hid ?_
  obtain ⟨a3, c3, hu3⟩ := own_slice hN2.1
  obtain ⟨a4, c4, hu4⟩ := own_slice hT2
  subst hu3 hu4
  have hG3 : OG (W2.alloc (.cells #[.slice a3 M.length c3, .slice a4 T.length c4] 67)) W1.heap.size W2.heap.size M T :=
    ⟨_, _, hB2.size, heap_alloc_new W2 _, hN2.kt (.of_below (b_alloc (Below.refl _ _) _)) (.of_below (b_alloc (Below.refl _ _) _)), hT2.kt (.of_below (b_alloc (Below.refl _ _) _))⟩
  have hg3 : gErr M T = 0 := by rw [← gErr_c, hM, gErr_c]; exact HJ.out.2.2.2
  have HS : Hid (AlID S N T L W1 W2.heap.size 0 (W2.alloc (.cells #[.slice a3 M.length c3, .slice a4 T.length c4] 67))) := ⟨M, T, hG3, hg3, by rw [hM]; rfl, by rw [hM]; simp, by rw [hM]; rfl, b_alloc hB2 _⟩
  clear hG3 hg3 hM hN2 hT2 hB2 cC1 y0 y1
  go_wp2
  go_loopw [27] (fun i wr => ∃ k : Nat, k ≤ L.length ∧ i = .int .i64 k ∧ AlID S N T L W1 W2.heap.size k wr) (fun i _ => L.length - (intOf i).toNat)
  case atStart => exact ⟨0, Nat.zero_le _, rfl, HS.out⟩
  case round =>
    obtain ⟨k, hk, rfl, hA⟩ := hrel
    obtain ⟨M', U, g1, g2, g3, g4, g5, g6⟩ := hA
    have r1 := (g6.block (w.heap.size + 1) (by omega)).trans HJ.out.2.1
    have r0 : wr.cell? ⟨w.heap.size + 1, 0, none⟩ = some (.slice none 0 0) := cell_at r1 rfl
    by_cases hlt : k < L.length
    · obtain ⟨o, ho⟩ : ∃ o, L[k]? = some o := ⟨L[k], by simp [hlt]⟩
      have hom := List.mem_of_getElem? ho
      rcases HJ.out.2.2.1 with h0 | ⟨b, off, hao, hb, hLO⟩
      · rw [h0] at hlt; exact absurd hlt (by simp)
      subst hao
      obtain ⟨hc, hR⟩ := hLO k o ho
      have hbw : Below w.heap.size w wr := on1K HJ.out.1 g6 (Nat.le_refl _)
      have d : ∀ i u, o.cells[i]? = some u → wr.cell? ⟨b, off + k * 11 + i, none⟩ = some u := fun i u hu => (hbw.cell hb).trans (hc i u hu)
      have hX : Below wr.heap.size wr (wr.alloc (.cells #[.int .i64 o.wh, .int .i64 o.nd.id, .string o.nd.kd, o.nd.rv, .string o.pr.nm, .int .i64 o.pr.t, .int .i64 o.pr.n, .string o.pr.s, .string o.te.bd, .int .i64 o.te.fr, .int .i64 o.te.tt] 48)) := b_alloc (Below.refl _ _) _
      have cA := hap o hom _ _ _ _ _ (g1.on hX) (Nat.le_trans g6.size hX.size) g2 (hR.on (on1K hbw hX (Nat.le_refl _))) (zL o hom)
      have hdr : L.drop k = o :: L.drop (k + 1) := by
        obtain ⟨h, rfl⟩ := List.getElem?_eq_some_iff.1 ho
        exact List.drop_eq_getElem_cons h
      rw [hdr] at g3 g4 g5
      have e0 := d 0 _ rfl
      have e1 := d 1 _ rfl
      have e2 := d 2 _ rfl
      have e3 := d 3 _ rfl
      have e4 := d 4 _ rfl
      have e5 := d 5 _ rfl
      have e6 := d 6 _ rfl
      have e7 := d 7 _ rfl
      have e8 := d 8 _ rfl
      have e9 := d 9 _ rfl
      have e10 := d 10 _ rfl
      simp only [Nat.add_zero] at e0
      have HK : Hid (∀ W', Below W1.heap.size (wr.alloc (.cells #[.int .i64 o.wh, .int .i64 o.nd.id, .string o.nd.kd, o.nd.rv, .string o.pr.nm, .int .i64 o.pr.t, .int .i64 o.pr.n, .string o.pr.s, .string o.te.bd, .int .i64 o.te.fr, .int .i64 o.te.tt] 48)) W' → Below W1.heap.size W1 W') := fun W' h' => (g6.trans (hX.mono g6.size)).trans h'
      have hkr := hri o hom
      clear d hc hX hbw hLO
      by_cases hz : S.e o (cN M') U = 0
      · have HZ : Hid (∀ W' M2, Below W1.heap.size W1 W' → cN M2 = S.m o (cN M') U → OG W' W1.heap.size W2.heap.size M2 (S.t o (cN M') U) → AlID S N T L W1 W2.heap.size (k + 1) W') := fun W' M2 hB' hM2 hG' => by
          refine ⟨M2, _, hG', ?_, ?_, ?_, ?_, hB'⟩
          · rw [← gErr_c, hM2]; exact hkr _ _ (by rw [gErr_c]; exact g2) hz
          · rw [g3, hM2]; simp [OpS.err, hz]
          · rw [g4, hM2]; simp [OpS.at, hz]; omega
          · rw [g5, hM2]; simp [OpS.res, hz]
        rw [hz, show errV 0 = .nilIface from rfl] at cA
        clear g1 g2 g3 g4 g5 g6 r1 r0 hap hri zL HS hkr hdr hom ho hk
        obtain ⟨av, lv, cv, hv⟩ := hR.sl
        clear hR
        obtain ⟨wh, ⟨id, kd, rv, rc⟩, ⟨nm, pt, pn, ps⟩, ⟨bd, fr, tt⟩⟩ := o
        simp only at hv e0 e1 e2 e3 e4 e5 e6 e7 e8 e9 e10 HK
        subst hv
        go_wp2_with (first | (go_at_call 77; refine cA.mono ?_; rintro e W' ⟨rfl, h2, hB'⟩))
        obtain ⟨M2, hM2, hG'⟩ := h2 (by trivial)
        refine ⟨⟨k + 1, hlt, ?_, HZ.out W' M2 (HK.out W' hB') hM2 hG'⟩, ?_⟩
        · go_num
        · simp [intOf]
          omega
      · have HZ : Hid (S.err L (cN N) T = S.e o (cN M') U ∧ S.at L (cN N) T = k) := ⟨by rw [g3]; simp [OpS.err, hz], by rw [g4]; simp [OpS.at, hz]⟩
        obtain ⟨z, hzz⟩ : ∃ z, z = S.e o (cN M') U := ⟨_, rfl⟩
        rw [← hzz] at cA hz HZ
        rw [errV_ne hz] at cA
        have HQ : Hid (∀ W', Below W1.heap.size W1 W' → W'.heap[w.heap.size + 1]? = some (.cells #[.slice none 0 0, .slice none 0 0] 67 (0, 0)) ∧ Below w.heap.size w W') := fun W' h' => ⟨(h'.block _ (by omega)).trans HJ.out.2.1, on1K HJ.out.1 h' (Nat.le_refl _)⟩
        have HZ0 : Hid (z ≠ 0) := hz
        clear g1 g2 g3 g4 g5 g6 r1 r0 hap hri zL HS hkr hdr hom ho hk hzz hz
        obtain ⟨av, lv, cv, hv⟩ := hR.sl
        clear hR
        obtain ⟨wh, ⟨id, kd, rv, rc⟩, ⟨nm, pt, pn, ps⟩, ⟨bd, fr, tt⟩⟩ := o
        simp only at hv e0 e1 e2 e3 e4 e5 e6 e7 e8 e9 e10 HK
        subst hv
        go_wp2_with (first | (go_at_call 77; refine cA.mono ?_; rintro e W' ⟨rfl, h2, hB'⟩; obtain ⟨q1, q2⟩ := HQ.out W' (HK.out W' hB'); have t0 : W'.cell? ⟨w.heap.size + 1, 0, none⟩ = some (.slice none 0 0) := cell_at q1 rfl; have t1 : W'.cell? ⟨w.heap.size + 1, 1, none⟩ = some (.slice none 0 0) := cell_at q1 rfl; have f0 : W'.frozen? ⟨w.heap.size + 1, 0, none⟩ = false := frz_at q1; have f1 : W'.frozen? ⟨w.heap.size + 1, 1, none⟩ = false := frz_at q1; have HW' := Lib.hid (And.intro q1 q2); clear q1 q2 h2 hB'))
        have u1 : ((W'.setCell ⟨w.heap.size + 1, 0, none⟩ (.slice none 0 0)).setCell ⟨w.heap.size + 1, 1, none⟩ (.slice none 0 0)).heap[w.heap.size + 1]? = some (.cells #[.slice none 0 0, .slice none 0 0] 67 (0, 0)) := heap_setCell_same _ _ 1 _ 67 _ (heap_setCell_same W' _ 0 _ 67 _ HW'.out.1)
        have v0 : ((W'.setCell ⟨w.heap.size + 1, 0, none⟩ (.slice none 0 0)).setCell ⟨w.heap.size + 1, 1, none⟩ (.slice none 0 0)).cell? ⟨w.heap.size + 1, 0, none⟩ = some (.slice none 0 0) := cell_at u1 rfl
        have v1 : ((W'.setCell ⟨w.heap.size + 1, 0, none⟩ (.slice none 0 0)).setCell ⟨w.heap.size + 1, 1, none⟩ (.slice none 0 0)).cell? ⟨w.heap.size + 1, 1, none⟩ = some (.slice none 0 0) := cell_at u1 rfl
        refine bodyPost_ret (v := .tuple #[.agg #[.slice none 0 0, .slice none 0 0], .int .i64 k, .iface 76 (.int .i64 z)]) ?_ rfl ⟨(HW'.out.2.setCell (by show _ ≤ w.heap.size + 1; omega) _).setCell (by show _ ≤ w.heap.size + 1; omega) _, .inr ⟨by rw [HZ.out.1]; exact HZ0.out, ?_⟩⟩
        · simp [results, Tryz.results52, go_sem, v0, v1]
        · rw [HZ.out.1, HZ.out.2, errV_ne HZ0.out]
    · have hdr : L.drop k = [] := List.drop_eq_nil_of_le (by omega)
      rw [hdr] at g3 g4 g5
      obtain ⟨vn', vt', o1, o2, o3, o4⟩ := g1
      obtain ⟨a5, c5, hu5⟩ := own_slice o3.1
      obtain ⟨a6, c6, hu6⟩ := own_slice o4
      subst hu5 hu6
      have HZ : Hid (S.err L (cN N) T = 0 ∧ (S.res L (cN N) T) = (cN M', U) ∧ OwnNs wr W1.heap.size (.slice a5 M'.length c5) M' ∧ OwnTs wr W1.heap.size (.slice a6 U.length c6) U ∧ Ty wr (w.heap.size + 1) 67 ∧ Below w.heap.size w wr ∧ gErr M' U = 0) := ⟨g3, g5, o3, o4, ⟨_, r1⟩, on1K HJ.out.1 g6 (Nat.le_refl _), g2⟩
      have p0 : wr.cell? ⟨W2.heap.size, 0, none⟩ = some (.slice a5 M'.length c5) := cell_at o2 rfl
      have p1 : wr.cell? ⟨W2.heap.size, 1, none⟩ = some (.slice a6 U.length c6) := cell_at o2 rfl
      have r2 : wr.cell? ⟨w.heap.size + 1, 1, none⟩ = some (.slice none 0 0) := cell_at r1 rfl
      have f0 : wr.frozen? ⟨w.heap.size + 1, 0, none⟩ = false := frz_at r1
      have f1 : wr.frozen? ⟨w.heap.size + 1, 1, none⟩ = false := frz_at r1
      have u1 : ((wr.setCell ⟨w.heap.size + 1, 0, none⟩ (.slice a5 M'.length c5)).setCell ⟨w.heap.size + 1, 1, none⟩ (.slice a6 U.length c6)).heap[w.heap.size + 1]? = some (.cells #[.slice a5 M'.length c5, .slice a6 U.length c6] 67 (0, 0)) := heap_setCell_same _ _ 1 _ 67 _ (heap_setCell_same wr _ 0 _ 67 _ r1)
      have HU : Hid (((wr.setCell ⟨w.heap.size + 1, 0, none⟩ (.slice a5 M'.length c5)).setCell ⟨w.heap.size + 1, 1, none⟩ (.slice a6 U.length c6)).heap[w.heap.size + 1]? = some (.cells #[.slice a5 M'.length c5, .slice a6 U.length c6] 67 (0, 0))) := u1
      clear u1 g2 g3 g4 g5 g6 r1 hap hri zL HS hdr hk o1 o2 o3 o4
      go_wp2
      obtain ⟨z1, z2, z3, z4, z5, z6, z7⟩ := HZ.out
      have v0 := cell_at (i := 0) HU.out rfl
      have v1 := cell_at (i := 1) HU.out rfl
      have hww : w.heap.size ≤ W1.heap.size := by omega
      refine bodyPost_ret (v := .tuple #[.agg #[.slice a5 M'.length c5, .slice a6 U.length c6], .int .i64 0, .nilIface]) ?_ rfl ⟨(z6.setCell (by show _ ≤ w.heap.size + 1; omega) _).setCell (by show _ ≤ w.heap.size + 1; omega) _, .inl ⟨z1, _, _, M', rfl, by rw [z2], ?_, ?_, by rw [z2]; exact z7⟩⟩
      · simp [results, Tryz.results52, go_sem, v0, v1]
      · exact ⟨own_base (own_kt z3.1 (((Kt.refl _ _).ty z5 (by decide) _ _).ty (z5.set _ _ _) (by decide) _ _)) hww, fun n hn => own_base ((z3.2 n hn).kt (((Kt.refl _ _).ty z5 (by decide) _ _).ty (z5.set _ _ _) (by decide) _ _)) hww⟩
      · rw [z2]
        exact own_base (z4.kt (((Kt.refl _ _).ty z5 (by decide) _ _).ty (z5.set _ _ _) (by decide) _ _)) hww
theorem cmpI_anti (x y : Int) : Lib.compareInt y x = -Lib.compareInt x y := by
  unfold Lib.compareInt
  by_cases h1 : x < y
  · rw [if_pos h1, if_neg (by omega), if_pos h1]; rfl
  · by_cases h2 : y < x
    · rw [if_pos h2, if_neg h1, if_pos h2]
    · rw [if_neg h2, if_neg h1, if_neg h1, if_neg h2]; rfl
theorem tCmp_anti (a b : Te) : tCmp b a = -tCmp a b := by
  unfold tCmp or3
  rw [cmpB_anti a.bd.data.toList b.bd.data.toList, cmpI_anti a.fr b.fr, cmpI_anti a.tt b.tt]
  by_cases h1 : Lib.compareBytes a.bd.data.toList b.bd.data.toList = 0
  · by_cases h2 : Lib.compareInt a.fr b.fr = 0
    · simp [h1, h2]
    · have : ¬ -Lib.compareInt a.fr b.fr = 0 := by omega
      simp [h1, h2, this]
  · have : ¬ -Lib.compareBytes a.bd.data.toList b.bd.data.toList = 0 := by omega
    simp [h1, this]
theorem tCmp_trans {a b c : Te} (h1 : tCmp a b < 0) (h2 : tCmp b c < 0) : tCmp a c < 0 := by
  unfold tCmp or3 at *
  have B1 := cmpB_anti a.bd.data.toList b.bd.data.toList
  by_cases e1 : Lib.compareBytes a.bd.data.toList b.bd.data.toList = 0
  · have q1 := (cmpB_zero _ _).1 e1
    rw [if_pos e1] at h1
    rw [q1]
    by_cases e2 : Lib.compareBytes b.bd.data.toList c.bd.data.toList = 0
    · rw [if_pos e2] at h2 ⊢
      by_cases f1 : Lib.compareInt a.fr b.fr = 0
      · have r1 := (cmpI_zero _ _).1 f1
        rw [if_pos f1, cmpI_lt] at h1
        rw [r1]
        by_cases f2 : Lib.compareInt b.fr c.fr = 0
        · rw [if_pos f2, cmpI_lt] at h2
          rw [if_pos f2, cmpI_lt]
          omega
        · rw [if_neg f2] at h2 ⊢
          exact h2
      · rw [if_neg f1, cmpI_lt] at h1
        by_cases f2 : Lib.compareInt b.fr c.fr = 0
        · have r2 := (cmpI_zero _ _).1 f2
          have : Lib.compareInt a.fr c.fr < 0 := (cmpI_lt _ _).2 (by omega)
          rw [if_neg (by omega)]
          exact this
        · rw [if_neg f2, cmpI_lt] at h2
          have : Lib.compareInt a.fr c.fr < 0 := (cmpI_lt _ _).2 (by omega)
          rw [if_neg (by omega)]
          exact this
    · rw [if_neg e2] at h2 ⊢
      exact h2
  · rw [if_neg e1] at h1
    by_cases e2 : Lib.compareBytes b.bd.data.toList c.bd.data.toList = 0
    · have q2 := (cmpB_zero _ _).1 e2
      rw [← q2, if_neg e1]
      exact h1
    · rw [if_neg e2] at h2
      have h3 := cmpB_trans _ _ _ (Int.le_of_lt h1) (Int.le_of_lt h2)
      have h4 : ¬ Lib.compareBytes a.bd.data.toList c.bd.data.toList = 0 := fun e => by
        have := (cmpB_zero _ _).1 e
        rw [this] at h1
        have := cmpB_anti c.bd.data.toList b.bd.data.toList
        omega
      rw [if_neg h4]
      omega
def SrtT (T : List Te) : Prop := T.Pairwise fun a b => tCmp a b < 0
theorem chkN_iff : ∀ (N : List Nd) (o : Option Nd), chkN o N = 0 ↔ (∀ q, o = some q → ∀ x ∈ N, q.id < x.id) ∧ SrtN N ∧ ∀ n ∈ N, ndE none n = 0
  | [], o => by simp [chkN_end, SrtN]
  | n :: r, o => by
    have hsplit : ndE o n = 0 ↔ (∀ q, o = some q → q.id < n.id) ∧ ndE none n = 0 := by
      unfold ndE
      by_cases a : idOk n.id = true
      · rw [if_pos a, if_pos a]
        cases o with
        | none => simp [Nd.low]
        | some q =>
          by_cases b : n.id ≤ q.id
          · have : n.low (some q) = true := by simpa [Nd.low] using b
            rw [if_pos this]
            constructor
            · intro h; omega
            · rintro ⟨h, _⟩; have := h q rfl; omega
          · have : ¬ n.low (some q) = true := by simpa [Nd.low] using b
            rw [if_neg this, if_neg (show ¬ n.low none = true by simp [Nd.low])]
            constructor
            · intro h; exact ⟨fun q' hq => by injection hq with hq; subst hq; omega, h⟩
            · exact fun h => h.2
      · rw [if_neg a, if_neg a]
        constructor
        · intro h; omega
        · rintro ⟨_, h⟩; omega
    constructor
    · intro h
      have hn : ndE o n = 0 := by
        by_cases e : ndE o n = 0
        · exact e
        · rw [chkN_bad e] at h; exact absurd h e
      rw [chkN_ok hn] at h
      obtain ⟨h1, h2, h3⟩ := (chkN_iff r (some n)).1 h
      obtain ⟨g1, g2⟩ := hsplit.1 hn
      refine ⟨fun q hq x hx => ?_, List.pairwise_cons.2 ⟨h1 n rfl, h2⟩, fun x hx => ?_⟩
      · rcases List.mem_cons.1 hx with rfl | hx
        · exact g1 q hq
        · exact Int.lt_trans (g1 q hq) (h1 n rfl x hx)
      · rcases List.mem_cons.1 hx with rfl | hx
        · exact g2
        · exact h3 x hx
    · rintro ⟨h1, h2, h3⟩
      obtain ⟨p1, p2⟩ := List.pairwise_cons.1 h2
      have hn : ndE o n = 0 := hsplit.2 ⟨fun q hq => h1 q hq n (by simp), h3 n (by simp)⟩
      rw [chkN_ok hn]
      exact (chkN_iff r (some n)).2 ⟨fun q hq x hx => by injection hq with hq; subst hq; exact p1 x hx, p2, fun x hx => h3 x (by simp [hx])⟩
theorem chkT_iff : ∀ (N : List Te) (o : Option Te), chkT o N = 0 ↔ (∀ q, o = some q → ∀ x ∈ N, tCmp q x < 0) ∧ SrtT N ∧ ∀ n ∈ N, teE none n = 0
  | [], o => by simp [chkT_end, SrtT]
  | n :: r, o => by
    have hsplit : teE o n = 0 ↔ (∀ q, o = some q → tCmp q n < 0) ∧ teE none n = 0 := by
      unfold teE
      by_cases c : nErr n.bd.data.toList = 0
      · rw [if_pos c, if_pos c]
        by_cases a : (idOk n.fr && idOk n.tt) = true
        · rw [if_pos a, if_pos a]
          cases o with
          | none => simp [Te.low]
          | some q =>
            have hq' := tCmp_anti q n
            by_cases b : tCmp n q ≤ 0
            · have : n.low (some q) = true := by simpa [Te.low] using b
              rw [if_pos this]
              constructor
              · intro h; omega
              · rintro ⟨h, _⟩; have := h q rfl; omega
            · have : ¬ n.low (some q) = true := by simpa [Te.low] using b
              rw [if_neg this, if_neg (by simp [Te.low])]
              constructor
              · intro h; exact ⟨fun q' hq => by injection hq with hq; subst hq; omega, h⟩
              · exact fun h => h.2
        · rw [if_neg a, if_neg a]
          constructor
          · intro h; omega
          · rintro ⟨_, h⟩; omega
      · rw [if_neg c, if_neg c]
        constructor
        · intro h; exact absurd h c
        · rintro ⟨_, h⟩; exact absurd h c
    constructor
    · intro h
      have hn : teE o n = 0 := by
        by_cases e : teE o n = 0
        · exact e
        · rw [chkT_bad e] at h; exact absurd h e
      rw [chkT_ok hn] at h
      obtain ⟨h1, h2, h3⟩ := (chkT_iff r (some n)).1 h
      obtain ⟨g1, g2⟩ := hsplit.1 hn
      refine ⟨fun q hq x hx => ?_, List.pairwise_cons.2 ⟨h1 n rfl, h2⟩, fun x hx => ?_⟩
      · rcases List.mem_cons.1 hx with rfl | hx
        · exact g1 q hq
        · exact tCmp_trans (g1 q hq) (h1 n rfl x hx)
      · rcases List.mem_cons.1 hx with rfl | hx
        · exact g2
        · exact h3 x hx
    · rintro ⟨h1, h2, h3⟩
      obtain ⟨p1, p2⟩ := List.pairwise_cons.1 h2
      have hn : teE o n = 0 := hsplit.2 ⟨fun q hq => h1 q hq n (by simp), h3 n (by simp)⟩
      rw [chkT_ok hn]
      exact (chkT_iff r (some n)).2 ⟨fun q hq x hx => by injection hq with hq; subst hq; exact p1 x hx, p2, fun x hx => h3 x (by simp [hx])⟩
theorem gErr_iff (N : List Nd) (T : List Te) : gErr N T = 0 ↔ (N.length ≤ 60 ∧ SrtN N ∧ ∀ n ∈ N, ndE none n = 0) ∧ (T.length ≤ 120 ∧ SrtT T ∧ ∀ t ∈ T, teE none t = 0) := by
  constructor
  · intro h
    obtain ⟨h1, h2, h3, h4⟩ := gErr_lens h
    obtain ⟨_, a1, a2⟩ := (chkN_iff N none).1 h3
    obtain ⟨_, b1, b2⟩ := (chkT_iff T none).1 h4
    exact ⟨⟨h1, a1, a2⟩, ⟨h2, b1, b2⟩⟩
  · rintro ⟨⟨h1, a1, a2⟩, ⟨h2, b1, b2⟩⟩
    have e1 : chkN none N = 0 := (chkN_iff N none).2 ⟨fun q hq => (by cases hq), a1, a2⟩
    have e2 : chkT none T = 0 := (chkT_iff T none).2 ⟨fun q hq => (by cases hq), b1, b2⟩
    unfold gErr
    rw [if_neg (by omega), if_pos e1]
    exact e2
theorem gErr_sub {N N' : List Nd} {T T' : List Te} (h : gErr N T = 0) (hN : List.Sublist N' N) (hT : List.Sublist T' T) : gErr N' T' = 0 := by
  obtain ⟨⟨h1, a1, a2⟩, ⟨h2, b1, b2⟩⟩ := (gErr_iff N T).1 h
  exact (gErr_iff N' T').2 ⟨⟨Nat.le_trans hN.length_le h1, a1.sublist hN, fun n hn => a2 n (hN.mem hn)⟩, ⟨Nat.le_trans hT.length_le h2, b1.sublist hT, fun t ht => b2 t (hT.mem ht)⟩⟩
end Go.Proofs.YtahamkajkkkjdaaGreatDoor
