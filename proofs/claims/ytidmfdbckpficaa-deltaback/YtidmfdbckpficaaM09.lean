/-
  Ops in memory; what an op does, as contracts of delta.apply speak of it; delta.apply of Gone.
-/
import Derived.Test.YtidmfdbckpficaaM08
import Derived.Test.YtidmfdbckpficaaM05
import Derived.Test.YtidmfdbckpficaaM02
import Derived.Lib.Hide
namespace Go.Proofs.Ytidmfdbckpficaa
open Go.RowKit
set_option linter.unusedVariables false
set_option linter.unusedSimpArgs false

/-- An op. -/
structure Opx where
  wh : Int
  nd : Nd
  pr : Pr
  te : Te
def Opx.cells (o : Opx) : List Value := [.int .i64 o.wh, .int .i64 o.nd.id, .string o.nd.kd, o.nd.rv, .string o.pr.nm, .int .i64 o.pr.t, .int .i64 o.pr.n, .string o.pr.s, .string o.te.bd, .int .i64 o.te.fr, .int .i64 o.te.tt]
abbrev Opx.one (o : Opx) : Value := .agg #[.int .i64 o.wh, .int .i64 o.nd.id, .string o.nd.kd, o.nd.rv, .string o.pr.nm, .int .i64 o.pr.t, .int .i64 o.pr.n, .string o.pr.s, .string o.te.bd, .int .i64 o.te.fr, .int .i64 o.te.tt]
theorem op_len (o : Opx) : o.cells.length = 11 := rfl
/-- Texts are not too long for memory. -/
def OpSz (o : Opx) : Prop := (o.nd.kd.size ≤ maxLen ∧ Sz o.nd.rc ∧ o.nd.rc.length ≤ maxLen) ∧ (o.pr.nm.size ≤ maxLen ∧ o.pr.s.size ≤ maxLen) ∧ o.te.bd.size ≤ maxLen
def LiesO (w : World) (b off : Nat) (L : List Opx) : Prop := ∀ k o, L[k]? = some o → (∀ i u, o.cells[i]? = some u → w.cell? ⟨b, off + k * 11 + i, none⟩ = some u) ∧ IsR w o.nd.rv o.nd.rc
def IsO (w : World) (v : Value) (L : List Opx) : Prop :=
  ∃ ao c, v = .slice ao L.length c ∧ L.length ≤ c ∧ (L = [] ∨ ∃ b off, ao = some ⟨b, off, none⟩ ∧ b < w.heap.size ∧ LiesO w b off L)
theorem LiesO.on {w w' : World} {b off : Nat} {L : List Opx} (h : LiesO w b off L) (hb : b < w.heap.size) (hB : Below w.heap.size w w') : LiesO w' b off L := fun k o ho => by
  obtain ⟨c0, c1⟩ := h k o ho
  exact ⟨fun i u hu => (hB.cell hb).trans (c0 i u hu), c1.on hB⟩
theorem IsO.on {w w' : World} {v : Value} {L : List Opx} (h : IsO w v L) (hB : Below w.heap.size w w') : IsO w' v L := by
  obtain ⟨ao, c, rfl, hc, h0 | ⟨b, off, rfl, hb, hL⟩⟩ := h
  · exact ⟨ao, c, rfl, hc, .inl h0⟩
  · exact ⟨_, c, rfl, hc, .inr ⟨b, off, rfl, Nat.lt_of_lt_of_le hb hB.size, hL.on hb hB⟩⟩

/-- What ops do to a graph: the error, the nodes, the ties. -/
structure OpS where
  e : Opx → List Nd → List Te → Int
  m : Opx → List Nd → List Te → List Nd
  t : Opx → List Nd → List Te → List Te
/-- apply does what is told of an op. -/
def ApOk (S : OpS) (o : Opx) : Prop := ∀ (w : World) (base p : Nat) (N : List Nd) (T : List Te), OG w base p N T → base ≤ w.heap.size → gErr N T = 0 → IsR w o.nd.rv o.nd.rc → OpSz o →
  Calls Try.prog 18 #[.pointer (some ⟨p, 0, none⟩), o.one] w fun e w' => e = .returned (errV (S.e o (cN N) T)) ∧ (S.e o (cN N) T = 0 → ∃ N', cN N' = S.m o (cN N) T ∧ OG w' base p N' (S.t o (cN N) T)) ∧ Below base w w'

theorem loN_c (id : Int) : ∀ N : List Nd, loN id (cN N) = loN id N
  | [] => rfl
  | n :: r => by
    have := loN_c id r
    show loN id (n.c :: cN r) = _
    unfold loN
    rw [this]
    rfl
theorem fndN_c (id : Int) (N : List Nd) : fndN id (cN N) = fndN id N := by
  unfold fndN
  rw [loN_c]
  unfold cN
  rw [List.getElem?_map]
  cases N[loN id N]? <;> rfl
theorem chkN_srt : ∀ (N : List Nd) (o : Option Nd), chkN o N = 0 → (∀ q, o = some q → ∀ x ∈ N, q.id < x.id) ∧ SrtN N
  | [], o, _ => ⟨fun q _ x hx => (by cases hx), List.Pairwise.nil⟩
  | n :: r, o, h => by
    have hn : ndE o n = 0 := by
      by_cases e : ndE o n = 0
      · exact e
      · rw [chkN_bad e] at h; exact absurd h e
    rw [chkN_ok hn] at h
    obtain ⟨h1, h2⟩ := chkN_srt r (some n) h
    have hl : n.low o = false := by
      unfold ndE at hn
      by_cases a : idOk n.id = true
      · rw [if_pos a] at hn
        by_cases b : n.low o = true
        · rw [if_pos b] at hn; omega
        · simpa using b
      · rw [if_neg a] at hn; omega
    refine ⟨fun q hq x hx => ?_, List.pairwise_cons.2 ⟨h1 n rfl, h2⟩⟩
    subst hq
    have hlt : q.id < n.id := by simpa [Nd.low] using hl
    rcases List.mem_cons.1 hx with rfl | hx
    · exact hlt
    · exact Int.lt_trans hlt (h1 n rfl x hx)
theorem gErr_lens {N : List Nd} {T : List Te} (h : gErr N T = 0) : N.length ≤ 60 ∧ T.length ≤ 120 ∧ chkN none N = 0 ∧ chkT none T = 0 := by
  unfold gErr at h
  by_cases h1 : 60 < N.length ∨ 120 < T.length
  · rw [if_pos h1] at h; omega
  · rw [if_neg h1] at h
    by_cases h2 : chkN none N = 0
    · rw [if_pos h2] at h; exact ⟨by omega, by omega, h2, h⟩
    · rw [if_neg h2] at h; exact absurd h h2
theorem gErr_srt {N : List Nd} {T : List Te} (h : gErr N T = 0) : SrtN N := (chkN_srt N none (gErr_lens h).2.2.1).2

theorem chkN_rc : ∀ (N : List Nd) (o : Option Nd), chkN o N = 0 → ∀ n ∈ N, idOk n.id = true ∧ nErr n.kd.data.toList = 0 ∧ rErr n.rc = 0
  | [], o, _, n, hn => by cases hn
  | x :: r, o, h, n, hn => by
    have hx : ndE o x = 0 := by
      by_cases e : ndE o x = 0
      · exact e
      · rw [chkN_bad e] at h; exact absurd h e
    rw [chkN_ok hx] at h
    rcases List.mem_cons.1 hn with rfl | hn
    · unfold ndE at hx
      by_cases a : idOk n.id = true
      · rw [if_pos a] at hx
        by_cases b : n.low o = true
        · rw [if_pos b] at hx; omega
        · rw [if_neg b] at hx
          by_cases c : nErr n.kd.data.toList = 0
          · rw [if_pos c] at hx; exact ⟨a, c, hx⟩
          · rw [if_neg c] at hx; exact absurd hx c
      · rw [if_neg a] at hx; omega
    · exact chkN_rc r (some x) h n hn
theorem rErr_le {L : List Pr} (h : rErr L = 0) : L.length ≤ 8 := by
  unfold rErr at h
  by_cases e : 8 < L.length
  · rw [if_pos e] at h; omega
  · omega
theorem gErr_rc8 {N : List Nd} {T : List Te} (h : gErr N T = 0) : ∀ n ∈ N, n.rc.length ≤ 8 := fun n hn => rErr_le (chkN_rc N none (gErr_lens h).2.2.1 n hn).2.2

/-- Gone. -/
def goneE (id : Int) (M : List Nd) : Int := if fndN id M = true then 0 else 5
set_option maxHeartbeats 1000000 in
theorem apply_gone (o : Opx) (ho : o.wh = 2) (w : World) (base p : Nat) (N : List Nd) (T : List Te) (hG : OG w base p N T) (hb : base ≤ w.heap.size) (he : gErr N T = 0) (hR : IsR w o.nd.rv o.nd.rc) :
    Calls Try.prog 18 #[.pointer (some ⟨p, 0, none⟩), o.one] w fun e w' => e = .returned (errV (goneE o.nd.id (cN N))) ∧ (goneE o.nd.id (cN N) = 0 → ∃ N', cN N' = (cN N).eraseIdx (loN o.nd.id (cN N)) ∧ OG w' base p N' (T.filter (keepT o.nd.id))) ∧ Below base w w' := by
  obtain ⟨l60, l120, _, _⟩ := gErr_lens he
  have hs := gErr_srt he
  obtain ⟨av, lv, cv, hv⟩ := hR.sl
  obtain ⟨wh, ⟨id, kd, rv, rc⟩, ⟨nm, pt, pn, ps⟩, ⟨bd, fr, tt⟩⟩ := o
  simp only at ho hv ⊢
  subst ho hv
  obtain ⟨W0, hW0⟩ : ∃ W0, W0 = w.alloc (.cells #[.int .i64 2, .int .i64 id, .string kd, .slice av lv cv, .string nm, .int .i64 pt, .int .i64 pn, .string ps, .string bd, .int .i64 fr, .int .i64 tt] 42) := ⟨_, rfl⟩
  have hB0 : Below w.heap.size w W0 := by rw [hW0]; exact b_alloc (Below.refl _ _) _
  have hG0 := hG.on hB0
  have n0 : W0.heap[w.heap.size]? = some (.cells #[.int .i64 2, .int .i64 id, .string kd, .slice av lv cv, .string nm, .int .i64 pt, .int .i64 pn, .string ps, .string bd, .int .i64 fr, .int .i64 tt] 42 (0, 0)) := by rw [hW0]; exact heap_alloc_new w _
  have x0 : W0.cell? ⟨w.heap.size, 0, none⟩ = some (.int .i64 2) := cell_at n0 rfl
  have x1 : W0.cell? ⟨w.heap.size, 1, none⟩ = some (.int .i64 id) := cell_at n0 rfl
  unfold goneE
  rw [fndN_c, loN_c]
  cases hf : fndN id N with
  | false =>
    have cD := dropNode_no hG0 hs (by omega) id hf
    have HB : Hid (Below w.heap.size w W0) := hB0
    clear hG0 hG hB0 n0 hs he hR hf
    simp only [Bool.false_eq_true, if_false]
    rw [show errV 5 = .iface 60 (.int .i64 5) from rfl] at cD ⊢
    subst hW0
    go_enter Try.func18, Try.ntmps18
    go_wp2_with (first | (go_at_call 39; refine cD.mono ?_; rintro e W2 ⟨rfl, hB2⟩))
    go_ret
    exact ⟨rfl, fun h => (by cases h), (on1K HB.out hB2 (Nat.le_refl _)).mono hb⟩
  | true =>
    have cD := dropNode_ok hG0 (Nat.le_trans hb hB0.size) hs (by omega) (by omega) id hf
    have HB : Hid (Below w.heap.size w W0 ∧ OG w base p N T) := ⟨hB0, hG⟩
    clear hG0 hG hB0 n0 hs he hR hf
    simp only [if_true]
    subst hW0
    go_enter Try.func18, Try.ntmps18
    go_wp2_with (first | (go_at_call 39; refine cD.mono ?_; rintro e W2 ⟨rfl, hG2, hB2⟩))
    go_ret
    refine ⟨rfl, fun _ => ⟨_, ?_, hG2⟩, (HB.out.1.mono hb).trans hB2⟩
    unfold cN
    rw [List.eraseIdx_eq_take_drop_succ, List.eraseIdx_eq_take_drop_succ, List.map_append, List.map_take, List.map_drop]
end Go.Proofs.Ytidmfdbckpficaa

/-
  Ops as a parameter.
-/
namespace Go.Proofs.Ytidmfdbckpficaa
open Go.ChangeShapes Go.WideShapes Go.ChangeAt Go.RowKit Go.Joins Go.Deep
open Go.ChangeMaps (open_string shut_string)
set_option linter.unusedVariables false
set_option linter.unusedSimpArgs false

theorem cells65 : Try.prog.cellsOf 42 = 11 := by kernel_rfl
theorem cells61 : Try.prog.cellsOf 26 = 1 := by kernel_rfl
section
variable {H : Type} {enc : TypeId × Value → H}
set_option maxRecDepth 100000 in
/-- Eleven cells that read as an op. -/
theorem cells_op {W : World} {b : Nat} {sp : Nat → Bool} {hd : Bool} {n : Nat} {cs : List Value} {x : DataW H × List MemPlace} (hlen : cs.length = 11) (h : DataW.trod enc Try.prog W b sp hd n 42 cs = some x) :
    ∃ o : Opx, cs = o.cells ∧ IsR W o.nd.rv o.nd.rc ∧ OpSz o := by
  obtain ⟨y0, y1, y2, y3, k, hxy, _, u0, u1, u2, u3⟩ := trod_struct4 Try.underlying42 h
  match cs, hlen with
  | [v0, v1, v2, v3, v4, v5, v6, v7, v8, v9, v10], _ =>
    simp only [cells3, cells29, cells56, cells31, List.drop, List.take] at u0 u1 u2 u3
    obtain ⟨q0, e0, d0, _⟩ := DataW.trod_int Try.underlying3 u0
    obtain ⟨a0, a1, a2, k1, ha, _, t0, t1, t2⟩ := trod_struct3 Try.underlying30 u1
    simp only [cells9, cells3, cells27, List.drop, List.take] at t0 t1 t2
    obtain ⟨q1, e1, d1, _⟩ := DataW.trod_int Try.underlying3 t0
    obtain ⟨s1, f1, d2, z1⟩ := DataW.trod_string Try.underlying9 t1
    obtain ⟨l, hR, hZ, hl⟩ := open_props t2
    obtain ⟨pr, ep, zp1, zp2⟩ := cells_prop rfl u2
    obtain ⟨c0, c1, c2, k3, hc, _, r0, r1, r2⟩ := trod_struct3 Try.underlying40 u3
    simp only [cells9, cells3, List.drop, List.take] at r0 r1 r2
    obtain ⟨s3, g0, d3, z3⟩ := DataW.trod_string Try.underlying9 r0
    obtain ⟨q4, g1, d4, _⟩ := DataW.trod_int Try.underlying3 r1
    obtain ⟨q5, g2, d5, _⟩ := DataW.trod_int Try.underlying3 r2
    simp only [List.cons.injEq, and_true, Pr.cells] at e0 e1 f1 ep g0 g1 g2
    obtain ⟨p1, p2, p3, p4⟩ := ep
    subst e0 e1 f1 g0 g1 g2 p1 p2 p3 p4
    exact ⟨⟨q0, ⟨q1, s1, v3, l⟩, pr, ⟨s3, q4, q5⟩⟩, rfl, hR, ⟨z1, hZ, hl⟩, ⟨zp1, zp2⟩, z3⟩
set_option maxRecDepth 100000 in
/-- Ops that came in. -/
theorem open_ops {W : World} {r : Reach} {b0 b : Nat} {sp : Nat → Bool} {hd : Bool} {v : Value} {d : DataW H} {p : List MemPlace} (hv : Value.okWide Try.prog W r b0 26 v) (h0 : DataW.Trod enc Try.prog W b sp hd 26 v d p) :
    ∃ L, IsO W v L ∧ (∀ o ∈ L, OpSz o) ∧ L.length ≤ maxLen := by
  obtain ⟨a0, l0, c0, rfl⟩ := okWide_slice Try.underlying26 hv
  obtain ⟨fuel, hf⟩ := h0
  have h : DataW.trod enc Try.prog W b sp hd fuel 26 [.slice a0 l0 c0] = some (d, p) := by simpa [Value.cells] using hf
  rcases open_slice Try.underlying26 h with ⟨hc, _⟩ | ⟨a, len, cap, m, n, D, Pl, hc, hb, hl, hm, hmm, _, hall⟩
  · simp only [List.cons.injEq, and_true] at hc
    exact ⟨[], ⟨none, 0, hc, Nat.le_refl _, .inl rfl⟩, fun f hf => by simp at hf, by decide⟩
  · simp only [List.cons.injEq, and_true] at hc
    rw [hc]
    clear hc
    have hlm : len ≤ m := by rw [hmm]; split <;> omega
    by_cases h0 : len = 0
    · subst h0
      exact ⟨[], ⟨some a, cap, rfl, Nat.zero_le _, .inl rfl⟩, fun f hf => by simp at hf, by decide⟩
    · have each : ∀ i, i < len → ∃ f : Opx, (∀ j, j < 11 → W.cell? ((a.add (i * 11)).add j) = f.cells[j]?) ∧ IsR W f.nd.rv f.nd.rc ∧ OpSz f := by
        intro i hi
        obtain ⟨cs', h1, h2⟩ := hall i (by omega)
        rw [cells65] at h1
        obtain ⟨_, hlen, hcell⟩ := World.cells?_some h1
        obtain ⟨f, rfl, z⟩ := cells_op hlen h2
        exact ⟨f, hcell, z⟩
      haveI : Inhabited Opx := ⟨⟨0, ⟨0, ⟨#[]⟩, .nilIface, []⟩, ⟨⟨#[]⟩, 0, 0, ⟨#[]⟩⟩, ⟨⟨#[]⟩, 0, 0⟩⟩⟩
      obtain ⟨q, hq⟩ := choose_lt each
      have hsp : a.spot = none ∧ a.block < W.heap.size := by
        have c0 := (hq 0 (by omega)).1 0 (by decide)
        rw [addz, Nat.zero_mul, addz] at c0
        exact cell_plain (c0.trans rfl)
      obtain ⟨bk, off, spot⟩ := a
      obtain ⟨e1, e2⟩ := hsp
      simp only at e1 e2
      subst e1
      refine ⟨(List.range len).map q, ⟨_, cap, by simp, by simpa using hl, .inr ⟨bk, off, rfl, e2, fun k y hy => ?_⟩⟩, fun f hf => ?_, by simp; omega⟩
      · rw [List.getElem?_map] at hy
        obtain ⟨k', h1, h2⟩ := Option.map_eq_some_iff.1 hy
        obtain ⟨h3, h4⟩ := List.getElem?_eq_some_iff.1 h1
        simp at h3 h4
        subst h4; subst h2
        refine ⟨fun j u hu => ?_, (hq k h3).2.1⟩
        have hj : j < 11 := by have := (List.getElem?_eq_some_iff.1 hu).1; rwa [op_len] at this
        have hh := (hq k h3).1 j hj
        rw [Addr.add_lit, Addr.add_lit] at hh
        exact hh.trans hu
      · obtain ⟨i, hi, rfl⟩ := List.mem_map.1 hf
        exact (hq i (List.mem_range.1 hi)).2.2
end
end Go.Proofs.Ytidmfdbckpficaa

/-
  The walks of record.find and record.Get.
-/
namespace Go.Proofs.Ytidmfdbckpficaa
open Go.RowKit
set_option linter.unusedVariables false
set_option linter.unusedSimpArgs false

theorem rErr_len {L : List Pr} (h : rErr L = 0) : L.length ≤ 8 := by
  unfold rErr at h; split at h
  · exact absurd h (by decide)
  · omega
theorem on1R {W0 W W' : World} (hK : Below W0.heap.size W0 W) (hb : Below W.heap.size W W') : Below W0.heap.size W0 W' := hK.trans (hb.mono hK.size)
/-- The first of a name. -/
def idxP (nm : List UInt8) : List Pr → Nat → Int
  | [], _ => -1
  | p :: r, k => if (p.nm.toList == nm) = true then k else idxP nm r (k + 1)
set_option maxHeartbeats 1000000 in
theorem risName_any (p : Pr) (b : Nat) (s : ByteArray) (w : World) (hc : w.cell? ⟨b, 0, none⟩ = some (.string s)) (hb : b < w.heap.size) :
    Calls Try.prog 87 #[p.one, .pointer (some ⟨b, 0, none⟩)] w fun e w' => e = .returned (.bool (p.nm.toList == s.toList)) ∧ w' = w.alloc (.cells #[.string p.nm, .int .i64 p.t, .int .i64 p.n, .string p.s] 38) := by
  go_enter Try.func87, Try.ntmps87
  go_wp2
  go_ret
  exact ⟨rfl, rfl⟩
set_option maxHeartbeats 4000000 in
set_option maxRecDepth 100000 in
theorem rindex_some (b off cap : Nat) (L : List Pr) (bn : Nat) (s : ByteArray) (w : World) (hb : b < w.heap.size) (hL : Lies w b off L) (hn : L.length ≤ 8) (hbn : bn < w.heap.size) (hc : w.cell? ⟨bn, 0, none⟩ = some (.string s)) :
    Calls Try.prog 86 #[.slice (some ⟨b, off, none⟩) L.length cap, .func (.func 87) #[] #[.pointer (some ⟨bn, 0, none⟩)]] w fun e w' => e = .returned (.int .i64 (idxP s.toList L 0)) ∧ Below w.heap.size w w' := by
  go_enter Try.func86, Try.ntmps86
  go_wp2
  go_loopw [8] (fun i wr => ∃ k : Nat, k ≤ L.length ∧ i = .int .i64 k ∧ idxP s.toList L 0 = idxP s.toList (L.drop k) k ∧ Below w.heap.size w wr) (fun i _ => L.length - (intOf i).toNat)
  case atStart => exact ⟨0, Nat.zero_le _, rfl, rfl, Below.refl _ _⟩
  case round =>
    obtain ⟨k, hk, rfl, hi, hB⟩ := hrel
    have HI : Hid (idxP s.toList L 0 = idxP s.toList (L.drop k) k) := hi
    clear hi
    by_cases hlt : k < L.length
    · obtain ⟨p, hp⟩ : ∃ p, L[k]? = some p := ⟨L[k], by simp [hlt]⟩
      obtain ⟨c0, c1, c2, c3⟩ := hL k p hp
      have d0 := (hB.cell (p := ⟨b, off + k * 4, none⟩) hb).trans c0
      have d1 := (hB.cell (p := ⟨b, off + k * 4 + 1, none⟩) hb).trans c1
      have d2 := (hB.cell (p := ⟨b, off + k * 4 + 2, none⟩) hb).trans c2
      have d3 := (hB.cell (p := ⟨b, off + k * 4 + 3, none⟩) hb).trans c3
      have HD : Hid (L.drop k = p :: L.drop (k + 1)) := drop_at hp
      have cn := risName_any p bn s wr ((hB.cell (p := ⟨bn, 0, none⟩) hbn).trans hc) (Nat.lt_of_lt_of_le hbn hB.size)
      clear c0 c1 c2 c3 hp hL hc
      by_cases hq : (p.nm.toList == s.toList) = true
      · have H : Hid (idxP s.toList L 0 = k) := by
          show _ = _
          rw [HI.out, HD.out]; unfold idxP; rw [if_pos hq]
        rw [hq] at cn
        clear HI HD hq
        go_wp2_with (go_at_call 87; refine cn.mono ?_; rintro e w' ⟨rfl, rfl⟩)
        go_ret
        exact ⟨ret_v (by rw [H.out]; rfl), b_alloc hB _⟩
      · have H : Hid (idxP s.toList L 0 = idxP s.toList (L.drop (k + 1)) (k + 1)) := by
          show _ = _
          rw [HI.out, HD.out]; conv => lhs; unfold idxP
          rw [if_neg hq]
        have hq' : (p.nm.toList == s.toList) = false := by simpa using hq
        rw [hq'] at cn
        clear HI HD hq hq'
        go_wp2_with (go_at_call 87; refine cn.mono ?_; rintro e w' ⟨rfl, rfl⟩)
        go_roundw
        case rel => exact ⟨k + 1, by omega, by go_num, H.out, b_alloc hB _⟩
        case measure => simp [intOf]; omega
    · have hd : L.drop k = [] := List.drop_eq_nil_of_le (by omega)
      have H : Hid (idxP s.toList L 0 = -1) := by
        show _ = _
        rw [HI.out, hd]; rfl
      clear HI hd hL hc
      go_wp2
      go_ret
      exact ⟨ret_v (by rw [H.out]; rfl), hB⟩
set_option maxHeartbeats 1000000 in
theorem rindex_nil (ao : Option Addr) (c : Nat) (f : Value) (w : World) :
    Calls Try.prog 86 #[.slice ao 0 c, f] w fun e w' => e = .returned (.int .i64 (-1)) ∧ Below w.heap.size w w' := by
  go_enter Try.func86, Try.ntmps86
  go_wp2
  go_loopw [8] (fun i wr => i = .int .i64 0 ∧ wr = w) (fun i _ => 0)
  case atStart => exact ⟨rfl, rfl⟩
  case round =>
    obtain ⟨rfl, rfl⟩ := hrel
    go_wp2
    go_ret
    exact ⟨rfl, Below.refl _ _⟩
theorem rindex_any {v : Value} {L : List Pr} {w : World} (h : IsR w v L) (hn : L.length ≤ 8) (bn : Nat) (s : ByteArray) (hbn : bn < w.heap.size) (hc : w.cell? ⟨bn, 0, none⟩ = some (.string s)) :
    Calls Try.prog 86 #[v, .func (.func 87) #[] #[.pointer (some ⟨bn, 0, none⟩)]] w fun e w' => e = .returned (.int .i64 (idxP s.toList L 0)) ∧ Below w.heap.size w w' := by
  obtain ⟨ao, cap, rfl, rfl | ⟨b, off, rfl, hb, hl⟩⟩ := h
  · exact rindex_nil _ _ _ w
  · exact rindex_some b off cap L bn s w hb hl hn hbn hc

theorem idxP_spec (nm : List UInt8) (L : List Pr) : ∀ k, idxP nm L k = -1 ∨ ∃ j q, idxP nm L k = ((k + j : Nat) : Int) ∧ L[j]? = some q ∧ (q.nm.toList == nm) = true := by
  induction L with
  | nil => intro k; left; rfl
  | cons p r ih =>
    intro k
    by_cases h : (p.nm.toList == nm) = true
    · right; exact ⟨0, p, by unfold idxP; rw [if_pos h]; simp, rfl, h⟩
    · have e : idxP nm (p :: r) k = idxP nm r (k + 1) := by
        conv => lhs; unfold idxP
        rw [if_neg h]
      rw [e]
      rcases ih (k + 1) with h1 | ⟨j, q, h1, h2, h3⟩
      · exact .inl h1
      · exact .inr ⟨j + 1, q, by rw [h1]; congr 1; omega, by simpa using h2, h3⟩

/-- The fault of a name that is looked up. -/
def rfErr (nm : List UInt8) (L : List Pr) : Int := if rErr L = 0 then (if idxP nm L 0 = -1 then 5 else 0) else rErr L
/-- Where it is. -/
def rfAt (nm : List UInt8) (L : List Pr) : Int := if rfErr nm L = 0 then idxP nm L 0 else 0

theorem errV_5R : errV 5 = .iface 60 (.int .i64 5) := rfl

set_option maxHeartbeats 4000000 in
set_option maxRecDepth 100000 in
theorem rfind_any {v : Value} {L : List Pr} {w : World} (h : IsR w v L) (hs : Sz L) (hm : L.length ≤ maxLen) (s : ByteArray) :
    Calls Try.prog 61 #[v, .string s] w fun e w' => e = .returned (.tuple #[.int .i64 (rfAt s.toList L), errV (rfErr s.toList L)]) ∧ Below w.heap.size w w' := by
  have hB0 : Below w.heap.size w (w.alloc (.cells #[.string s] 9)) := b_alloc (Below.refl _ _) _
  have c1 := rcheck_r (h.on hB0) hs hm
  by_cases e1 : rErr L = 0
  · have hn := rErr_len e1
    rw [e1, errV_0] at c1
    have H2 : Hid (IsR w v L ∧ L.length ≤ 8 ∧ rErr L = 0) := ⟨h, hn, e1⟩
    rcases idxP_spec s.toList L 0 with hx | ⟨j, q, hx, hq, _⟩
    · have HE : Hid (rfErr s.toList L = 5 ∧ rfAt s.toList L = 0 ∧ idxP s.toList L 0 = -1) := by
        have e5 : rfErr s.toList L = 5 := by unfold rfErr; rw [if_pos e1, if_pos hx]
        exact ⟨e5, by unfold rfAt; rw [if_neg (by rw [e5]; decide)], hx⟩
      clear h hs hm e1 hn hx
      go_enter Try.func61, Try.ntmps61
      go_wp2_with (go_at_call 49; refine c1.mono ?_; rintro e W1 ⟨rfl, hB1⟩; refine Hid.out ?_)
      refine Lib.hid ?_
      have hB := on1R hB0 hB1
      have c2 := rindex_any (H2.out.1.on hB) H2.out.2.1 w.heap.size s (Nat.lt_of_lt_of_le (by simp) hB1.size) ((hB1.cell (p := ⟨w.heap.size, 0, none⟩) (by simp)).trans (by simp))
      rw [HE.out.2.2] at c2
      clear c1
      go_wp2_with (go_at_call 86; refine c2.mono ?_; rintro e W2 ⟨rfl, hB2⟩)
      go_ret2
      exact ⟨ret_v (by rw [HE.out.1, HE.out.2.1]; rfl), on1R hB hB2⟩
    · have hj : j < L.length := (List.getElem?_eq_some_iff.1 hq).1
      have HE : Hid (rfErr s.toList L = 0 ∧ rfAt s.toList L = j ∧ idxP s.toList L 0 = j) := by
        have hx' : idxP s.toList L 0 = (j : Int) := by simpa using hx
        have e5 : rfErr s.toList L = 0 := by unfold rfErr; rw [if_pos e1, if_neg (by rw [hx']; omega)]
        exact ⟨e5, by unfold rfAt; rw [if_pos e5, hx'], hx'⟩
      have hj8 : j < 8 := by omega
      clear h hs hm e1 hx hq hn hj
      go_enter Try.func61, Try.ntmps61
      go_wp2_with (go_at_call 49; refine c1.mono ?_; rintro e W1 ⟨rfl, hB1⟩; refine Hid.out ?_)
      refine Lib.hid ?_
      have hB := on1R hB0 hB1
      have c2 := rindex_any (H2.out.1.on hB) H2.out.2.1 w.heap.size s (Nat.lt_of_lt_of_le (by simp) hB1.size) ((hB1.cell (p := ⟨w.heap.size, 0, none⟩) (by simp)).trans (by simp))
      rw [HE.out.2.2] at c2
      clear c1
      go_wp2_with (go_at_call 86; refine c2.mono ?_; rintro e W2 ⟨rfl, hB2⟩)
      go_ret2
      exact ⟨ret_v (by rw [HE.out.1, HE.out.2.1]; rfl), on1R hB hB2⟩
  · have HE : Hid (rfErr s.toList L = rErr L ∧ ¬ rErr L = 0 ∧ rfAt s.toList L = 0) := by
      have e5 : rfErr s.toList L = rErr L := by unfold rfErr; rw [if_neg e1]
      exact ⟨e5, e1, by unfold rfAt; rw [if_neg (by rw [e5]; exact e1)]⟩
    rw [errV_ne e1] at c1
    clear h hs hm e1
    go_enter Try.func61, Try.ntmps61
    go_wp2_with (go_at_call 49; refine c1.mono ?_; rintro e W1 ⟨rfl, hB1⟩)
    go_ret2
    exact ⟨ret_v (by rw [HE.out.1, errV_ne HE.out.2.1, HE.out.2.2]; rfl), on1R hB0 hB1⟩

/-- What Get gives. -/
def getV (nm : List UInt8) (L : List Pr) : Value :=
  if rfErr nm L = 0 then (match L[(idxP nm L 0).toNat]? with | some q => .agg #[.int .i64 q.t, .int .i64 q.n, .string q.s] | none => .agg #[.int .i64 0, .int .i64 0, .string ⟨#[]⟩]) else .agg #[.int .i64 0, .int .i64 0, .string ⟨#[]⟩]

end Go.Proofs.Ytidmfdbckpficaa
