/-
  Ops in memory; what an op does, as contracts of delta.apply speak of it; delta.apply of Gone.
-/
import Derived.Test.YtffiddpnkiejkaaGreatM08
import Derived.Test.YtffiddpnkiejkaaGreatM05
import Derived.Test.YtffiddpnkiejkaaGreatM01
import Derived.Laws.Cover1
namespace Go.Proofs.YtffiddpnkiejkaaGreat
open Go.RowKit
set_option linter.unusedVariables false
set_option linter.unusedSimpArgs false

/-- An op. -/
structure Opx where
  wh : Int
  nd : Nd
  pr : Pr
  te : Te
def Opx.cells (o : Opx) : List Value := [.int .i64 o.wh, .int .i64 o.nd.id, .string o.nd.kd, o.nd.rv, .string o.pr.nm, .int .i64 o.pr.t, .int .i64 o.pr.n, .string o.pr.s, .string o.te.bd, .int .i64 o.te.fr, .int .i64 o.te.tt]
abbrev Opx.one (o : Opx) : Value := .agg #[.int .i64 o.wh, .int .i64 o.nd.id, .string o.nd.kd, o.nd.rv, .string o.pr.nm, .int .i64 o.pr.t, .int .i64 o.pr.n, .string o.pr.s, .string o.te.bd, .int .i64 o.te.fr, .int .i64 o.te.tt]
theorem op_len (o : Opx) : o.cells.length = 11 := rfl
/-- Texts are not too long for memory. -/
def OpSz (o : Opx) : Prop := (o.nd.kd.size ≤ maxLen ∧ Sz o.nd.rc ∧ o.nd.rc.length ≤ maxLen) ∧ (o.pr.nm.size ≤ maxLen ∧ o.pr.s.size ≤ maxLen) ∧ o.te.bd.size ≤ maxLen
def LiesO (w : World) (b off : Nat) (L : List Opx) : Prop := ∀ k o, L[k]? = some o → (∀ i u, o.cells[i]? = some u → w.cell? ⟨b, off + k * 11 + i, none⟩ = some u) ∧ IsR w o.nd.rv o.nd.rc
def IsO (w : World) (v : Value) (L : List Opx) : Prop :=
  ∃ ao c, v = .slice ao L.length c ∧ L.length ≤ c ∧ (L = [] ∨ ∃ b off, ao = some ⟨b, off, none⟩ ∧ b < w.heap.size ∧ LiesO w b off L)
theorem LiesO.on {w w' : World} {b off : Nat} {L : List Opx} (h : LiesO w b off L) (hb : b < w.heap.size) (hB : Below w.heap.size w w') : LiesO w' b off L := fun k o ho => by
  obtain ⟨c0, c1⟩ := h k o ho
  exact ⟨fun i u hu => (hB.cell hb).trans (c0 i u hu), c1.on hB⟩
theorem IsO.on {w w' : World} {v : Value} {L : List Opx} (h : IsO w v L) (hB : Below w.heap.size w w') : IsO w' v L := by
  obtain ⟨ao, c, rfl, hc, h0 | ⟨b, off, rfl, hb, hL⟩⟩ := h
  · exact ⟨ao, c, rfl, hc, .inl h0⟩
  · exact ⟨_, c, rfl, hc, .inr ⟨b, off, rfl, Nat.lt_of_lt_of_le hb hB.size, hL.on hb hB⟩⟩

/-- What ops do to a graph: the error, the nodes, the ties. -/
structure OpS where
  e : Opx → List Nd → List Te → Int
  m : Opx → List Nd → List Te → List Nd
  t : Opx → List Nd → List Te → List Te
/-- apply does what is told of an op. -/
def ApOk (S : OpS) (o : Opx) : Prop := ∀ (w : World) (base p : Nat) (N : List Nd) (T : List Te), OG w base p N T → base ≤ w.heap.size → gErr N T = 0 → IsR w o.nd.rv o.nd.rc → OpSz o →
  Calls Tryz.prog 22 #[.pointer (some ⟨p, 0, none⟩), o.one] w fun e w' => e = .returned (errV (S.e o (cN N) T)) ∧ (S.e o (cN N) T = 0 → ∃ N', cN N' = S.m o (cN N) T ∧ OG w' base p N' (S.t o (cN N) T)) ∧ Below base w w'

theorem loN_c (id : Int) : ∀ N : List Nd, loN id (cN N) = loN id N
  | [] => rfl
  | n :: r => by
    have := loN_c id r
    show loN id (n.c :: cN r) = _
    unfold loN
    rw [this]
    rfl
theorem fndN_c (id : Int) (N : List Nd) : fndN id (cN N) = fndN id N := by
  unfold fndN
  rw [loN_c]
  unfold cN
  rw [List.getElem?_map]
  cases N[loN id N]? <;> rfl
theorem chkN_srt : ∀ (N : List Nd) (o : Option Nd), chkN o N = 0 → (∀ q, o = some q → ∀ x ∈ N, q.id < x.id) ∧ SrtN N
  | [], o, _ => ⟨fun q _ x hx => (by cases hx), List.Pairwise.nil⟩
  | n :: r, o, h => by
    have hn : ndE o n = 0 := by
      by_cases e : ndE o n = 0
      · exact e
      · rw [chkN_bad e] at h; exact absurd h e
    rw [chkN_ok hn] at h
    obtain ⟨h1, h2⟩ := chkN_srt r (some n) h
    have hl : n.low o = false := by
      unfold ndE at hn
      by_cases a : idOk n.id = true
      · rw [if_pos a] at hn
        by_cases b : n.low o = true
        · rw [if_pos b] at hn; omega
        · simpa using b
      · rw [if_neg a] at hn; omega
    refine ⟨fun q hq x hx => ?_, List.pairwise_cons.2 ⟨h1 n rfl, h2⟩⟩
    subst hq
    have hlt : q.id < n.id := by simpa [Nd.low] using hl
    rcases List.mem_cons.1 hx with rfl | hx
    · exact hlt
    · exact Int.lt_trans hlt (h1 n rfl x hx)
theorem gErr_lens {N : List Nd} {T : List Te} (h : gErr N T = 0) : N.length ≤ 60 ∧ T.length ≤ 120 ∧ chkN none N = 0 ∧ chkT none T = 0 := by
  unfold gErr at h
  by_cases h1 : 60 < N.length ∨ 120 < T.length
  · rw [if_pos h1] at h; omega
  · rw [if_neg h1] at h
    by_cases h2 : chkN none N = 0
    · rw [if_pos h2] at h; exact ⟨by omega, by omega, h2, h⟩
    · rw [if_neg h2] at h; exact absurd h h2
theorem gErr_srt {N : List Nd} {T : List Te} (h : gErr N T = 0) : SrtN N := (chkN_srt N none (gErr_lens h).2.2.1).2

theorem chkN_rc : ∀ (N : List Nd) (o : Option Nd), chkN o N = 0 → ∀ n ∈ N, idOk n.id = true ∧ nErr n.kd.data.toList = 0 ∧ rErr n.rc = 0
  | [], o, _, n, hn => by cases hn
  | x :: r, o, h, n, hn => by
    have hx : ndE o x = 0 := by
      by_cases e : ndE o x = 0
      · exact e
      · rw [chkN_bad e] at h; exact absurd h e
    rw [chkN_ok hx] at h
    rcases List.mem_cons.1 hn with rfl | hn
    · unfold ndE at hx
      by_cases a : idOk n.id = true
      · rw [if_pos a] at hx
        by_cases b : n.low o = true
        · rw [if_pos b] at hx; omega
        · rw [if_neg b] at hx
          by_cases c : nErr n.kd.data.toList = 0
          · rw [if_pos c] at hx; exact ⟨a, c, hx⟩
          · rw [if_neg c] at hx; exact absurd hx c
      · rw [if_neg a] at hx; omega
    · exact chkN_rc r (some x) h n hn
theorem rErr_le {L : List Pr} (h : rErr L = 0) : L.length ≤ 8 := by
  unfold rErr at h
  by_cases e : 8 < L.length
  · rw [if_pos e] at h; omega
  · omega
theorem gErr_rc8 {N : List Nd} {T : List Te} (h : gErr N T = 0) : ∀ n ∈ N, n.rc.length ≤ 8 := fun n hn => rErr_le (chkN_rc N none (gErr_lens h).2.2.1 n hn).2.2

/-- Gone. -/
def goneE (id : Int) (M : List Nd) : Int := if fndN id M = true then 0 else 5
set_option maxHeartbeats 1000000 in
theorem apply_gone (o : Opx) (ho : o.wh = 2) (w : World) (base p : Nat) (N : List Nd) (T : List Te) (hG : OG w base p N T) (hb : base ≤ w.heap.size) (he : gErr N T = 0) (hR : IsR w o.nd.rv o.nd.rc) :
    Calls Tryz.prog 22 #[.pointer (some ⟨p, 0, none⟩), o.one] w fun e w' => e = .returned (errV (goneE o.nd.id (cN N))) ∧ (goneE o.nd.id (cN N) = 0 → ∃ N', cN N' = (cN N).eraseIdx (loN o.nd.id (cN N)) ∧ OG w' base p N' (T.filter (keepT o.nd.id))) ∧ Below base w w' := by
  obtain ⟨l60, l120, _, _⟩ := gErr_lens he
  have hs := gErr_srt he
  obtain ⟨av, lv, cv, hv⟩ := hR.sl
  obtain ⟨wh, ⟨id, kd, rv, rc⟩, ⟨nm, pt, pn, ps⟩, ⟨bd, fr, tt⟩⟩ := o
  simp only at ho hv ⊢
  subst ho hv
  obtain ⟨W0, hW0⟩ : ∃ W0, W0 = w.alloc (.cells #[.int .i64 2, .int .i64 id, .string kd, .slice av lv cv, .string nm, .int .i64 pt, .int .i64 pn, .string ps, .string bd, .int .i64 fr, .int .i64 tt] 47) := ⟨_, rfl⟩
  have hB0 : Below w.heap.size w W0 := by rw [hW0]; exact b_alloc (Below.refl _ _) _
  have hG0 := hG.on hB0
  have n0 : W0.heap[w.heap.size]? = some (.cells #[.int .i64 2, .int .i64 id, .string kd, .slice av lv cv, .string nm, .int .i64 pt, .int .i64 pn, .string ps, .string bd, .int .i64 fr, .int .i64 tt] 47 (0, 0)) := by rw [hW0]; exact heap_alloc_new w _
  have x0 : W0.cell? ⟨w.heap.size, 0, none⟩ = some (.int .i64 2) := cell_at n0 rfl
  have x1 : W0.cell? ⟨w.heap.size, 1, none⟩ = some (.int .i64 id) := cell_at n0 rfl
  unfold goneE
  rw [fndN_c, loN_c]
  cases hf : fndN id N with
  | false =>
    have cD := dropNode_no hG0 hs (by omega) id hf
    have HB : Hid (Below w.heap.size w W0) := hB0
    clear hG0 hG hB0 n0 hs he hR hf
    simp only [Bool.false_eq_true, if_false]
    rw [show errV 5 = .iface 74 (.int .i64 5) from rfl] at cD ⊢
    subst hW0
    go_enter Tryz.func22, Tryz.ntmps22
    go_wp2_with (first | (go_at_call 35; refine cD.mono ?_; rintro e W2 ⟨rfl, hB2⟩))
    go_ret
    exact ⟨rfl, fun h => (by cases h), (on1K HB.out hB2 (Nat.le_refl _)).mono hb⟩
  | true =>
    have cD := dropNode_ok hG0 (Nat.le_trans hb hB0.size) hs (by omega) (by omega) id hf
    have HB : Hid (Below w.heap.size w W0 ∧ OG w base p N T) := ⟨hB0, hG⟩
    clear hG0 hG hB0 n0 hs he hR hf
    simp only [if_true]
    subst hW0
    go_enter Tryz.func22, Tryz.ntmps22
    go_wp2_with (first | (go_at_call 35; refine cD.mono ?_; rintro e W2 ⟨rfl, hG2, hB2⟩))
    go_ret
    refine ⟨rfl, fun _ => ⟨_, ?_, hG2⟩, (HB.out.1.mono hb).trans hB2⟩
    unfold cN
    rw [List.eraseIdx_eq_take_drop_succ, List.eraseIdx_eq_take_drop_succ, List.map_append, List.map_take, List.map_drop]
end Go.Proofs.YtffiddpnkiejkaaGreat

/-
  Ops as a parameter.
-/
namespace Go.Proofs.YtffiddpnkiejkaaGreat
open Go.ChangeShapes Go.WideShapes Go.ChangeAt Go.RowKit Go.Joins Go.Deep
open Go.ChangeMaps (open_string shut_string)
set_option linter.unusedVariables false
set_option linter.unusedSimpArgs false

theorem cells65 : Tryz.prog.cellsOf 47 = 11 := by kernel_rfl
theorem cells61 : Tryz.prog.cellsOf 30 = 1 := by kernel_rfl
section
variable {H : Type} {enc : TypeId × Value → H}
set_option maxRecDepth 100000 in
/-- Eleven cells that read as an op. -/
theorem cells_op {W : World} {b : Nat} {sp : Nat → Bool} {hd : Bool} {n : Nat} {cs : List Value} {x : DataW H × List MemPlace} (hlen : cs.length = 11) (h : DataW.trod enc Tryz.prog W b sp hd n 47 cs = some x) :
    ∃ o : Opx, cs = o.cells ∧ IsR W o.nd.rv o.nd.rc ∧ OpSz o := by
  obtain ⟨y0, y1, y2, y3, k, hxy, _, u0, u1, u2, u3⟩ := trod_struct4 Tryz.underlying47 h
  match cs, hlen with
  | [v0, v1, v2, v3, v4, v5, v6, v7, v8, v9, v10], _ =>
    simp only [cells3, cells29, cells56, cells31, List.drop, List.take] at u0 u1 u2 u3
    obtain ⟨q0, e0, d0, _⟩ := DataW.trod_int Tryz.underlying3 u0
    obtain ⟨a0, a1, a2, k1, ha, _, t0, t1, t2⟩ := trod_struct3 Tryz.underlying34 u1
    simp only [cells9, cells3, cells27, List.drop, List.take] at t0 t1 t2
    obtain ⟨q1, e1, d1, _⟩ := DataW.trod_int Tryz.underlying3 t0
    obtain ⟨s1, f1, d2, z1⟩ := DataW.trod_string Tryz.underlying9 t1
    obtain ⟨l, hR, hZ, hl⟩ := open_props t2
    obtain ⟨pr, ep, zp1, zp2⟩ := cells_prop rfl u2
    obtain ⟨c0, c1, c2, k3, hc, _, r0, r1, r2⟩ := trod_struct3 Tryz.underlying36 u3
    simp only [cells9, cells3, List.drop, List.take] at r0 r1 r2
    obtain ⟨s3, g0, d3, z3⟩ := DataW.trod_string Tryz.underlying9 r0
    obtain ⟨q4, g1, d4, _⟩ := DataW.trod_int Tryz.underlying3 r1
    obtain ⟨q5, g2, d5, _⟩ := DataW.trod_int Tryz.underlying3 r2
    simp only [List.cons.injEq, and_true, Pr.cells] at e0 e1 f1 ep g0 g1 g2
    obtain ⟨p1, p2, p3, p4⟩ := ep
    subst e0 e1 f1 g0 g1 g2 p1 p2 p3 p4
    exact ⟨⟨q0, ⟨q1, s1, v3, l⟩, pr, ⟨s3, q4, q5⟩⟩, rfl, hR, ⟨z1, hZ, hl⟩, ⟨zp1, zp2⟩, z3⟩
set_option maxRecDepth 100000 in
/-- Ops that came in. -/
theorem open_ops {W : World} {r : Reach} {b0 b : Nat} {sp : Nat → Bool} {hd : Bool} {v : Value} {d : DataW H} {p : List MemPlace} (hv : Value.okWide Tryz.prog W r b0 30 v) (h0 : DataW.Trod enc Tryz.prog W b sp hd 30 v d p) :
    ∃ L, IsO W v L ∧ (∀ o ∈ L, OpSz o) ∧ L.length ≤ maxLen := by
  obtain ⟨a0, l0, c0, rfl⟩ := okWide_slice Tryz.underlying30 hv
  obtain ⟨fuel, hf⟩ := h0
  have h : DataW.trod enc Tryz.prog W b sp hd fuel 30 [.slice a0 l0 c0] = some (d, p) := by simpa [Value.cells] using hf
  rcases open_slice Tryz.underlying30 h with ⟨hc, _⟩ | ⟨a, len, cap, m, n, D, Pl, hc, hb, hl, hm, hmm, _, hall⟩
  · simp only [List.cons.injEq, and_true] at hc
    exact ⟨[], ⟨none, 0, hc, Nat.le_refl _, .inl rfl⟩, fun f hf => by simp at hf, by decide⟩
  · simp only [List.cons.injEq, and_true] at hc
    rw [hc]
    clear hc
    have hlm : len ≤ m := by rw [hmm]; split <;> omega
    by_cases h0 : len = 0
    · subst h0
      exact ⟨[], ⟨some a, cap, rfl, Nat.zero_le _, .inl rfl⟩, fun f hf => by simp at hf, by decide⟩
    · have each : ∀ i, i < len → ∃ f : Opx, (∀ j, j < 11 → W.cell? ((a.add (i * 11)).add j) = f.cells[j]?) ∧ IsR W f.nd.rv f.nd.rc ∧ OpSz f := by
        intro i hi
        obtain ⟨cs', h1, h2⟩ := hall i (by omega)
        rw [cells65] at h1
        obtain ⟨_, hlen, hcell⟩ := World.cells?_some h1
        obtain ⟨f, rfl, z⟩ := cells_op hlen h2
        exact ⟨f, hcell, z⟩
      haveI : Inhabited Opx := ⟨⟨0, ⟨0, ⟨#[]⟩, .nilIface, []⟩, ⟨⟨#[]⟩, 0, 0, ⟨#[]⟩⟩, ⟨⟨#[]⟩, 0, 0⟩⟩⟩
      obtain ⟨q, hq⟩ := choose_lt each
      have hsp : a.spot = none ∧ a.block < W.heap.size := by
        have c0 := (hq 0 (by omega)).1 0 (by decide)
        rw [addz, Nat.zero_mul, addz] at c0
        exact cell_plain (c0.trans rfl)
      obtain ⟨bk, off, spot⟩ := a
      obtain ⟨e1, e2⟩ := hsp
      simp only at e1 e2
      subst e1
      refine ⟨(List.range len).map q, ⟨_, cap, by simp, by simpa using hl, .inr ⟨bk, off, rfl, e2, fun k y hy => ?_⟩⟩, fun f hf => ?_, by simp; omega⟩
      · rw [List.getElem?_map] at hy
        obtain ⟨k', h1, h2⟩ := Option.map_eq_some_iff.1 hy
        obtain ⟨h3, h4⟩ := List.getElem?_eq_some_iff.1 h1
        simp at h3 h4
        subst h4; subst h2
        refine ⟨fun j u hu => ?_, (hq k h3).2.1⟩
        have hj : j < 11 := by have := (List.getElem?_eq_some_iff.1 hu).1; rwa [op_len] at this
        have hh := (hq k h3).1 j hj
        rw [Addr.add_lit, Addr.add_lit] at hh
        exact hh.trans hu
      · obtain ⟨i, hi, rfl⟩ := List.mem_map.1 hf
        exact (hq i (List.mem_range.1 hi)).2.2
end
end Go.Proofs.YtffiddpnkiejkaaGreat

/-
  What package kind says, in plain functions: the fault of kinds, what one comes of, the fields of all of them; and how kinds lie in memory.
-/
namespace Go.Proofs.YtffiddpnkiejkaaGreat
open Go.RowKit
set_option linter.unusedVariables false
set_option linter.unusedSimpArgs false

/-- A name. -/
abbrev Nm := List UInt8
/-- It as a string. -/
def bs (l : Nm) : ByteArray := ⟨l.toArray⟩
theorem bs_toList (l : Nm) : (bs l).toList = l := by rw [Lib.toList_data]; simp [bs]
theorem bs_data (l : Nm) : (bs l).data.toList = l := by simp [bs]
theorem bs_self (s : ByteArray) : bs s.toList = s := by rw [Lib.toList_data]; cases s; simp [bs]
theorem bs_size (l : Nm) : (bs l).size = l.length := by simp [bs, ByteArray.size]
attribute [simp, go_sem] bs_toList bs_data

/-- A field. -/
structure Fd where
  nm : Nm
  t : Int
  must : Bool
  key : Bool
/-- A kind; and the two slices that it has. -/
structure Kd where
  nm : Nm
  of : List Nm
  fs : List Fd
  vo : Value
  vf : Value
/-- Its cells. -/
def Fd.cells (f : Fd) : List Value := [.string (bs f.nm), .int .i64 f.t, .bool f.must, .bool f.key]
/-- It as one value. -/
abbrev Fd.one (f : Fd) : Value := .agg #[.string (bs f.nm), .int .i64 f.t, .bool f.must, .bool f.key]
/-- Its cells. -/
def Kd.cells (k : Kd) : List Value := [.string (bs k.nm), k.vo, k.vf]
/-- It as one value. -/
abbrev Kd.one (k : Kd) : Value := .agg #[.string (bs k.nm), k.vo, k.vf]

/-- Are two the same? -/
def feq (a b : Fd) : Bool := a.nm == b.nm && a.t == b.t && a.must == b.must && a.key == b.key
theorem feq_iff (a b : Fd) : feq a b = true ↔ a = b := by
  cases a; cases b
  simp [feq, and_assoc]

/-- The first of a name. -/
def idxK (nm : Nm) : List Kd → Nat → Int
  | [], _ => -1
  | p :: r, k => if (p.nm == nm) = true then k else idxK nm r (k + 1)
/-- A name is there. -/
def hasN (l : List Nm) (nm : Nm) : Bool := l.contains nm
/-- What stands behind from the last one on, of which the names are. -/
def back : List Kd → List Nm → List Kd
  | [], _ => []
  | k :: r, ns => if hasN ns k.nm = true then k :: back r (ns ++ k.of) else back r ns
/-- The last one and all it comes of. -/
def kinOf (L : List Kd) : List Kd := match L.getLast? with
  | none => []
  | some k => (back L.reverse [k.nm]).reverse
/-- How many are ahead of a name. -/
def lo (nm : Nm) : List Fd → Nat
  | [] => 0
  | g :: r => if Op.bytesLess g.nm nm = true then lo nm r + 1 else 0
/-- One field more. -/
def insF (all : List Fd) (f : Fd) : Option (List Fd) := match all[lo f.nm all]? with
  | some g => if (g.nm == f.nm) = true then (if feq g f = true then some all else none) else some (all.take (lo f.nm all) ++ f :: all.drop (lo f.nm all))
  | none => some (all.take (lo f.nm all) ++ f :: all.drop (lo f.nm all))
/-- Many more. -/
def fOf : List Fd → List Fd → Option (List Fd)
  | all, [] => some all
  | all, f :: r => match insF all f with
    | some a => fOf a r
    | none => none
/-- The fields of all. -/
def fieldsOf (K : List Kd) : Option (List Fd) := fOf [] (K.flatMap Kd.fs)
/-- The fault of one field, behind another one. -/
def fBad (o : Option Fd) (f : Fd) : Int :=
  if nErr f.nm = 0 then (if f.t = 1 ∨ f.t = 2 ∨ f.t = 3 then (if (f.key && !f.must) = true then 3 else (match o with
    | none => 0
    | some q => if (Op.bytesLess f.nm q.nm || f.nm == q.nm) = true then 7 else 0)) else 8) else nErr f.nm
/-- The fault of fields. -/
def fChk : Option Fd → List Fd → Int
  | _, [] => 0
  | o, f :: r => if fBad o f = 0 then fChk (some f) r else fBad o f
/-- The fault of what one comes of. -/
def oChk (A : List Kd) : List Nm → List Nm → Int
  | _, [] => 0
  | seen, n :: r => if idxK n A 0 = -1 then 5 else if hasN seen n = true then 7 else oChk A (seen ++ [n]) r
/-- The fault of all fields. -/
def aErr (o : Option (List Fd)) : Int := match o with
  | none => 7
  | some l => if 8 < l.length then 4 else 0
/-- The fault of a kind, behind others. -/
def kErr (A : List Kd) (k : Kd) : Int :=
  if nErr k.nm = 0 then (if idxK k.nm A 0 = -1 then (if 4 < k.of.length ∨ 8 < k.fs.length then 4 else
    (if oChk A [] k.of = 0 then (if fChk none k.fs = 0 then aErr (fieldsOf (kinOf (A ++ [k]))) else fChk none k.fs) else oChk A [] k.of)) else 7) else nErr k.nm
/-- The first that is wrong; its fault. -/
def ksGo : List Kd → List Kd → Nm × Int
  | _, [] => ([], 0)
  | A, k :: r => if kErr A k = 0 then ksGo (A ++ [k]) r else (k.nm, kErr A k)
def ksErr (L : List Kd) : Nm × Int := if 12 < L.length then ([], 4) else ksGo [] L
/-- The fault of a name that is looked up. -/
def nmErr (L : List Kd) (a : Nm) : Int := if (ksErr L).2 = 0 then (if idxK a L 0 = -1 then 5 else 0) else (ksErr L).2
/-- Where it is. -/
def nmAt (L : List Kd) (a : Nm) : Nat := (idxK a L 0).toNat
/-- All it comes of. -/
def kin (L : List Kd) (a : Nm) : List Kd := kinOf (L.take (nmAt L a + 1))
/-- All that come of it. -/
def unds (L : List Kd) (a : Nm) : List Nat → List Nm
  | [] => []
  | i :: r => match L[i]? with
    | some k => if idxK a (kinOf (L.take (i + 1))) 0 = -1 then unds L a r else k.nm :: unds L a r
    | none => unds L a r
def under (L : List Kd) (a : Nm) : List Nm := unds L a (List.range L.length)
/-- Its fields. -/
def fields (L : List Kd) (a : Nm) : List Fd := (fieldsOf (kin L a)).getD []

/-- Strings lie there. -/
def LiesS (w : World) (b off : Nat) (l : List Nm) : Prop := ∀ k n, l[k]? = some n → w.cell? ⟨b, off + k, none⟩ = some (.string (bs n))
/-- The value is this list of strings. -/
def IsS (w : World) (v : Value) (l : List Nm) : Prop :=
  (∃ ao c, v = .slice ao 0 c ∧ l = [] ∧ c ≤ maxLen ∧ (ao = none → c = 0)) ∨ ∃ b off cap, v = .slice (some ⟨b, off, none⟩) l.length cap ∧ l.length ≤ cap ∧ cap ≤ maxLen ∧ b < w.heap.size ∧ LiesS w b off l
/-- Fields lie there. -/
def LiesF (w : World) (b off : Nat) (l : List Fd) : Prop := ∀ k f, l[k]? = some f →
  w.cell? ⟨b, off + k * 4, none⟩ = some (.string (bs f.nm)) ∧ w.cell? ⟨b, off + k * 4 + 1, none⟩ = some (.int .i64 f.t) ∧ w.cell? ⟨b, off + k * 4 + 2, none⟩ = some (.bool f.must) ∧ w.cell? ⟨b, off + k * 4 + 3, none⟩ = some (.bool f.key)
/-- The value is this list of fields. -/
def IsF (w : World) (v : Value) (l : List Fd) : Prop :=
  (∃ ao c, v = .slice ao 0 c ∧ l = [] ∧ c ≤ maxLen ∧ (ao = none → c = 0)) ∨ ∃ b off cap, v = .slice (some ⟨b, off, none⟩) l.length cap ∧ l.length ≤ cap ∧ cap ≤ maxLen ∧ b < w.heap.size ∧ LiesF w b off l
/-- Kinds lie there. -/
def LiesK (w : World) (b off : Nat) (l : List Kd) : Prop := ∀ i k, l[i]? = some k →
  w.cell? ⟨b, off + i * 3, none⟩ = some (.string (bs k.nm)) ∧ w.cell? ⟨b, off + i * 3 + 1, none⟩ = some k.vo ∧ w.cell? ⟨b, off + i * 3 + 2, none⟩ = some k.vf
/-- What they have lies there. -/
def Parts (w : World) (l : List Kd) : Prop := ∀ k ∈ l, IsS w k.vo k.of ∧ IsF w k.vf k.fs
/-- The value is this list of kinds. -/
def IsK (w : World) (v : Value) (l : List Kd) : Prop :=
  (v = .slice none 0 0 ∧ l = []) ∨ ∃ b off cap, v = .slice (some ⟨b, off, none⟩) l.length cap ∧ l.length ≤ cap ∧ cap ≤ maxLen ∧ b < w.heap.size ∧ LiesK w b off l

theorem LiesS.on {w w' : World} {b off : Nat} {l : List Nm} (h : LiesS w b off l) (hb : b < w.heap.size) (hB : Below w.heap.size w w') : LiesS w' b off l := fun k n hn => (hB.cell hb).trans (h k n hn)
theorem IsS.on {w w' : World} {v : Value} {l : List Nm} (h : IsS w v l) (hB : Below w.heap.size w w') : IsS w' v l := by
  rcases h with h | ⟨b, off, cap, hv, hc, hm, hb, hl⟩
  · exact .inl h
  · exact .inr ⟨b, off, cap, hv, hc, hm, Nat.lt_of_lt_of_le hb hB.size, hl.on hb hB⟩
theorem LiesF.on {w w' : World} {b off : Nat} {l : List Fd} (h : LiesF w b off l) (hb : b < w.heap.size) (hB : Below w.heap.size w w') : LiesF w' b off l := fun k p hp => by
  obtain ⟨c0, c1, c2, c3⟩ := h k p hp
  exact ⟨(hB.cell hb).trans c0, (hB.cell hb).trans c1, (hB.cell hb).trans c2, (hB.cell hb).trans c3⟩
theorem IsF.on {w w' : World} {v : Value} {l : List Fd} (h : IsF w v l) (hB : Below w.heap.size w w') : IsF w' v l := by
  rcases h with h | ⟨b, off, cap, hv, hc, hm, hb, hl⟩
  · exact .inl h
  · exact .inr ⟨b, off, cap, hv, hc, hm, Nat.lt_of_lt_of_le hb hB.size, hl.on hb hB⟩
theorem LiesK.on {w w' : World} {b off : Nat} {l : List Kd} (h : LiesK w b off l) (hb : b < w.heap.size) (hB : Below w.heap.size w w') : LiesK w' b off l := fun k p hp => by
  obtain ⟨c0, c1, c2⟩ := h k p hp
  exact ⟨(hB.cell hb).trans c0, (hB.cell hb).trans c1, (hB.cell hb).trans c2⟩
theorem IsK.on {w w' : World} {v : Value} {l : List Kd} (h : IsK w v l) (hB : Below w.heap.size w w') : IsK w' v l := by
  rcases h with h | ⟨b, off, cap, hv, hc, hm, hb, hl⟩
  · exact .inl h
  · exact .inr ⟨b, off, cap, hv, hc, hm, Nat.lt_of_lt_of_le hb hB.size, hl.on hb hB⟩
theorem Parts.on {w w' : World} {l : List Kd} (h : Parts w l) (hB : Below w.heap.size w w') : Parts w' l := fun k hk => ⟨(h k hk).1.on hB, (h k hk).2.on hB⟩
theorem Parts.sub {w : World} {l m : List Kd} (h : Parts w l) (hs : ∀ k ∈ m, k ∈ l) : Parts w m := fun k hk => h k (hs k hk)
theorem LiesS.take {w : World} {b off : Nat} {l : List Nm} (h : LiesS w b off l) (i : Nat) : LiesS w b off (l.take i) := fun k n hn => by
  rw [List.getElem?_take] at hn
  split at hn
  · exact h k n hn
  · cases hn
theorem LiesK.take {w : World} {b off : Nat} {l : List Kd} (h : LiesK w b off l) (i : Nat) : LiesK w b off (l.take i) := fun k n hn => by
  rw [List.getElem?_take] at hn
  split at hn
  · exact h k n hn
  · cases hn

theorem idxK_spec (nm : Nm) (L : List Kd) : ∀ k, idxK nm L k = -1 ∨ ∃ j q, idxK nm L k = ((k + j : Nat) : Int) ∧ L[j]? = some q ∧ q.nm = nm := by
  induction L with
  | nil => intro k; left; rfl
  | cons p r ih =>
    intro k
    by_cases h : (p.nm == nm) = true
    · right; exact ⟨0, p, by unfold idxK; rw [if_pos h]; simp, rfl, by simpa using h⟩
    · have e : idxK nm (p :: r) k = idxK nm r (k + 1) := by
        conv => lhs; unfold idxK
        rw [if_neg h]
      rw [e]
      rcases ih (k + 1) with h1 | ⟨j, q, h1, h2, h3⟩
      · exact .inl h1
      · exact .inr ⟨j + 1, q, by rw [h1]; congr 1; omega, by simpa using h2, h3⟩
theorem dropK {α : Type} {L : List α} {k : Nat} {p : α} (h : L[k]? = some p) : L.drop k = p :: L.drop (k + 1) := by
  obtain ⟨hk, rfl⟩ := List.getElem?_eq_some_iff.1 h
  exact List.drop_eq_getElem_cons hk
theorem takeK {α : Type} {L : List α} {k : Nat} {p : α} (h : L[k]? = some p) : L.take (k + 1) = L.take k ++ [p] := by
  rw [List.take_add_one, h]; rfl

end Go.Proofs.YtffiddpnkiejkaaGreat

/-
  What a kind comes of is the least list of names that holds its own and with each what that comes of: mathematics.
-/
namespace Go.Proofs.YtffiddpnkiejkaaGreat
open Go.RowKit
set_option linter.unusedVariables false
set_option linter.unusedSimpArgs false

theorem hasN_iff (l : List Nm) (n : Nm) : hasN l n = true ↔ n ∈ l := by unfold hasN; simp
/-- All names that one way back finds. -/
def cl : List Kd → List Nm → List Nm
  | [], ns => ns
  | k :: r, ns => if hasN ns k.nm = true then cl r (ns ++ k.of) else cl r ns
/-- From the last on: each name once, and what one comes of stands ahead of it. -/
def RightR : List Kd → Prop
  | [] => True
  | k :: r => (∀ x ∈ r, x.nm ≠ k.nm) ∧ (∀ n ∈ k.of, ∃ x ∈ r, x.nm = n) ∧ RightR r

theorem cl_ge (r : List Kd) : ∀ ns, ∀ n ∈ ns, n ∈ cl r ns := by
  induction r with
  | nil => intro ns n h; exact h
  | cons k r ih =>
    intro ns n h
    unfold cl
    split
    · exact ih _ n (by simp [h])
    · exact ih _ n h
theorem cl_sub (r : List Kd) : ∀ ns, ∀ n ∈ cl r ns, n ∈ ns ∨ ∃ x ∈ r, n ∈ x.of := by
  induction r with
  | nil => intro ns n h; exact .inl h
  | cons k r ih =>
    intro ns n h
    unfold cl at h
    split at h
    · rcases ih _ n h with h1 | ⟨x, hx, h1⟩
      · rcases List.mem_append.1 h1 with h2 | h2
        · exact .inl h2
        · exact .inr ⟨k, by simp, h2⟩
      · exact .inr ⟨x, by simp [hx], h1⟩
    · rcases ih _ n h with h1 | ⟨x, hx, h1⟩
      · exact .inl h1
      · exact .inr ⟨x, by simp [hx], h1⟩
theorem right_of {r : List Kd} (h : RightR r) : ∀ x ∈ r, ∀ n ∈ x.of, ∃ y ∈ r, y.nm = n := by
  induction r with
  | nil => intro x hx; simp at hx
  | cons k r ih =>
    obtain ⟨h1, h2, h3⟩ := h
    intro x hx n hn
    rcases List.mem_cons.1 hx with rfl | hx
    · obtain ⟨y, hy, e⟩ := h2 n hn
      exact ⟨y, by simp [hy], e⟩
    · obtain ⟨y, hy, e⟩ := ih h3 x hx n hn
      exact ⟨y, by simp [hy], e⟩
/-- What is not there when it comes to it does not come any more. -/
theorem cl_not {k : Kd} {r : List Kd} (h : RightR (k :: r)) {ns : List Nm} (hn : ¬ k.nm ∈ ns) : ¬ k.nm ∈ cl r ns := by
  intro h1
  rcases cl_sub r ns _ h1 with h2 | ⟨x, hx, h2⟩
  · exact hn h2
  · obtain ⟨y, hy, e⟩ := right_of h.2.2 x hx _ h2
    exact h.1 y hy e
/-- What is found is what has one of the names. -/
theorem back_filter (r : List Kd) (h : RightR r) : ∀ ns, back r ns = r.filter fun k => hasN (cl r ns) k.nm := by
  induction r with
  | nil => intro ns; rfl
  | cons k r ih =>
    intro ns
    by_cases hn : hasN ns k.nm = true
    · have h1 : hasN (cl r (ns ++ k.of)) k.nm = true := by
        rw [hasN_iff] at hn ⊢
        exact cl_ge _ _ _ (by simp [hn])
      simp only [back, cl, hn, if_true, List.filter_cons]
      rw [if_pos h1, ih h.2.2]
    · have h1 : ¬ hasN (cl r ns) k.nm = true := by
        rw [hasN_iff] at hn ⊢
        exact cl_not h hn
      simp only [back, cl, hn, List.filter_cons]
      simp
      rw [if_neg h1, ih h.2.2]
/-- It is closed. -/
theorem cl_closed (r : List Kd) (h : RightR r) : ∀ ns, ∀ k ∈ r, k.nm ∈ cl r ns → ∀ n ∈ k.of, n ∈ cl r ns := by
  induction r with
  | nil => intro ns k hk; simp at hk
  | cons x r ih =>
    intro ns k hk hc n hn
    by_cases hx : hasN ns x.nm = true
    · have e : cl (x :: r) ns = cl r (ns ++ x.of) := by simp [cl, hx]
      rw [e] at hc ⊢
      rcases List.mem_cons.1 hk with rfl | hk
      · exact cl_ge _ _ _ (by simp [hn])
      · exact ih h.2.2 _ k hk hc n hn
    · have e : cl (x :: r) ns = cl r ns := by simp [cl, hx]
      rw [e] at hc ⊢
      rcases List.mem_cons.1 hk with rfl | hk
      · exact absurd hc (cl_not h (by rw [hasN_iff] at hx; exact hx))
      · exact ih h.2.2 _ k hk hc n hn
/-- It is the least one. -/
theorem cl_least (r : List Kd) (T : Nm → Prop) (hT : ∀ k ∈ r, T k.nm → ∀ n ∈ k.of, T n) : ∀ ns, (∀ n ∈ ns, T n) → ∀ n ∈ cl r ns, T n := by
  induction r with
  | nil => intro ns h n hn; exact h n hn
  | cons x r ih =>
    intro ns h n hn
    unfold cl at hn
    split at hn
    · rename_i hx
      refine ih (fun k hk => hT k (by simp [hk])) _ (fun m hm => ?_) n hn
      rcases List.mem_append.1 hm with h1 | h1
      · exact h m h1
      · exact hT x (by simp) (h _ ((hasN_iff _ _).1 hx)) m h1
    · exact ih (fun k hk => hT k (by simp [hk])) _ h n hn
/-- Names behind that are not asked are passed over. -/
theorem cl_skip (p r : List Kd) (ns : List Nm) (h : ∀ k ∈ p, ¬ k.nm ∈ ns) : cl (p ++ r) ns = cl r ns ∧ back (p ++ r) ns = back r ns := by
  induction p with
  | nil => exact ⟨rfl, rfl⟩
  | cons k p ih =>
    have h1 : ¬ hasN ns k.nm = true := by rw [hasN_iff]; exact h k (by simp)
    obtain ⟨e1, e2⟩ := ih (fun x hx => h x (by simp [hx]))
    exact ⟨by simp only [List.cons_append, cl, h1]; simp [e1], by simp only [List.cons_append, back, h1]; simp [e2]⟩

theorem snoc_ind {P : List Kd → Prop} (h0 : P []) (h1 : ∀ A k, P A → P (A ++ [k])) (L : List Kd) : P L := by
  have h : ∀ R : List Kd, P R.reverse := by
    intro R
    induction R with
    | nil => exact h0
    | cons k R ih => rw [List.reverse_cons]; exact h1 _ _ ih
  simpa using h L.reverse
/-- Each name once, what one comes of stands ahead. -/
def Right (L : List Kd) : Prop := RightR L.reverse
theorem right_snoc {A : List Kd} {k : Kd} : Right (A ++ [k]) ↔ (∀ x ∈ A, x.nm ≠ k.nm) ∧ (∀ n ∈ k.of, ∃ x ∈ A, x.nm = n) ∧ Right A := by
  unfold Right
  simp [RightR]
theorem right_take {L : List Kd} (h : Right L) (i : Nat) : Right (L.take i) := by
  have gen : ∀ (B A : List Kd), Right (A ++ B) → Right A := by
    intro B
    refine snoc_ind (P := fun B => ∀ A, Right (A ++ B) → Right A) ?_ ?_ B
    · intro A h; simpa using h
    · intro B k ih A h
      rw [← List.append_assoc] at h
      exact ih A (right_snoc.1 h).2.2
  exact gen (L.drop i) (L.take i) (by rw [List.take_append_drop]; exact h)
/-- The names of one's kin. -/
def names (L : List Kd) (a : Nm) : List Nm := cl L.reverse [a]
theorem right_names {L : List Kd} (h : Right L) : ∀ (i j : Nat) (x y : Kd), L[i]? = some x → L[j]? = some y → x.nm = y.nm → i = j := by
  revert h
  refine snoc_ind (P := fun L => Right L → ∀ (i j : Nat) (x y : Kd), L[i]? = some x → L[j]? = some y → x.nm = y.nm → i = j) ?_ ?_ L
  · intro _ i j x y hx; simp at hx
  · intro A k ih h
    obtain ⟨h1, h2, h3⟩ := right_snoc.1 h
    intro i j x y hx hy e
    rw [List.getElem?_append] at hx hy
    split at hx <;> split at hy
    · exact ih h3 i j x y hx hy e
    · rename_i hi hj
      have : y = k := by
        have := List.mem_of_getElem? hy
        simpa using this
      subst this
      exact absurd e (h1 x (List.mem_of_getElem? hx))
    · rename_i hi hj
      have : x = k := by
        have := List.mem_of_getElem? hx
        simpa using this
      subst this
      exact absurd e.symm (h1 y (List.mem_of_getElem? hy))
    · rename_i hi hj
      have e1 := (List.getElem?_eq_some_iff.1 hx).1
      have e2 := (List.getElem?_eq_some_iff.1 hy).1
      simp at e1 e2
      omega
theorem mem_unique {L : List Kd} (h : Right L) {x y : Kd} (hx : x ∈ L) (hy : y ∈ L) (e : x.nm = y.nm) : x = y := by
  obtain ⟨i, hi⟩ := List.mem_iff_getElem?.1 hx
  obtain ⟨j, hj⟩ := List.mem_iff_getElem?.1 hy
  obtain rfl := right_names h i j x y hi hj e
  rw [hi] at hj
  exact Option.some.inj hj
/-- kinOf ends at a place: the same as of the whole list. -/
theorem kinOf_at {L : List Kd} (h : Right L) {i : Nat} {k : Kd} (hk : L[i]? = some k) : kinOf (L.take (i + 1)) = L.filter fun x => hasN (names L k.nm) x.nm := by
  have e1 : L.take (i + 1) = L.take i ++ [k] := takeK hk
  have hl : (L.take (i + 1)).getLast? = some k := by rw [e1]; simp
  have e2 : L.reverse = (L.drop (i + 1)).reverse ++ (L.take (i + 1)).reverse := by
    rw [← List.reverse_append, List.take_append_drop]
  have hs := cl_skip (L.drop (i + 1)).reverse (L.take (i + 1)).reverse [k.nm] (fun x hx => by
    simp at hx
    intro e
    simp at e
    obtain ⟨j, hj⟩ := List.mem_iff_getElem?.1 hx
    rw [List.getElem?_drop] at hj
    have := right_names h _ _ x k hj hk e
    omega)
  unfold kinOf
  rw [hl]
  simp only
  rw [← hs.2, ← e2, back_filter _ h, ← List.filter_reverse, List.reverse_reverse]
  rfl
theorem names_self (L : List Kd) (a : Nm) : a ∈ names L a := cl_ge _ _ _ (by simp)
theorem names_closed {L : List Kd} (h : Right L) (a : Nm) {k : Kd} (hk : k ∈ L) (hn : k.nm ∈ names L a) : ∀ n ∈ k.of, n ∈ names L a :=
  cl_closed _ h _ k (by simpa using hk) hn
theorem names_least (L : List Kd) (a : Nm) (T : Nm → Prop) (hT : ∀ k ∈ L, T k.nm → ∀ n ∈ k.of, T n) (ha : T a) : ∀ n ∈ names L a, T n :=
  cl_least _ T (fun k hk => hT k (by simpa using hk)) _ (fun n hn => by simp at hn; subst hn; exact ha)
theorem names_trans {L : List Kd} (h : Right L) {a b c : Nm} (h1 : b ∈ names L a) (h2 : c ∈ names L b) : c ∈ names L a :=
  names_least L b (fun n => n ∈ names L a) (fun k hk hn => names_closed h a hk hn) h1 c h2

end Go.Proofs.YtffiddpnkiejkaaGreat
