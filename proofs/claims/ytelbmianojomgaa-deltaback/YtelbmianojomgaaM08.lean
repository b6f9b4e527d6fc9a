/-
  Ops as a parameter.
-/
import Derived.Test.YtelbmianojomgaaM05
import Derived.Test.YtelbmianojomgaaM07
import Derived.Test.YtelbmianojomgaaM01
import Derived.Lib.Hide
import Derived.Laws.StructEq
namespace Go.Proofs.Ytelbmianojomgaa
open Go.ChangeShapes Go.WideShapes Go.ChangeAt Go.RowKit Go.Joins Go.Deep
open Go.ChangeMaps (open_string shut_string)
set_option linter.unusedVariables false
set_option linter.unusedSimpArgs false

theorem cells65 : Try.prog.cellsOf 65 = 11 := by kernel_rfl
theorem cells61 : Try.prog.cellsOf 61 = 1 := by kernel_rfl
section
variable {H : Type} {enc : TypeId × Value → H}
set_option maxRecDepth 100000 in
/-- Eleven cells that read as an op. -/
theorem cells_op {W : World} {b : Nat} {sp : Nat → Bool} {hd : Bool} {n : Nat} {cs : List Value} {x : DataW H × List MemPlace} (hlen : cs.length = 11) (h : DataW.trod enc Try.prog W b sp hd n 65 cs = some x) :
    ∃ o : Opx, cs = o.cells ∧ IsR W o.nd.rv o.nd.rc ∧ OpSz o := by
  obtain ⟨y0, y1, y2, y3, k, hxy, _, u0, u1, u2, u3⟩ := trod_struct4 Try.underlying65 h
  match cs, hlen with
  | [v0, v1, v2, v3, v4, v5, v6, v7, v8, v9, v10], _ =>
    simp only [cells3, cells29, cells56, cells31, List.drop, List.take] at u0 u1 u2 u3
    obtain ⟨q0, e0, d0, _⟩ := DataW.trod_int Try.underlying3 u0
    obtain ⟨a0, a1, a2, k1, ha, _, t0, t1, t2⟩ := trod_struct3 Try.underlying29 u1
    simp only [cells9, cells3, cells27, List.drop, List.take] at t0 t1 t2
    obtain ⟨q1, e1, d1, _⟩ := DataW.trod_int Try.underlying3 t0
    obtain ⟨s1, f1, d2, z1⟩ := DataW.trod_string Try.underlying9 t1
    obtain ⟨l, hR, hZ, hl⟩ := open_props t2
    obtain ⟨pr, ep, zp1, zp2⟩ := cells_prop rfl u2
    obtain ⟨c0, c1, c2, k3, hc, _, r0, r1, r2⟩ := trod_struct3 Try.underlying31 u3
    simp only [cells9, cells3, List.drop, List.take] at r0 r1 r2
    obtain ⟨s3, g0, d3, z3⟩ := DataW.trod_string Try.underlying9 r0
    obtain ⟨q4, g1, d4, _⟩ := DataW.trod_int Try.underlying3 r1
    obtain ⟨q5, g2, d5, _⟩ := DataW.trod_int Try.underlying3 r2
    simp only [List.cons.injEq, and_true, Pr.cells] at e0 e1 f1 ep g0 g1 g2
    obtain ⟨p1, p2, p3, p4⟩ := ep
    subst e0 e1 f1 g0 g1 g2 p1 p2 p3 p4
    exact ⟨⟨q0, ⟨q1, s1, v3, l⟩, pr, ⟨s3, q4, q5⟩⟩, rfl, hR, ⟨z1, hZ, hl⟩, ⟨zp1, zp2⟩, z3⟩
set_option maxRecDepth 100000 in
/-- Ops that came in. -/
theorem open_ops {W : World} {r : Reach} {b0 b : Nat} {sp : Nat → Bool} {hd : Bool} {v : Value} {d : DataW H} {p : List MemPlace} (hv : Value.okWide Try.prog W r b0 61 v) (h0 : DataW.Trod enc Try.prog W b sp hd 61 v d p) :
    ∃ L, IsO W v L ∧ (∀ o ∈ L, OpSz o) ∧ L.length ≤ maxLen := by
  obtain ⟨a0, l0, c0, rfl⟩ := okWide_slice Try.underlying61 hv
  obtain ⟨fuel, hf⟩ := h0
  have h : DataW.trod enc Try.prog W b sp hd fuel 61 [.slice a0 l0 c0] = some (d, p) := by simpa [Value.cells] using hf
  rcases open_slice Try.underlying61 h with ⟨hc, _⟩ | ⟨a, len, cap, m, n, D, Pl, hc, hb, hl, hm, hmm, _, hall⟩
  · simp only [List.cons.injEq, and_true] at hc
    exact ⟨[], ⟨none, 0, hc, Nat.le_refl _, .inl rfl⟩, fun f hf => by simp at hf, by decide⟩
  · simp only [List.cons.injEq, and_true] at hc
    rw [hc]
    clear hc
    have hlm : len ≤ m := by rw [hmm]; split <;> omega
    by_cases h0 : len = 0
    · subst h0
      exact ⟨[], ⟨some a, cap, rfl, Nat.zero_le _, .inl rfl⟩, fun f hf => by simp at hf, by decide⟩
    · have each : ∀ i, i < len → ∃ f : Opx, (∀ j, j < 11 → W.cell? ((a.add (i * 11)).add j) = f.cells[j]?) ∧ IsR W f.nd.rv f.nd.rc ∧ OpSz f := by
        intro i hi
        obtain ⟨cs', h1, h2⟩ := hall i (by omega)
        rw [cells65] at h1
        obtain ⟨_, hlen, hcell⟩ := World.cells?_some h1
        obtain ⟨f, rfl, z⟩ := cells_op hlen h2
        exact ⟨f, hcell, z⟩
      haveI : Inhabited Opx := ⟨⟨0, ⟨0, ⟨#[]⟩, .nilIface, []⟩, ⟨⟨#[]⟩, 0, 0, ⟨#[]⟩⟩, ⟨⟨#[]⟩, 0, 0⟩⟩⟩
      obtain ⟨q, hq⟩ := choose_lt each
      have hsp : a.spot = none ∧ a.block < W.heap.size := by
        have c0 := (hq 0 (by omega)).1 0 (by decide)
        rw [addz, Nat.zero_mul, addz] at c0
        exact cell_plain (c0.trans rfl)
      obtain ⟨bk, off, spot⟩ := a
      obtain ⟨e1, e2⟩ := hsp
      simp only at e1 e2
      subst e1
      refine ⟨(List.range len).map q, ⟨_, cap, by simp, by simpa using hl, .inr ⟨bk, off, rfl, e2, fun k y hy => ?_⟩⟩, fun f hf => ?_, by simp; omega⟩
      · rw [List.getElem?_map] at hy
        obtain ⟨k', h1, h2⟩ := Option.map_eq_some_iff.1 hy
        obtain ⟨h3, h4⟩ := List.getElem?_eq_some_iff.1 h1
        simp at h3 h4
        subst h4; subst h2
        refine ⟨fun j u hu => ?_, (hq k h3).2.1⟩
        have hj : j < 11 := by have := (List.getElem?_eq_some_iff.1 hu).1; rwa [op_len] at this
        have hh := (hq k h3).1 j hj
        rw [Addr.add_lit, Addr.add_lit] at hh
        exact hh.trans hu
      · obtain ⟨i, hi, rfl⟩ := List.mem_map.1 hf
        exact (hq i (List.mem_range.1 hi)).2.2
end
end Go.Proofs.Ytelbmianojomgaa

/-
  The walks of record.find and record.Get.
-/
namespace Go.Proofs.Ytelbmianojomgaa
open Go.RowKit
set_option linter.unusedVariables false
set_option linter.unusedSimpArgs false

theorem rErr_len {L : List Pr} (h : rErr L = 0) : L.length ≤ 8 := by
  unfold rErr at h; split at h
  · exact absurd h (by decide)
  · omega
theorem on1R {W0 W W' : World} (hK : Below W0.heap.size W0 W) (hb : Below W.heap.size W W') : Below W0.heap.size W0 W' := hK.trans (hb.mono hK.size)
/-- The first of a name. -/
def idxP (nm : List UInt8) : List Pr → Nat → Int
  | [], _ => -1
  | p :: r, k => if (p.nm.toList == nm) = true then k else idxP nm r (k + 1)
set_option maxHeartbeats 1000000 in
theorem risName_any (p : Pr) (b : Nat) (s : ByteArray) (w : World) (hc : w.cell? ⟨b, 0, none⟩ = some (.string s)) (hb : b < w.heap.size) :
    Calls Try.prog 128 #[p.one, .pointer (some ⟨b, 0, none⟩)] w fun e w' => e = .returned (.bool (p.nm.toList == s.toList)) ∧ w' = w.alloc (.cells #[.string p.nm, .int .i64 p.t, .int .i64 p.n, .string p.s] 59) := by
  go_enter Try.func128, Try.ntmps128
  go_wp2
  go_ret
  exact ⟨rfl, rfl⟩
set_option maxHeartbeats 4000000 in
set_option maxRecDepth 100000 in
theorem rindex_some (b off cap : Nat) (L : List Pr) (bn : Nat) (s : ByteArray) (w : World) (hb : b < w.heap.size) (hL : Lies w b off L) (hn : L.length ≤ 8) (hbn : bn < w.heap.size) (hc : w.cell? ⟨bn, 0, none⟩ = some (.string s)) :
    Calls Try.prog 127 #[.slice (some ⟨b, off, none⟩) L.length cap, .func (.func 128) #[] #[.pointer (some ⟨bn, 0, none⟩)]] w fun e w' => e = .returned (.int .i64 (idxP s.toList L 0)) ∧ Below w.heap.size w w' := by
  go_enter Try.func127, Try.ntmps127
  go_wp2
  go_loopw [8] (fun i wr => ∃ k : Nat, k ≤ L.length ∧ i = .int .i64 k ∧ idxP s.toList L 0 = idxP s.toList (L.drop k) k ∧ Below w.heap.size w wr) (fun i _ => L.length - (intOf i).toNat)
  case atStart => exact ⟨0, Nat.zero_le _, rfl, rfl, Below.refl _ _⟩
  case round =>
    obtain ⟨k, hk, rfl, hi, hB⟩ := hrel
    have HI : Hid (idxP s.toList L 0 = idxP s.toList (L.drop k) k) := hi
    clear hi
    by_cases hlt : k < L.length
    · obtain ⟨p, hp⟩ : ∃ p, L[k]? = some p := ⟨L[k], by simp [hlt]⟩
      obtain ⟨c0, c1, c2, c3⟩ := hL k p hp
      have d0 := (hB.cell (p := ⟨b, off + k * 4, none⟩) hb).trans c0
      have d1 := (hB.cell (p := ⟨b, off + k * 4 + 1, none⟩) hb).trans c1
      have d2 := (hB.cell (p := ⟨b, off + k * 4 + 2, none⟩) hb).trans c2
      have d3 := (hB.cell (p := ⟨b, off + k * 4 + 3, none⟩) hb).trans c3
      have HD : Hid (L.drop k = p :: L.drop (k + 1)) := drop_at hp
      have cn := risName_any p bn s wr ((hB.cell (p := ⟨bn, 0, none⟩) hbn).trans hc) (Nat.lt_of_lt_of_le hbn hB.size)
      clear c0 c1 c2 c3 hp hL hc
      by_cases hq : (p.nm.toList == s.toList) = true
      · have H : Hid (idxP s.toList L 0 = k) := by
          show _ = _
          rw [HI.out, HD.out]; unfold idxP; rw [if_pos hq]
        rw [hq] at cn
        clear HI HD hq
        go_wp2_with (go_at_call 128; refine cn.mono ?_; rintro e w' ⟨rfl, rfl⟩)
        go_ret
        exact ⟨ret_v (by rw [H.out]; rfl), b_alloc hB _⟩
      · have H : Hid (idxP s.toList L 0 = idxP s.toList (L.drop (k + 1)) (k + 1)) := by
          show _ = _
          rw [HI.out, HD.out]; conv => lhs; unfold idxP
          rw [if_neg hq]
        have hq' : (p.nm.toList == s.toList) = false := by simpa using hq
        rw [hq'] at cn
        clear HI HD hq hq'
        go_wp2_with (go_at_call 128; refine cn.mono ?_; rintro e w' ⟨rfl, rfl⟩)
        go_roundw
        case rel => exact ⟨k + 1, by omega, by go_num, H.out, b_alloc hB _⟩
        case measure => simp [intOf]; omega
    · have hd : L.drop k = [] := List.drop_eq_nil_of_le (by omega)
      have H : Hid (idxP s.toList L 0 = -1) := by
        show _ = _
        rw [HI.out, hd]; rfl
      clear HI hd hL hc
      go_wp2
      go_ret
      exact ⟨ret_v (by rw [H.out]; rfl), hB⟩
set_option maxHeartbeats 1000000 in
theorem rindex_nil (ao : Option Addr) (c : Nat) (f : Value) (w : World) :
    Calls Try.prog 127 #[.slice ao 0 c, f] w fun e w' => e = .returned (.int .i64 (-1)) ∧ Below w.heap.size w w' := by
  go_enter Try.func127, Try.ntmps127
  go_wp2
  go_loopw [8] (fun i wr => i = .int .i64 0 ∧ wr = w) (fun i _ => 0)
  case atStart => exact ⟨rfl, rfl⟩
  case round =>
    obtain ⟨rfl, rfl⟩ := hrel
    go_wp2
    go_ret
    exact ⟨rfl, Below.refl _ _⟩
theorem rindex_any {v : Value} {L : List Pr} {w : World} (h : IsR w v L) (hn : L.length ≤ 8) (bn : Nat) (s : ByteArray) (hbn : bn < w.heap.size) (hc : w.cell? ⟨bn, 0, none⟩ = some (.string s)) :
    Calls Try.prog 127 #[v, .func (.func 128) #[] #[.pointer (some ⟨bn, 0, none⟩)]] w fun e w' => e = .returned (.int .i64 (idxP s.toList L 0)) ∧ Below w.heap.size w w' := by
  obtain ⟨ao, cap, rfl, rfl | ⟨b, off, rfl, hb, hl⟩⟩ := h
  · exact rindex_nil _ _ _ w
  · exact rindex_some b off cap L bn s w hb hl hn hbn hc

theorem idxP_spec (nm : List UInt8) (L : List Pr) : ∀ k, idxP nm L k = -1 ∨ ∃ j q, idxP nm L k = ((k + j : Nat) : Int) ∧ L[j]? = some q ∧ (q.nm.toList == nm) = true := by
  induction L with
  | nil => intro k; left; rfl
  | cons p r ih =>
    intro k
    by_cases h : (p.nm.toList == nm) = true
    · right; exact ⟨0, p, by unfold idxP; rw [if_pos h]; simp, rfl, h⟩
    · have e : idxP nm (p :: r) k = idxP nm r (k + 1) := by
        conv => lhs; unfold idxP
        rw [if_neg h]
      rw [e]
      rcases ih (k + 1) with h1 | ⟨j, q, h1, h2, h3⟩
      · exact .inl h1
      · exact .inr ⟨j + 1, q, by rw [h1]; congr 1; omega, by simpa using h2, h3⟩

/-- The fault of a name that is looked up. -/
def rfErr (nm : List UInt8) (L : List Pr) : Int := if rErr L = 0 then (if idxP nm L 0 = -1 then 5 else 0) else rErr L
/-- Where it is. -/
def rfAt (nm : List UInt8) (L : List Pr) : Int := if rfErr nm L = 0 then idxP nm L 0 else 0

theorem errV_5R : errV 5 = .iface 78 (.int .i64 5) := rfl

set_option maxHeartbeats 4000000 in
set_option maxRecDepth 100000 in
theorem rfind_any {v : Value} {L : List Pr} {w : World} (h : IsR w v L) (hs : Sz L) (hm : L.length ≤ maxLen) (s : ByteArray) :
    Calls Try.prog 95 #[v, .string s] w fun e w' => e = .returned (.tuple #[.int .i64 (rfAt s.toList L), errV (rfErr s.toList L)]) ∧ Below w.heap.size w w' := by
  have hB0 : Below w.heap.size w (w.alloc (.cells #[.string s] 9)) := b_alloc (Below.refl _ _) _
  have c1 := rcheck_r (h.on hB0) hs hm
  by_cases e1 : rErr L = 0
  · have hn := rErr_len e1
    rw [e1, errV_0] at c1
    have H2 : Hid (IsR w v L ∧ L.length ≤ 8 ∧ rErr L = 0) := ⟨h, hn, e1⟩
    rcases idxP_spec s.toList L 0 with hx | ⟨j, q, hx, hq, _⟩
    · have HE : Hid (rfErr s.toList L = 5 ∧ rfAt s.toList L = 0 ∧ idxP s.toList L 0 = -1) := by
        have e5 : rfErr s.toList L = 5 := by unfold rfErr; rw [if_pos e1, if_pos hx]
        exact ⟨e5, by unfold rfAt; rw [if_neg (by rw [e5]; decide)], hx⟩
      clear h hs hm e1 hn hx
      go_enter Try.func95, Try.ntmps95
      go_wp2_with (go_at_call 41; refine c1.mono ?_; rintro e W1 ⟨rfl, hB1⟩; refine Hid.out ?_)
      refine Lib.hid ?_
      have hB := on1R hB0 hB1
      have c2 := rindex_any (H2.out.1.on hB) H2.out.2.1 w.heap.size s (Nat.lt_of_lt_of_le (by simp) hB1.size) ((hB1.cell (p := ⟨w.heap.size, 0, none⟩) (by simp)).trans (by simp))
      rw [HE.out.2.2] at c2
      clear c1
      go_wp2_with (go_at_call 127; refine c2.mono ?_; rintro e W2 ⟨rfl, hB2⟩)
      go_ret2
      exact ⟨ret_v (by rw [HE.out.1, HE.out.2.1]; rfl), on1R hB hB2⟩
    · have hj : j < L.length := (List.getElem?_eq_some_iff.1 hq).1
      have HE : Hid (rfErr s.toList L = 0 ∧ rfAt s.toList L = j ∧ idxP s.toList L 0 = j) := by
        have hx' : idxP s.toList L 0 = (j : Int) := by simpa using hx
        have e5 : rfErr s.toList L = 0 := by unfold rfErr; rw [if_pos e1, if_neg (by rw [hx']; omega)]
        exact ⟨e5, by unfold rfAt; rw [if_pos e5, hx'], hx'⟩
      have hj8 : j < 8 := by omega
      clear h hs hm e1 hx hq hn hj
      go_enter Try.func95, Try.ntmps95
      go_wp2_with (go_at_call 41; refine c1.mono ?_; rintro e W1 ⟨rfl, hB1⟩; refine Hid.out ?_)
      refine Lib.hid ?_
      have hB := on1R hB0 hB1
      have c2 := rindex_any (H2.out.1.on hB) H2.out.2.1 w.heap.size s (Nat.lt_of_lt_of_le (by simp) hB1.size) ((hB1.cell (p := ⟨w.heap.size, 0, none⟩) (by simp)).trans (by simp))
      rw [HE.out.2.2] at c2
      clear c1
      go_wp2_with (go_at_call 127; refine c2.mono ?_; rintro e W2 ⟨rfl, hB2⟩)
      go_ret2
      exact ⟨ret_v (by rw [HE.out.1, HE.out.2.1]; rfl), on1R hB hB2⟩
  · have HE : Hid (rfErr s.toList L = rErr L ∧ ¬ rErr L = 0 ∧ rfAt s.toList L = 0) := by
      have e5 : rfErr s.toList L = rErr L := by unfold rfErr; rw [if_neg e1]
      exact ⟨e5, e1, by unfold rfAt; rw [if_neg (by rw [e5]; exact e1)]⟩
    rw [errV_ne e1] at c1
    clear h hs hm e1
    go_enter Try.func95, Try.ntmps95
    go_wp2_with (go_at_call 41; refine c1.mono ?_; rintro e W1 ⟨rfl, hB1⟩)
    go_ret2
    exact ⟨ret_v (by rw [HE.out.1, errV_ne HE.out.2.1, HE.out.2.2]; rfl), on1R hB0 hB1⟩

/-- What Get gives. -/
def getV (nm : List UInt8) (L : List Pr) : Value :=
  if rfErr nm L = 0 then (match L[(idxP nm L 0).toNat]? with | some q => .agg #[.int .i64 q.t, .int .i64 q.n, .string q.s] | none => .agg #[.int .i64 0, .int .i64 0, .string ⟨#[]⟩]) else .agg #[.int .i64 0, .int .i64 0, .string ⟨#[]⟩]

set_option maxHeartbeats 4000000 in
set_option maxRecDepth 100000 in
theorem get_any {v : Value} {L : List Pr} {w : World} (h : IsR w v L) (hs : Sz L) (hm : L.length ≤ maxLen) (s : ByteArray) :
    Calls Try.prog 86 #[v, .string s] w fun e w' => e = .returned (.tuple #[getV s.toList L, errV (rfErr s.toList L)]) ∧ Below w.heap.size w w' := by
  have hB0 : Below w.heap.size w (w.alloc (.cells #[.int .i64 0, .int .i64 0, .string ⟨#[]⟩] 56)) := b_alloc (Below.refl _ _) _
  have c1 := rfind_any (h.on hB0) hs hm s
  by_cases e1 : rfErr s.toList L = 0
  · have e2 : rErr L = 0 := by
      unfold rfErr at e1; split at e1
      · assumption
      · exact absurd e1 (by assumption)
    have hx : ¬ idxP s.toList L 0 = -1 := by
      intro e; unfold rfErr at e1; rw [if_pos e2, if_pos e] at e1; exact absurd e1 (by decide)
    obtain ⟨j, q, hj, hq, _⟩ := (idxP_spec s.toList L 0).resolve_left hx
    have hj' : idxP s.toList L 0 = (j : Int) := by simpa using hj
    have HG : Hid (getV s.toList L = .agg #[.int .i64 q.t, .int .i64 q.n, .string q.s] ∧ rfErr s.toList L = 0) := by
      refine ⟨?_, e1⟩
      unfold getV; rw [if_pos e1, hj']; simp [hq]
    have hA : rfAt s.toList L = (j : Int) := by unfold rfAt; rw [if_pos e1, hj']
    rw [e1, errV_0, hA] at c1
    obtain ⟨ao, cap, rfl, rfl | ⟨b, off, rfl, hb, hl⟩⟩ := h
    · simp at hq
    · obtain ⟨c0, d1, d2, d3⟩ := hl j q hq
      have hjl : j < L.length := (List.getElem?_eq_some_iff.1 hq).1
      have hn := rErr_len e2
      have hbn : ¬ b = w.heap.size := by omega
      clear hs hm e1 e2 hx hj hj' hq hA hl c0
      go_enter Try.func86, Try.ntmps86
      go_wp2_with (go_at_call 95; refine c1.mono ?_; rintro e W1 ⟨rfl, hB1⟩; refine Hid.out ?_)
      refine Lib.hid ?_
      have hB := on1R hB0 hB1
      have f1 := (hB.cell (p := ⟨b, off + j * 4 + 1, none⟩) hb).trans d1
      have f2 := (hB.cell (p := ⟨b, off + j * 4 + 2, none⟩) hb).trans d2
      have f3 := (hB.cell (p := ⟨b, off + j * 4 + 3, none⟩) hb).trans d3
      have hzs : w.heap.size < W1.heap.size := Nat.lt_of_lt_of_le (by simp) hB1.size
      have g0 := hB1.cell (p := ⟨w.heap.size, 0, none⟩) (by simp)
      have g1 := hB1.cell (p := ⟨w.heap.size, 1, none⟩) (by simp)
      have g2 := hB1.cell (p := ⟨w.heap.size, 2, none⟩) (by simp)
      have k0 := hB1.frozen (p := ⟨w.heap.size, 0, none⟩) (by simp)
      have k1 := hB1.frozen (p := ⟨w.heap.size, 1, none⟩) (by simp)
      have k2 := hB1.frozen (p := ⟨w.heap.size, 2, none⟩) (by simp)
      simp at g0 g1 g2 k0 k1 k2
      clear c1 d1 d2 d3
      go_wp2
      exact bodyPost_ret (v := .tuple #[.agg #[.int .i64 q.t, .int .i64 q.n, .string q.s], .nilIface]) (by simp [results, Try.results86, go_sem, g0, g1, g2, hzs]) rfl
        ⟨ret_v (by rw [HG.out.1, HG.out.2]; rfl), ((hB.setCell (by simp) _).setCell (by simp) _).setCell (by simp) _⟩
  · have hA : rfAt s.toList L = 0 := by unfold rfAt; rw [if_neg e1]
    have HG : Hid (getV s.toList L = .agg #[.int .i64 0, .int .i64 0, .string ⟨#[]⟩] ∧ ¬ rfErr s.toList L = 0) := by
      refine ⟨?_, e1⟩
      unfold getV; rw [if_neg e1]
    rw [errV_ne e1, hA] at c1
    generalize rfErr s.toList L = ee at c1 HG ⊢
    clear h hs hm e1 hA
    go_enter Try.func86, Try.ntmps86
    go_wp2_with (go_at_call 95; refine c1.mono ?_; rintro e W1 ⟨rfl, hB1⟩; refine Hid.out ?_)
    refine Lib.hid ?_
    have hB := on1R hB0 hB1
    have hzs : w.heap.size < W1.heap.size := Nat.lt_of_lt_of_le (by simp) hB1.size
    have g0 := hB1.cell (p := ⟨w.heap.size, 0, none⟩) (by simp)
    have g1 := hB1.cell (p := ⟨w.heap.size, 1, none⟩) (by simp)
    have g2 := hB1.cell (p := ⟨w.heap.size, 2, none⟩) (by simp)
    have k0 := hB1.frozen (p := ⟨w.heap.size, 0, none⟩) (by simp)
    have k1 := hB1.frozen (p := ⟨w.heap.size, 1, none⟩) (by simp)
    have k2 := hB1.frozen (p := ⟨w.heap.size, 2, none⟩) (by simp)
    simp at g0 g1 g2 k0 k1 k2
    clear c1
    go_wp2
    exact bodyPost_ret (v := .tuple #[.agg #[.int .i64 0, .int .i64 0, .string ⟨#[]⟩], .iface 78 (.int .i64 ee)]) (by simp [results, Try.results86, go_sem, g0, g1, g2, hzs]) rfl
      ⟨ret_v (by rw [HG.out.1, errV_ne HG.out.2]), ((hB.setCell (by simp) _).setCell (by simp) _).setCell (by simp) _⟩
end Go.Proofs.Ytelbmianojomgaa

/-
  The walks of graph.Same of two graphs that are the same, and of what it calls.
-/
namespace Go.Proofs.Ytelbmianojomgaa
open Go.RowKit
set_option linter.unusedVariables false
set_option linter.unusedSimpArgs false

theorem str31 : Try.prog.underlying 31 = some (.struct (Try.prog.fieldsOf 31)) := by kernel_rfl
theorem str59 : Try.prog.underlying 59 = some (.struct (Try.prog.fieldsOf 59)) := by kernel_rfl
theorem str56 : Try.prog.underlying 56 = some (.struct (Try.prog.fieldsOf 56)) := by kernel_rfl
theorem hp31 : Try.prog.stoodInHeld 31 = false := by kernel_rfl
theorem hp59 : Try.prog.stoodInHeld 59 = false := by kernel_rfl
theorem hp56 : Try.prog.stoodInHeld 56 = false := by kernel_rfl
theorem eg31 : Try.prog.eqGuardType Try.prog.depth 31 = false := by kernel_rfl
theorem eg59 : Try.prog.eqGuardType Try.prog.depth 59 = false := by kernel_rfl
theorem neqT_same (t : Te) (w : World) : (binOp .neq 31 t.one t.one).run Try.prog w = .ok (.bool false) w := by
  have u3 := Try.underlying3
  have a3 := Try.isAgg3
  have z3 := Try.sizeOf3
  have u9 := Try.underlying9
  have a9 := Try.isAgg9
  have z9 := Try.sizeOf9
  rw [run_neq_struct, show (10000 : Nat) = 9999 + 1 from rfl, run_equalIn_agg w 9999 31 _ _ str31 hp31]
  simp only [Program.fieldsOf, Try.underlying31]
  go_simp
theorem eqV_any (t n t' n' : Int) (s s' : ByteArray) (d : Nat) (w : World) : (Op.equalIn (d + 1 + 1) 56 (.agg #[.int .i64 t, .int .i64 n, .string s]) (.agg #[.int .i64 t', .int .i64 n', .string s'])).run Try.prog w = .ok ((t == t') && (n == n') && (s.toList == s'.toList)) w := by
  have u3 := Try.underlying3
  have a3 := Try.isAgg3
  have z3 := Try.sizeOf3
  have u9 := Try.underlying9
  have a9 := Try.isAgg9
  have z9 := Try.sizeOf9
  rw [run_equalIn_agg w (d + 1) 56 _ _ str56 hp56]
  simp only [Program.fieldsOf, Try.underlying56]
  go_simp
  by_cases h1 : t = t' <;> by_cases h2 : n = n' <;> by_cases h3 : s.toList = s'.toList <;> simp [h1, h2, h3]
/-- Are two properties the same? -/
def Pr.eq (p q : Pr) : Bool := (p.nm.toList == q.nm.toList) && ((p.t == q.t) && (p.n == q.n) && (p.s.toList == q.s.toList))
theorem eqP_any (p q : Pr) (w : World) : (Op.equalIn 10000 59 p.one q.one).run Try.prog w = .ok (p.eq q) w := by
  have u9 := Try.underlying9
  have a9 := Try.isAgg9
  have z9 := Try.sizeOf9
  have a56 := Try.isAgg56
  have z56 := Try.sizeOf56
  have hV : ∀ w, (Op.equalIn 9999 56 (.agg #[.int .i64 p.t, .int .i64 p.n, .string p.s]) (.agg #[.int .i64 q.t, .int .i64 q.n, .string q.s])).run Try.prog w = .ok ((p.t == q.t) && (p.n == q.n) && (p.s.toList == q.s.toList)) w := fun w => eqV_any p.t p.n q.t q.n p.s q.s 9997 w
  rw [show (10000 : Nat) = 9999 + 1 from rfl, run_equalIn_agg w 9999 59 _ _ str59 hp59]
  unfold Pr.eq
  generalize ((p.t == q.t) && (p.n == q.n) && (p.s.toList == q.s.toList)) = b at *
  simp only [Program.fieldsOf, Try.underlying59]
  go_simp
  by_cases h1 : p.nm.toList = q.nm.toList <;> cases b <;> simp [h1]
theorem pr_eq_self (p : Pr) : p.eq p = true := by simp [Pr.eq]
theorem neqP_any (p q : Pr) (w : World) : (binOp .neq 59 p.one q.one).run Try.prog w = .ok (.bool (!p.eq q)) w := by
  rw [run_neq_struct, eqP_any]; rfl
theorem eqlP_any (p q : Pr) (w : World) : (binOp .eql 59 p.one q.one).run Try.prog w = .ok (.bool (p.eq q)) w := by
  rw [run_eql_struct, eqP_any]; rfl
theorem egP (op : BinOp) (x y : Operand) (p q : Pr) (w : World) : (eqGuard op 59 x y p.one q.one).run Try.prog w = .ok () w := run_eqGuard_agg w op 59 x y _ _ eg59
theorem egT (op : BinOp) (x y : Operand) (p q : Te) (w : World) : (eqGuard op 31 x y p.one q.one).run Try.prog w = .ok () w := run_eqGuard_agg w op 31 x y _ _ eg31

set_option maxHeartbeats 1000000 in
set_option maxRecDepth 100000 in
theorem equalR_same {va vb : Value} {L : List Pr} {w : World} (ha : IsR w va L) (hb : IsR w vb L) (hl : L.length ≤ 1000) :
    Calls Try.prog 63 #[va, vb] w fun e w' => e = .returned (.bool true) ∧ Below w.heap.size w w' := by
  obtain ⟨ao, ca, rfl, h1⟩ := ha
  obtain ⟨bo, cb, rfl, h2⟩ := hb
  go_enter Try.func63, Try.ntmps63
  go_wp2
  go_loopw [13] (fun i wr => ∃ k q : Nat, k ≤ L.length ∧ i = .int .i64 k ∧ wr = w.drewN q) (fun i _ => L.length - (intOf i).toNat)
  case atStart => exact ⟨0, 0, Nat.zero_le _, rfl, rfl⟩
  case round =>
    obtain ⟨k, q, hk, rfl, rfl⟩ := hrel
    by_cases hlt : k < L.length
    · obtain ⟨x, hx⟩ : ∃ x, L[k]? = some x := ⟨L[k], by simp [hlt]⟩
      rcases h1 with rfl | ⟨b1, o1, rfl, hb1, l1⟩
      · exact absurd hlt (by simp)
      rcases h2 with rfl | ⟨b2, o2, rfl, hb2, l2⟩
      · exact absurd hlt (by simp)
      obtain ⟨c0, c1, c2, c3⟩ := l1 k x hx
      obtain ⟨d0, d1, d2, d3⟩ := l2 k x hx
      have hne := neqP_any x x
      rw [pr_eq_self] at hne
      have hgd := fun op a b => egP op a b x x
      obtain ⟨nm, t, n, s⟩ := x
      simp only at c0 c1 c2 c3 d0 d1 d2 d3 hne hgd
      clear l1 l2 hx
      generalize hW : w.drewN q = W at *
      have e0 : W.cell? ⟨b1, o1 + k * 4, none⟩ = some (.string nm) := by rw [← hW]; exact c0
      have e1 : W.cell? ⟨b1, o1 + k * 4 + 1, none⟩ = some (.int .i64 t) := by rw [← hW]; exact c1
      have e2 : W.cell? ⟨b1, o1 + k * 4 + 2, none⟩ = some (.int .i64 n) := by rw [← hW]; exact c2
      have e3 : W.cell? ⟨b1, o1 + k * 4 + 3, none⟩ = some (.string s) := by rw [← hW]; exact c3
      have f0 : W.cell? ⟨b2, o2 + k * 4, none⟩ = some (.string nm) := by rw [← hW]; exact d0
      have f1 : W.cell? ⟨b2, o2 + k * 4 + 1, none⟩ = some (.int .i64 t) := by rw [← hW]; exact d1
      have f2 : W.cell? ⟨b2, o2 + k * 4 + 2, none⟩ = some (.int .i64 n) := by rw [← hW]; exact d2
      have f3 : W.cell? ⟨b2, o2 + k * 4 + 3, none⟩ = some (.string s) := by rw [← hW]; exact d3
      clear c0 c1 c2 c3 d0 d1 d2 d3
      go_wp2_with fail
      go_quiet (fail)
      go_wp2
      refine ⟨⟨k + 1, q + nq, hlt, ?_, by rw [← hW, World.drewN_drewN]⟩, ?_⟩
      · go_num
      · simp [intOf]
        omega
    · go_wp2
      go_ret
      exact ⟨rfl, b_drewK (Below.refl _ _) _⟩

set_option maxHeartbeats 1000000 in
set_option maxRecDepth 100000 in
theorem equalT_same {va vb : Value} {L : List Te} {w : World} (ha : IsT w va L) (hb : IsT w vb L) (hl : L.length ≤ 1000) :
    Calls Try.prog 34 #[va, vb] w fun e w' => e = .returned (.bool true) ∧ Below w.heap.size w w' := by
  obtain ⟨ao, ca, rfl, _, h1⟩ := ha
  obtain ⟨bo, cb, rfl, _, h2⟩ := hb
  go_enter Try.func34, Try.ntmps34
  go_wp2
  go_loopw [13] (fun i wr => ∃ k q : Nat, k ≤ L.length ∧ i = .int .i64 k ∧ wr = w.drewN q) (fun i _ => L.length - (intOf i).toNat)
  case atStart => exact ⟨0, 0, Nat.zero_le _, rfl, rfl⟩
  case round =>
    obtain ⟨k, q, hk, rfl, rfl⟩ := hrel
    by_cases hlt : k < L.length
    · obtain ⟨x, hx⟩ : ∃ x, L[k]? = some x := ⟨L[k], by simp [hlt]⟩
      rcases h1 with rfl | ⟨b1, o1, rfl, hb1, l1⟩
      · exact absurd hlt (by simp)
      rcases h2 with rfl | ⟨b2, o2, rfl, hb2, l2⟩
      · exact absurd hlt (by simp)
      obtain ⟨c0, c1, c2⟩ := l1 k x hx
      obtain ⟨d0, d1, d2⟩ := l2 k x hx
      have hne := neqT_same x
      have hgd := fun op a b => egT op a b x x
      obtain ⟨nm, t, n⟩ := x
      simp only at c0 c1 c2 d0 d1 d2 hne hgd
      clear l1 l2 hx
      generalize hW : w.drewN q = W at *
      have e0 : W.cell? ⟨b1, o1 + k * 3, none⟩ = some (.string nm) := by rw [← hW]; exact c0
      have e1 : W.cell? ⟨b1, o1 + k * 3 + 1, none⟩ = some (.int .i64 t) := by rw [← hW]; exact c1
      have e2 : W.cell? ⟨b1, o1 + k * 3 + 2, none⟩ = some (.int .i64 n) := by rw [← hW]; exact c2
      have f0 : W.cell? ⟨b2, o2 + k * 3, none⟩ = some (.string nm) := by rw [← hW]; exact d0
      have f1 : W.cell? ⟨b2, o2 + k * 3 + 1, none⟩ = some (.int .i64 t) := by rw [← hW]; exact d1
      have f2 : W.cell? ⟨b2, o2 + k * 3 + 2, none⟩ = some (.int .i64 n) := by rw [← hW]; exact d2
      clear c0 c1 c2 d0 d1 d2
      go_wp2_with fail
      go_quiet (fail)
      go_wp2
      refine ⟨⟨k + 1, q + nq, hlt, ?_, by rw [← hW, World.drewN_drewN]⟩, ?_⟩
      · go_num
      · simp [intOf]
        omega
    · go_wp2
      go_ret
      exact ⟨rfl, b_drewK (Below.refl _ _) _⟩

set_option maxHeartbeats 1000000 in
theorem sameNode_eq {n m : Nd} {w : World} (hi : n.id = m.id) (hk : n.kd = m.kd) (hr : n.rc = m.rc) (h1 : IsR w n.rv n.rc) (h2 : IsR w m.rv m.rc) (hl : n.rc.length ≤ 1000) :
    Calls Try.prog 33 #[n.one, m.one] w fun e w' => e = .returned (.bool true) ∧ Below w.heap.size w w' := by
  obtain ⟨i, k, v, r⟩ := n
  obtain ⟨i', k', v', r'⟩ := m
  simp only at hi hk hr h1 h2 hl
  subst hi hk hr
  obtain ⟨W0, hW0⟩ : ∃ W0, W0 = (w.alloc (.cells #[.int .i64 i, .string k, v] 29)).alloc (.cells #[.int .i64 i, .string k, v'] 29) := ⟨_, rfl⟩
  have hB0 : Below w.heap.size w W0 := by rw [hW0]; exact b_alloc (b_alloc (Below.refl _ _) _) _
  have n0 : W0.heap[w.heap.size]? = some (.cells #[.int .i64 i, .string k, v] 29 (0, 0)) := by rw [hW0]; exact (heap_alloc_old _ _ (by simp)).trans (heap_alloc_new w _)
  have n1 : W0.heap[w.heap.size + 1]? = some (.cells #[.int .i64 i, .string k, v'] 29 (0, 0)) := by
    have := heap_alloc_new (w.alloc (.cells #[.int .i64 i, .string k, v] 29)) (.cells #[.int .i64 i, .string k, v'] 29)
    rw [World.size_alloc] at this; rw [hW0]; exact this
  have c := equalR_same (h1.on hB0) (h2.on hB0) hl
  obtain ⟨a1, l1, c1, rfl⟩ := h1.sl
  obtain ⟨a2, l2, c2, rfl⟩ := h2.sl
  have x0 : W0.cell? ⟨w.heap.size, 0, none⟩ = some (.int .i64 i) := cell_at n0 rfl
  have x1 : W0.cell? ⟨w.heap.size, 1, none⟩ = some (.string k) := cell_at n0 rfl
  have x2 : W0.cell? ⟨w.heap.size, 2, none⟩ = some (.slice a1 l1 c1) := cell_at n0 rfl
  have y0 : W0.cell? ⟨w.heap.size + 1, 0, none⟩ = some (.int .i64 i) := cell_at n1 rfl
  have y1 : W0.cell? ⟨w.heap.size + 1, 1, none⟩ = some (.string k) := cell_at n1 rfl
  have y2 : W0.cell? ⟨w.heap.size + 1, 2, none⟩ = some (.slice a2 l2 c2) := cell_at n1 rfl
  have HB := Lib.hid hB0
  clear n0 n1 hB0 h1 h2
  go_enter Try.func33, Try.ntmps33
  go_upto_region 1 with fail
  rw [← hW0]
  clear hW0
  go_wp2_with (first | (go_at_call 63; refine c.mono ?_; rintro e W1 ⟨rfl, hB1⟩))
  go_ret
  exact ⟨rfl, on1K HB.out hB1 (Nat.le_refl _)⟩

theorem cN_at {N M : List Nd} (h : cN N = cN M) {k : Nat} {n m : Nd} (hn : N[k]? = some n) (hm : M[k]? = some m) : n.id = m.id ∧ n.kd = m.kd ∧ n.rc = m.rc := by
  have h1 : (cN N)[k]? = some n.c := by unfold cN; rw [List.getElem?_map, hn]; rfl
  have h2 : (cN M)[k]? = some m.c := by unfold cN; rw [List.getElem?_map, hm]; rfl
  rw [h, h2] at h1
  injection h1 with h1
  obtain ⟨i, k, v, r⟩ := n
  obtain ⟨i', k', v', r'⟩ := m
  simp [Nd.c] at h1
  exact ⟨h1.1.symm, h1.2.1.symm, h1.2.2.symm⟩
set_option maxHeartbeats 2000000 in
set_option maxRecDepth 100000 in
theorem equalN_same {va vb : Value} {N M : List Nd} {w : World} (ha : IsN w va N) (hb : IsN w vb M) (he : cN N = cN M) (hl : N.length ≤ 1000) (h8 : ∀ n ∈ N, n.rc.length ≤ 1000) :
    Calls Try.prog 32 #[va, vb, .func (.func 33) #[] #[]] w fun e w' => e = .returned (.bool true) ∧ Below w.heap.size w w' := by
  have hlen : M.length = N.length := by have := congrArg List.length he; unfold cN at this; simpa using this.symm
  obtain ⟨ao, ca, rfl, _, h1⟩ := ha
  obtain ⟨bo, cb, rfl, _, h2⟩ := hb
  have HE := Lib.hid he
  rw [hlen]
  clear he
  go_enter Try.func32, Try.ntmps32
  go_wp2
  go_loopw [17] (fun i wr => ∃ k : Nat, k ≤ N.length ∧ i = .int .i64 k ∧ Below w.heap.size w wr) (fun i _ => N.length - (intOf i).toNat)
  case atStart => exact ⟨0, Nat.zero_le _, rfl, Below.refl _ _⟩
  case round =>
    obtain ⟨k, hk, rfl, hB⟩ := hrel
    have HB := Lib.hid hB
    by_cases hlt : k < N.length
    · obtain ⟨x, hx⟩ : ∃ x, N[k]? = some x := ⟨N[k], by simp [hlt]⟩
      obtain ⟨y, hy⟩ : ∃ y, M[k]? = some y := ⟨M[k]'(by omega), by simp [hlt, hlen]⟩
      rcases h1 with rfl | ⟨b1, o1, rfl, hb1, l1⟩
      · exact absurd hlt (by simp)
      rcases h2 with rfl | ⟨b2, o2, rfl, hb2, l2⟩
      · simp at hy
      obtain ⟨c0, c1, c2, c3⟩ := l1 k x hx
      obtain ⟨d0, d1, d2, d3⟩ := l2 k y hy
      obtain ⟨q1, q2, q3⟩ := cN_at HE.out hx hy
      have hx8 := h8 x (List.mem_of_getElem? hx)
      have e0 := (hB.cell (p := ⟨b1, o1 + k * 3, none⟩) hb1).trans c0
      have e1 := (hB.cell (p := ⟨b1, o1 + k * 3 + 1, none⟩) hb1).trans c1
      have e2 := (hB.cell (p := ⟨b1, o1 + k * 3 + 2, none⟩) hb1).trans c2
      have f0 := (hB.cell (p := ⟨b2, o2 + k * 3, none⟩) hb2).trans d0
      have f1 := (hB.cell (p := ⟨b2, o2 + k * 3 + 1, none⟩) hb2).trans d1
      have f2 := (hB.cell (p := ⟨b2, o2 + k * 3 + 2, none⟩) hb2).trans d2
      have hbr : b2 < wr.heap.size := Nat.lt_of_lt_of_le hb2 hB.size
      have w0 := cell_old f0
      have w1 := cell_old f1
      have w2 := cell_old f2
      have hX : Below wr.heap.size wr ((wr.alloc (.cells #[.int .i64 x.id, .string x.kd, x.rv] 29)).alloc (.cells #[.int .i64 y.id, .string y.kd, y.rv] 29)) := b_alloc (b_alloc (Below.refl _ _) _) _
      have n0 : ((wr.alloc (.cells #[.int .i64 x.id, .string x.kd, x.rv] 29)).alloc (.cells #[.int .i64 y.id, .string y.kd, y.rv] 29)).heap[wr.heap.size]? = some (.cells #[.int .i64 x.id, .string x.kd, x.rv] 29 (0, 0)) := (heap_alloc_old _ _ (by simp)).trans (heap_alloc_new wr _)
      have n1 : ((wr.alloc (.cells #[.int .i64 x.id, .string x.kd, x.rv] 29)).alloc (.cells #[.int .i64 y.id, .string y.kd, y.rv] 29)).heap[wr.heap.size + 1]? = some (.cells #[.int .i64 y.id, .string y.kd, y.rv] 29 (0, 0)) := by
        have := heap_alloc_new (wr.alloc (.cells #[.int .i64 x.id, .string x.kd, x.rv] 29)) (.cells #[.int .i64 y.id, .string y.kd, y.rv] 29)
        rw [World.size_alloc] at this; exact this
      have g0 := cell_at (i := 0) n0 rfl
      have g1 := cell_at (i := 1) n0 rfl
      have g2 := cell_at (i := 2) n0 rfl
      have g3 := cell_at (i := 0) n1 rfl
      have g4 := cell_at (i := 1) n1 rfl
      have g5 := cell_at (i := 2) n1 rfl
      have cs := sameNode_eq q1 q2 q3 (c3.on (on1K hB hX (Nat.le_refl _))) (d3.on (on1K hB hX (Nat.le_refl _))) hx8
      have HX := Lib.hid hX
      obtain ⟨a1, s1, t1, hv1⟩ := c3.sl
      obtain ⟨a2, s2, t2, hv2⟩ := d3.sl
      clear l1 l2 c0 c1 c2 c3 d0 d1 d2 d3 q1 q2 q3 hx hy hX n0 n1 hB
      obtain ⟨xi, xk, xv, xr⟩ := x
      obtain ⟨yi, yk, yv, yr⟩ := y
      simp only at hv1 hv2 e0 e1 e2 f0 f1 f2 w0 w1 w2 g0 g1 g2 g3 g4 g5 cs HX
      subst hv1 hv2
      go_wp2_with (first | (go_at_call 33; refine cs.mono ?_; rintro e W2 ⟨rfl, hB2⟩))
      refine ⟨⟨k + 1, hlt, ?_, on1K HB.out (on1K HX.out hB2 (Nat.le_refl _)) (Nat.le_refl _)⟩, ?_⟩
      · go_num
      · simp [intOf]
        omega
    · go_wp2
      go_ret
      exact ⟨rfl, HB.out⟩
set_option maxHeartbeats 2000000 in
set_option maxRecDepth 100000 in
/-- graph.Same of two graphs that are the same. -/
theorem same_eq {vn vt un ut : Value} {N M : List Nd} {T : List Te} {w : World} (hN : IsN w vn N) (hT : IsT w vt T) (hM : IsN w un M) (hU : IsT w ut T) (he : cN N = cN M) (g1 : gErr N T = 0) (g2 : gErr M T = 0) (h8 : ∀ n ∈ N, n.rc.length ≤ 1000) (zN : SzN N) (zT : SzT T) (zM : SzN M) (l60 : N.length ≤ 60) (l60' : M.length ≤ 60) (l120 : T.length ≤ 120) :
    Calls Try.prog 20 #[.agg #[vn, vt], .agg #[un, ut]] w fun e w' => e = .returned (.tuple #[.bool true, .nilIface]) ∧ Below w.heap.size w w' := by
  obtain ⟨W0, hW0⟩ : ∃ W0, W0 = (w.alloc (.cells #[vn, vt] 25)).alloc (.cells #[un, ut] 25) := ⟨_, rfl⟩
  have hB0 : Below w.heap.size w W0 := by rw [hW0]; exact b_alloc (b_alloc (Below.refl _ _) _) _
  have hs0 : W0.heap.size = w.heap.size + 2 := by rw [hW0]; simp
  have n0 : W0.heap[w.heap.size]? = some (.cells #[vn, vt] 25 (0, 0)) := by rw [hW0]; exact (heap_alloc_old _ _ (by simp)).trans (heap_alloc_new w _)
  have n1 : W0.heap[w.heap.size + 1]? = some (.cells #[un, ut] 25 (0, 0)) := by
    have := heap_alloc_new (w.alloc (.cells #[vn, vt] 25)) (.cells #[un, ut] 25)
    rw [World.size_alloc] at this; rw [hW0]; exact this
  have b := fun W (hB : Below W0.heap.size W0 W) => on1K hB0 hB (Nat.le_refl _)
  have cA := fun W (hB : Below W0.heap.size W0 W) => gcheck_any (hN.on (b W hB)) (hT.on (b W hB)) zN zT (by unfold maxLen; omega) (by unfold maxLen; omega)
  have cB := fun W (hB : Below W0.heap.size W0 W) => gcheck_any (hM.on (b W hB)) (hU.on (b W hB)) zM zT (by unfold maxLen; omega) (by unfold maxLen; omega)
  have cE := fun W (hB : Below W0.heap.size W0 W) => equalN_same (hN.on (b W hB)) (hM.on (b W hB)) he (by omega) h8
  have cF := fun W (hB : Below W0.heap.size W0 W) => equalT_same (hT.on (b W hB)) (hU.on (b W hB)) (by omega)
  rw [g1, errV_0] at cA
  rw [g2, errV_0] at cB
  have HX : Hid (∀ W, Below W0.heap.size W0 W → (W.cell? ⟨w.heap.size, 0, none⟩ = some vn ∧ W.cell? ⟨w.heap.size, 1, none⟩ = some vt) ∧ (W.cell? ⟨w.heap.size + 1, 0, none⟩ = some un ∧ W.cell? ⟨w.heap.size + 1, 1, none⟩ = some ut)) := fun W hB => by
    have p0 := (hB.block w.heap.size (by omega)).trans n0
    have p1 := (hB.block (w.heap.size + 1) (by omega)).trans n1
    exact ⟨⟨cell_at p0 rfl, cell_at p0 rfl⟩, ⟨cell_at p1 rfl, cell_at p1 rfl⟩⟩
  obtain ⟨⟨x0, x1⟩, x2, x3⟩ := HX.out W0 (Below.refl _ _)
  obtain ⟨an, cn, rfl, _⟩ := hN
  obtain ⟨am, cm, rfl, _⟩ := hT
  obtain ⟨bn, dn, rfl, _⟩ := hM
  obtain ⟨bm, dm, rfl, _⟩ := hU
  have c1 := cA W0 (Below.refl _ _)
  have HB := Lib.hid hB0
  clear n0 n1 hB0 b he g1 g2 cA
  go_enter Try.func20, Try.ntmps20
  go_upto_region 1 with fail
  rw [← hW0]
  clear hW0
  go_wp2_with (first | (go_at_call 9; first | (refine c1.mono ?_; rintro e W1 ⟨rfl, hB1⟩; obtain ⟨⟨y0, y1⟩, y2, y3⟩ := HX.out W1 hB1; have c2 := cB W1 hB1; clear c1) | (refine c2.mono ?_; rintro e W2 ⟨rfl, hB2⟩; have hC2 := on1K hB1 hB2 (Nat.le_refl _); obtain ⟨⟨z0, z1⟩, z2, z3⟩ := HX.out W2 hC2; have c3 := cE W2 hC2; clear c2)) | (go_at_call 32; refine c3.mono ?_; rintro e W3 ⟨rfl, hB3⟩; have hC3 := on1K hC2 hB3 (Nat.le_refl _); obtain ⟨⟨t0, t1⟩, t2, t3⟩ := HX.out W3 hC3; have c4 := cF W3 hC3) | (go_at_call 34; refine c4.mono ?_; rintro e W4 ⟨rfl, hB4⟩))
  go_ret2
  exact ⟨rfl, on1K HB.out (on1K hC3 hB4 (Nat.le_refl _)) (Nat.le_refl _)⟩
end Go.Proofs.Ytelbmianojomgaa
