/-
  Ops in memory; what an op does, as contracts of delta.apply speak of it; delta.apply of Gone.
-/
import Derived.Test.YtkgblicmkijpdaaDelG
namespace Go.Proofs.Ytkgblicmkijpdaa
open Go.RowKit
set_option linter.unusedVariables false
set_option linter.unusedSimpArgs false

/-- An op. -/
structure Opx where
  wh : Int
  nd : Nd
  pr : Pr
  te : Te
def Opx.cells (o : Opx) : List Value := [.int .i64 o.wh, .int .i64 o.nd.id, .string o.nd.kd, o.nd.rv, .string o.pr.nm, .int .i64 o.pr.t, .int .i64 o.pr.n, .string o.pr.s, .string o.te.bd, .int .i64 o.te.fr, .int .i64 o.te.tt]
abbrev Opx.one (o : Opx) : Value := .agg #[.int .i64 o.wh, .int .i64 o.nd.id, .string o.nd.kd, o.nd.rv, .string o.pr.nm, .int .i64 o.pr.t, .int .i64 o.pr.n, .string o.pr.s, .string o.te.bd, .int .i64 o.te.fr, .int .i64 o.te.tt]
theorem op_len (o : Opx) : o.cells.length = 11 := rfl
/-- Texts are not too long for memory. -/
def OpSz (o : Opx) : Prop := (o.nd.kd.size ≤ maxLen ∧ Sz o.nd.rc ∧ o.nd.rc.length ≤ maxLen) ∧ (o.pr.nm.size ≤ maxLen ∧ o.pr.s.size ≤ maxLen) ∧ o.te.bd.size ≤ maxLen
def LiesO (w : World) (b off : Nat) (L : List Opx) : Prop := ∀ k o, L[k]? = some o → (∀ i u, o.cells[i]? = some u → w.cell? ⟨b, off + k * 11 + i, none⟩ = some u) ∧ IsR w o.nd.rv o.nd.rc
def IsO (w : World) (v : Value) (L : List Opx) : Prop :=
  ∃ ao c, v = .slice ao L.length c ∧ L.length ≤ c ∧ (L = [] ∨ ∃ b off, ao = some ⟨b, off, none⟩ ∧ b < w.heap.size ∧ LiesO w b off L)
theorem LiesO.on {w w' : World} {b off : Nat} {L : List Opx} (h : LiesO w b off L) (hb : b < w.heap.size) (hB : Below w.heap.size w w') : LiesO w' b off L := fun k o ho => by
  obtain ⟨c0, c1⟩ := h k o ho
  exact ⟨fun i u hu => (hB.cell hb).trans (c0 i u hu), c1.on hB⟩
theorem IsO.on {w w' : World} {v : Value} {L : List Opx} (h : IsO w v L) (hB : Below w.heap.size w w') : IsO w' v L := by
  obtain ⟨ao, c, rfl, hc, h0 | ⟨b, off, rfl, hb, hL⟩⟩ := h
  · exact ⟨ao, c, rfl, hc, .inl h0⟩
  · exact ⟨_, c, rfl, hc, .inr ⟨b, off, rfl, Nat.lt_of_lt_of_le hb hB.size, hL.on hb hB⟩⟩

/-- What ops do to a graph: the error, the nodes, the ties. -/
structure OpS where
  e : Opx → List Nd → List Te → Int
  m : Opx → List Nd → List Te → List Nd
  t : Opx → List Nd → List Te → List Te
/-- apply does what is told of an op. -/
def ApOk (S : OpS) (o : Opx) : Prop := ∀ (w : World) (base p : Nat) (N : List Nd) (T : List Te), OG w base p N T → base ≤ w.heap.size → gErr N T = 0 → IsR w o.nd.rv o.nd.rc → OpSz o →
  Calls Try.prog 18 #[.pointer (some ⟨p, 0, none⟩), o.one] w fun e w' => e = .returned (errV (S.e o (cN N) T)) ∧ (S.e o (cN N) T = 0 → ∃ N', cN N' = S.m o (cN N) T ∧ OG w' base p N' (S.t o (cN N) T)) ∧ Below base w w'

theorem loN_c (id : Int) : ∀ N : List Nd, loN id (cN N) = loN id N
  | [] => rfl
  | n :: r => by
    have := loN_c id r
    show loN id (n.c :: cN r) = _
    unfold loN
    rw [this]
    rfl
theorem fndN_c (id : Int) (N : List Nd) : fndN id (cN N) = fndN id N := by
  unfold fndN
  rw [loN_c]
  unfold cN
  rw [List.getElem?_map]
  cases N[loN id N]? <;> rfl
theorem chkN_srt : ∀ (N : List Nd) (o : Option Nd), chkN o N = 0 → (∀ q, o = some q → ∀ x ∈ N, q.id < x.id) ∧ SrtN N
  | [], o, _ => ⟨fun q _ x hx => (by cases hx), List.Pairwise.nil⟩
  | n :: r, o, h => by
    have hn : ndE o n = 0 := by
      by_cases e : ndE o n = 0
      · exact e
      · rw [chkN_bad e] at h; exact absurd h e
    rw [chkN_ok hn] at h
    obtain ⟨h1, h2⟩ := chkN_srt r (some n) h
    have hl : n.low o = false := by
      unfold ndE at hn
      by_cases a : idOk n.id = true
      · rw [if_pos a] at hn
        by_cases b : n.low o = true
        · rw [if_pos b] at hn; omega
        · simpa using b
      · rw [if_neg a] at hn; omega
    refine ⟨fun q hq x hx => ?_, List.pairwise_cons.2 ⟨h1 n rfl, h2⟩⟩
    subst hq
    have hlt : q.id < n.id := by simpa [Nd.low] using hl
    rcases List.mem_cons.1 hx with rfl | hx
    · exact hlt
    · exact Int.lt_trans hlt (h1 n rfl x hx)
theorem gErr_lens {N : List Nd} {T : List Te} (h : gErr N T = 0) : N.length ≤ 60 ∧ T.length ≤ 120 ∧ chkN none N = 0 ∧ chkT none T = 0 := by
  unfold gErr at h
  by_cases h1 : 60 < N.length ∨ 120 < T.length
  · rw [if_pos h1] at h; omega
  · rw [if_neg h1] at h
    by_cases h2 : chkN none N = 0
    · rw [if_pos h2] at h; exact ⟨by omega, by omega, h2, h⟩
    · rw [if_neg h2] at h; exact absurd h h2
theorem gErr_srt {N : List Nd} {T : List Te} (h : gErr N T = 0) : SrtN N := (chkN_srt N none (gErr_lens h).2.2.1).2

theorem chkN_rc : ∀ (N : List Nd) (o : Option Nd), chkN o N = 0 → ∀ n ∈ N, idOk n.id = true ∧ nErr n.kd.data.toList = 0 ∧ rErr n.rc = 0
  | [], o, _, n, hn => by cases hn
  | x :: r, o, h, n, hn => by
    have hx : ndE o x = 0 := by
      by_cases e : ndE o x = 0
      · exact e
      · rw [chkN_bad e] at h; exact absurd h e
    rw [chkN_ok hx] at h
    rcases List.mem_cons.1 hn with rfl | hn
    · unfold ndE at hx
      by_cases a : idOk n.id = true
      · rw [if_pos a] at hx
        by_cases b : n.low o = true
        · rw [if_pos b] at hx; omega
        · rw [if_neg b] at hx
          by_cases c : nErr n.kd.data.toList = 0
          · rw [if_pos c] at hx; exact ⟨a, c, hx⟩
          · rw [if_neg c] at hx; exact absurd hx c
      · rw [if_neg a] at hx; omega
    · exact chkN_rc r (some x) h n hn
theorem rErr_le {L : List Pr} (h : rErr L = 0) : L.length ≤ 8 := by
  unfold rErr at h
  by_cases e : 8 < L.length
  · rw [if_pos e] at h; omega
  · omega
theorem gErr_rc8 {N : List Nd} {T : List Te} (h : gErr N T = 0) : ∀ n ∈ N, n.rc.length ≤ 8 := fun n hn => rErr_le (chkN_rc N none (gErr_lens h).2.2.1 n hn).2.2

/-- Gone. -/
def goneE (id : Int) (M : List Nd) : Int := if fndN id M = true then 0 else 5
set_option maxHeartbeats 1000000 in
theorem apply_gone (o : Opx) (ho : o.wh = 2) (w : World) (base p : Nat) (N : List Nd) (T : List Te) (hG : OG w base p N T) (hb : base ≤ w.heap.size) (he : gErr N T = 0) (hR : IsR w o.nd.rv o.nd.rc) :
    Calls Try.prog 18 #[.pointer (some ⟨p, 0, none⟩), o.one] w fun e w' => e = .returned (errV (goneE o.nd.id (cN N))) ∧ (goneE o.nd.id (cN N) = 0 → ∃ N', cN N' = (cN N).eraseIdx (loN o.nd.id (cN N)) ∧ OG w' base p N' (T.filter (keepT o.nd.id))) ∧ Below base w w' := by
  obtain ⟨l60, l120, _, _⟩ := gErr_lens he
  have hs := gErr_srt he
  obtain ⟨av, lv, cv, hv⟩ := hR.sl
  obtain ⟨wh, ⟨id, kd, rv, rc⟩, ⟨nm, pt, pn, ps⟩, ⟨bd, fr, tt⟩⟩ := o
  simp only at ho hv ⊢
  subst ho hv
  obtain ⟨W0, hW0⟩ : ∃ W0, W0 = w.alloc (.cells #[.int .i64 2, .int .i64 id, .string kd, .slice av lv cv, .string nm, .int .i64 pt, .int .i64 pn, .string ps, .string bd, .int .i64 fr, .int .i64 tt] 42) := ⟨_, rfl⟩
  have hB0 : Below w.heap.size w W0 := by rw [hW0]; exact b_alloc (Below.refl _ _) _
  have hG0 := hG.on hB0
  have n0 : W0.heap[w.heap.size]? = some (.cells #[.int .i64 2, .int .i64 id, .string kd, .slice av lv cv, .string nm, .int .i64 pt, .int .i64 pn, .string ps, .string bd, .int .i64 fr, .int .i64 tt] 42 (0, 0)) := by rw [hW0]; exact heap_alloc_new w _
  have x0 : W0.cell? ⟨w.heap.size, 0, none⟩ = some (.int .i64 2) := cell_at n0 rfl
  have x1 : W0.cell? ⟨w.heap.size, 1, none⟩ = some (.int .i64 id) := cell_at n0 rfl
  unfold goneE
  rw [fndN_c, loN_c]
  cases hf : fndN id N with
  | false =>
    have cD := dropNode_no hG0 hs (by omega) id hf
    have HB : Hid (Below w.heap.size w W0) := hB0
    clear hG0 hG hB0 n0 hs he hR hf
    simp only [Bool.false_eq_true, if_false]
    rw [show errV 5 = .iface 60 (.int .i64 5) from rfl] at cD ⊢
    subst hW0
    go_enter Try.func18, Try.ntmps18
    go_wp2_with (first | (go_at_call 39; refine cD.mono ?_; rintro e W2 ⟨rfl, hB2⟩))
    go_ret
    exact ⟨rfl, fun h => (by cases h), (on1K HB.out hB2 (Nat.le_refl _)).mono hb⟩
  | true =>
    have cD := dropNode_ok hG0 (Nat.le_trans hb hB0.size) hs (by omega) (by omega) id hf
    have HB : Hid (Below w.heap.size w W0 ∧ OG w base p N T) := ⟨hB0, hG⟩
    clear hG0 hG hB0 n0 hs he hR hf
    simp only [if_true]
    subst hW0
    go_enter Try.func18, Try.ntmps18
    go_wp2_with (first | (go_at_call 39; refine cD.mono ?_; rintro e W2 ⟨rfl, hG2, hB2⟩))
    go_ret
    refine ⟨rfl, fun _ => ⟨_, ?_, hG2⟩, (HB.out.1.mono hb).trans hB2⟩
    unfold cN
    rw [List.eraseIdx_eq_take_drop_succ, List.eraseIdx_eq_take_drop_succ, List.map_append, List.map_take, List.map_drop]
end Go.Proofs.Ytkgblicmkijpdaa
