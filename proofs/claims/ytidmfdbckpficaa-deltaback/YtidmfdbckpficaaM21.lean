/-
  What every op does, in plain words, and the walk of delta.apply: it does that.
-/
import Derived.Test.YtidmfdbckpficaaM18
import Derived.Test.YtidmfdbckpficaaM20
namespace Go.Proofs.Ytidmfdbckpficaa
open Go.RowKit
set_option linter.unusedVariables false
set_option linter.unusedSimpArgs false

/-- The record of the node of an id. -/
def rcAt (id : Int) (M : List Nd) : List Pr := match M[loN id M]? with
  | some n => n.rc
  | none => []
/-- The node of an id has another record. -/
def putR (id : Int) (M : List Nd) (r : List Pr) : List Nd := match M[loN id M]? with
  | some n => M.set (loN id M) ⟨n.id, n.kd, .nilIface, r⟩
  | none => M
def opE (o : Opx) (M : List Nd) (T : List Te) : Int :=
  if o.wh = 1 then newE o.nd M else if o.wh = 2 then goneE o.nd.id M
  else if o.wh = 3 then (if fndN o.nd.id M = true then rsErr o.pr (rcAt o.nd.id M) else 5)
  else if o.wh = 4 then (if fndN o.nd.id M = true then unE o.pr.nm.toList (rcAt o.nd.id M) else 5)
  else if o.wh = 5 then bindE o.te T else if o.wh = 6 then (if fndT o.te T = true then 0 else 5) else 1
def opM (o : Opx) (M : List Nd) (T : List Te) : List Nd :=
  if o.wh = 1 then newM o.nd M else if o.wh = 2 then M.eraseIdx (loN o.nd.id M)
  else if o.wh = 3 then putR o.nd.id M (ins o.pr (rcAt o.nd.id M))
  else if o.wh = 4 then putR o.nd.id M (unL o.pr.nm.toList (rcAt o.nd.id M)) else M
def opT (o : Opx) (M : List Nd) (T : List Te) : List Te :=
  if o.wh = 2 then T.filter (keepT o.nd.id) else if o.wh = 5 then bindT o.te T else if o.wh = 6 then T.eraseIdx (loT o.te T) else T
/-- What every op does. -/
def opS : OpS := ⟨opE, opM, opT⟩

theorem rc_c {id : Int} {N : List Nd} {n : Nd} (hn : N[loN id N]? = some n) : rcAt id (cN N) = n.rc ∧ ∀ r, putR id (cN N) r = (cN N).set (loN id N) ⟨n.id, n.kd, .nilIface, r⟩ := by
  have h : (cN N)[loN id N]? = some n.c := by unfold cN; rw [List.getElem?_map, hn]; rfl
  refine ⟨?_, fun r => ?_⟩
  · unfold rcAt; rw [loN_c, h]; rfl
  · unfold putR; rw [loN_c, h]; rfl
theorem newE_c (n : Nd) (N : List Nd) : newE n (cN N) = newE n N := by unfold newE; rw [fndN_c, cN_len]

set_option maxHeartbeats 1000000 in
theorem apply_new (o : Opx) (ho : o.wh = 1) : ApOk opS o := by
  intro w base p N T hG hb he hR zo
  obtain ⟨l60, l120, _, hct⟩ := gErr_lens he
  have hs := gErr_srt he
  have hst : SrtT T := ((chkT_iff T none).1 hct).2.1
  have hrc := fun n hn => (chkN_rc N none (gErr_lens he).2.2.1 n hn).2.2
  obtain ⟨av, lv, cv, hv⟩ := hR.sl
  obtain ⟨wh, ⟨id, kd, rv, rc⟩, ⟨nm, pt, pn, ps⟩, ⟨bd, fr, tt⟩⟩ := o
  simp only at ho hv hR
  subst ho hv
  obtain ⟨W0, hW0⟩ : ∃ W0, W0 = w.alloc (.cells #[.int .i64 1, .int .i64 id, .string kd, .slice av lv cv, .string nm, .int .i64 pt, .int .i64 pn, .string ps, .string bd, .int .i64 fr, .int .i64 tt] 42) := ⟨_, rfl⟩
  have hB0 : Below w.heap.size w W0 := by rw [hW0]; exact b_alloc (Below.refl _ _) _
  have hG0 := hG.on hB0
  have n0 : W0.heap[w.heap.size]? = some (.cells #[.int .i64 1, .int .i64 id, .string kd, .slice av lv cv, .string nm, .int .i64 pt, .int .i64 pn, .string ps, .string bd, .int .i64 fr, .int .i64 tt] 42 (0, 0)) := by rw [hW0]; exact heap_alloc_new w _
  have hb0 : base ≤ W0.heap.size := Nat.le_trans hb hB0.size
  have x0 : W0.cell? ⟨w.heap.size, 0, none⟩ = some (.int .i64 1) := cell_at n0 rfl
  have x1 : W0.cell? ⟨w.heap.size, 1, none⟩ = some (.int .i64 id) := cell_at n0 rfl
  have x2 : W0.cell? ⟨w.heap.size, 2, none⟩ = some (.string kd) := cell_at n0 rfl
  have x3 : W0.cell? ⟨w.heap.size, 3, none⟩ = some (.slice av lv cv) := cell_at n0 rfl
  have x8 : W0.cell? ⟨w.heap.size, 8, none⟩ = some (.string bd) := cell_at n0 rfl
  have x9 : W0.cell? ⟨w.heap.size, 9, none⟩ = some (.int .i64 fr) := cell_at n0 rfl
  have x10 : W0.cell? ⟨w.heap.size, 10, none⟩ = some (.int .i64 tt) := cell_at n0 rfl
  have cD := addNode_any hG0 hb0 hs l60 ⟨id, kd, .slice av lv cv, rc⟩ (hR.on hB0) zo.1
  show Calls Try.prog 18 _ w fun e w' => e = .returned (errV (newE ⟨id, kd, .slice av lv cv, rc⟩ (cN N))) ∧ (newE ⟨id, kd, .slice av lv cv, rc⟩ (cN N) = 0 → ∃ N', cN N' = newM ⟨id, kd, .slice av lv cv, rc⟩ (cN N) ∧ OG w' base p N' T) ∧ Below base w w'
  rw [newE_c]
  generalize newM ⟨id, kd, .slice av lv cv, rc⟩ (cN N) = NM at *
  generalize newE ⟨id, kd, .slice av lv cv, rc⟩ N = z at *
  generalize hEz : errV z = E at *
  have HB : Hid (Below w.heap.size w W0) := hB0
  clear hG0 hG hB0 n0 hs hst he hR hrc zo
  subst hW0
  go_enter Try.func18, Try.ntmps18
  go_wp2_with (first | (go_at_call 38; refine cD.mono ?_; rintro e W2 ⟨rfl, hG2, hB2⟩))
  go_ret
  exact ⟨rfl, hG2, (HB.out.mono hb).trans hB2⟩

theorem apply_gone' (o : Opx) (ho : o.wh = 2) : ApOk opS o := fun w base p N T hG hb he hR _ => by
  have := apply_gone o ho w base p N T hG hb he hR
  have e1 : opS.e o (cN N) T = goneE o.nd.id (cN N) := by show opE o (cN N) T = _; unfold opE; rw [if_neg (by omega), if_pos ho]
  have e2 : opS.m o (cN N) T = (cN N).eraseIdx (loN o.nd.id (cN N)) := by show opM o (cN N) T = _; unfold opM; rw [if_neg (by omega), if_pos ho]
  have e3 : opS.t o (cN N) T = T.filter (keepT o.nd.id) := by show opT o (cN N) T = _; unfold opT; rw [if_pos ho]
  rw [e1, e2, e3]
  exact this

set_option maxHeartbeats 1000000 in
theorem apply_set (o : Opx) (ho : o.wh = 3) : ApOk opS o := by
  intro w base p N T hG hb he hR zo
  obtain ⟨l60, l120, _, hct⟩ := gErr_lens he
  have hs := gErr_srt he
  have hst : SrtT T := ((chkT_iff T none).1 hct).2.1
  have hrc := fun n hn => (chkN_rc N none (gErr_lens he).2.2.1 n hn).2.2
  obtain ⟨av, lv, cv, hv⟩ := hR.sl
  obtain ⟨wh, ⟨id, kd, rv, rc⟩, ⟨nm, pt, pn, ps⟩, ⟨bd, fr, tt⟩⟩ := o
  simp only at ho hv hR
  subst ho hv
  obtain ⟨W0, hW0⟩ : ∃ W0, W0 = w.alloc (.cells #[.int .i64 3, .int .i64 id, .string kd, .slice av lv cv, .string nm, .int .i64 pt, .int .i64 pn, .string ps, .string bd, .int .i64 fr, .int .i64 tt] 42) := ⟨_, rfl⟩
  have hB0 : Below w.heap.size w W0 := by rw [hW0]; exact b_alloc (Below.refl _ _) _
  have hG0 := hG.on hB0
  have n0 : W0.heap[w.heap.size]? = some (.cells #[.int .i64 3, .int .i64 id, .string kd, .slice av lv cv, .string nm, .int .i64 pt, .int .i64 pn, .string ps, .string bd, .int .i64 fr, .int .i64 tt] 42 (0, 0)) := by rw [hW0]; exact heap_alloc_new w _
  have hb0 : base ≤ W0.heap.size := Nat.le_trans hb hB0.size
  have x0 : W0.cell? ⟨w.heap.size, 0, none⟩ = some (.int .i64 3) := cell_at n0 rfl
  have x1 : W0.cell? ⟨w.heap.size, 1, none⟩ = some (.int .i64 id) := cell_at n0 rfl
  have x2 : W0.cell? ⟨w.heap.size, 2, none⟩ = some (.string kd) := cell_at n0 rfl
  have x3 : W0.cell? ⟨w.heap.size, 3, none⟩ = some (.slice av lv cv) := cell_at n0 rfl
  have x8 : W0.cell? ⟨w.heap.size, 8, none⟩ = some (.string bd) := cell_at n0 rfl
  have x9 : W0.cell? ⟨w.heap.size, 9, none⟩ = some (.int .i64 fr) := cell_at n0 rfl
  have x10 : W0.cell? ⟨w.heap.size, 10, none⟩ = some (.int .i64 tt) := cell_at n0 rfl
  cases hf : fndN id N with
  | false =>
    have cD := change_no hG0 hs (by omega) id 41 w.heap.size hf
    have e1 : opS.e ⟨3, ⟨id, kd, .slice av lv cv, rc⟩, ⟨nm, pt, pn, ps⟩, ⟨bd, fr, tt⟩⟩ (cN N) T = 5 := by show (if fndN id (cN N) = true then _ else (5 : Int)) = 5; rw [fndN_c, hf]; rfl
    rw [e1, show errV 5 = .iface 60 (.int .i64 5) from rfl]
    have HB : Hid (Below w.heap.size w W0) := hB0
    clear hG0 hG hB0 n0 hs hst he hR hrc zo hf e1
    subst hW0
    go_enter Try.func18, Try.ntmps18
    go_wp2_with (first | (go_at_call 40; refine cD.mono ?_; rintro e W2 ⟨rfl, hB2⟩))
    go_ret
    exact ⟨rfl, fun h => (by cases h), (on1K HB.out hB2 (Nat.le_refl _)).mono hb⟩
  | true =>
    obtain ⟨n, hn⟩ : ∃ n, N[loN id N]? = some n := ⟨N[loN id N]'(fndN_lt hf), by simp [fndN_lt hf]⟩
    have hnm := List.mem_of_getElem? hn
    obtain ⟨c1, c2⟩ := rc_c hn
    have hO : OwnRc W0 base n.rv n.rc := by
      obtain ⟨_, _, _, _, hN, _⟩ := hG0
      exact hN.2 n hnm
    have hz8 : Sz n.rc := sz_of (hrc n hnm)
    have hch : ChP 41 w.heap.size n.rv (rsErr ⟨nm, pt, pn, ps⟩ n.rc) (ins ⟨nm, pt, pn, ps⟩ n.rc) W0 := ap1_any (o := ⟨3, ⟨id, kd, .slice av lv cv, rc⟩, ⟨nm, pt, pn, ps⟩, ⟨bd, fr, tt⟩⟩) n0 hO hz8 (hrc n hnm) (fun x hx => by simp at hx; subst hx; exact zo.2.1)
    have cD := change67_yes hG0 hb0 hs (by omega) id w.heap.size hf hn hch
    have e1 : opS.e ⟨3, ⟨id, kd, .slice av lv cv, rc⟩, ⟨nm, pt, pn, ps⟩, ⟨bd, fr, tt⟩⟩ (cN N) T = rsErr ⟨nm, pt, pn, ps⟩ n.rc := by show (if fndN id (cN N) = true then _ else (5 : Int)) = _; rw [fndN_c, hf, c1]; rfl
    have e2 : opS.m ⟨3, ⟨id, kd, .slice av lv cv, rc⟩, ⟨nm, pt, pn, ps⟩, ⟨bd, fr, tt⟩⟩ (cN N) T = (cN N).set (loN id N) ⟨n.id, n.kd, .nilIface, ins ⟨nm, pt, pn, ps⟩ n.rc⟩ := by show putR id (cN N) _ = _; rw [c2, c1]
    have e3 : opS.t ⟨3, ⟨id, kd, .slice av lv cv, rc⟩, ⟨nm, pt, pn, ps⟩, ⟨bd, fr, tt⟩⟩ (cN N) T = T := rfl
    rw [e1, e2, e3]
    generalize (cN N).set (loN id N) ⟨n.id, n.kd, .nilIface, ins ⟨nm, pt, pn, ps⟩ n.rc⟩ = NM at *
    generalize rsErr ⟨nm, pt, pn, ps⟩ n.rc = z at *
    generalize hEz : errV z = E at *
    have HB : Hid (Below w.heap.size w W0) := hB0
    clear hG0 hG hB0 n0 hs hst he hR hrc zo hf e1 e2 e3 hch hz8 hO c1 c2 hn hnm
    subst hW0
    go_enter Try.func18, Try.ntmps18
    go_wp2_with (first | (go_at_call 40; refine cD.mono ?_; rintro e W2 ⟨rfl, hG2, hB2⟩))
    go_ret
    exact ⟨rfl, hG2, (HB.out.mono hb).trans hB2⟩

set_option maxHeartbeats 1000000 in
theorem apply_unset (o : Opx) (ho : o.wh = 4) : ApOk opS o := by
  intro w base p N T hG hb he hR zo
  obtain ⟨l60, l120, _, hct⟩ := gErr_lens he
  have hs := gErr_srt he
  have hst : SrtT T := ((chkT_iff T none).1 hct).2.1
  have hrc := fun n hn => (chkN_rc N none (gErr_lens he).2.2.1 n hn).2.2
  obtain ⟨av, lv, cv, hv⟩ := hR.sl
  obtain ⟨wh, ⟨id, kd, rv, rc⟩, ⟨nm, pt, pn, ps⟩, ⟨bd, fr, tt⟩⟩ := o
  simp only at ho hv hR
  subst ho hv
  obtain ⟨W0, hW0⟩ : ∃ W0, W0 = w.alloc (.cells #[.int .i64 4, .int .i64 id, .string kd, .slice av lv cv, .string nm, .int .i64 pt, .int .i64 pn, .string ps, .string bd, .int .i64 fr, .int .i64 tt] 42) := ⟨_, rfl⟩
  have hB0 : Below w.heap.size w W0 := by rw [hW0]; exact b_alloc (Below.refl _ _) _
  have hG0 := hG.on hB0
  have n0 : W0.heap[w.heap.size]? = some (.cells #[.int .i64 4, .int .i64 id, .string kd, .slice av lv cv, .string nm, .int .i64 pt, .int .i64 pn, .string ps, .string bd, .int .i64 fr, .int .i64 tt] 42 (0, 0)) := by rw [hW0]; exact heap_alloc_new w _
  have hb0 : base ≤ W0.heap.size := Nat.le_trans hb hB0.size
  have x0 : W0.cell? ⟨w.heap.size, 0, none⟩ = some (.int .i64 4) := cell_at n0 rfl
  have x1 : W0.cell? ⟨w.heap.size, 1, none⟩ = some (.int .i64 id) := cell_at n0 rfl
  have x2 : W0.cell? ⟨w.heap.size, 2, none⟩ = some (.string kd) := cell_at n0 rfl
  have x3 : W0.cell? ⟨w.heap.size, 3, none⟩ = some (.slice av lv cv) := cell_at n0 rfl
  have x8 : W0.cell? ⟨w.heap.size, 8, none⟩ = some (.string bd) := cell_at n0 rfl
  have x9 : W0.cell? ⟨w.heap.size, 9, none⟩ = some (.int .i64 fr) := cell_at n0 rfl
  have x10 : W0.cell? ⟨w.heap.size, 10, none⟩ = some (.int .i64 tt) := cell_at n0 rfl
  cases hf : fndN id N with
  | false =>
    have cD := change_no hG0 hs (by omega) id 43 w.heap.size hf
    have e1 : opS.e ⟨4, ⟨id, kd, .slice av lv cv, rc⟩, ⟨nm, pt, pn, ps⟩, ⟨bd, fr, tt⟩⟩ (cN N) T = 5 := by show (if fndN id (cN N) = true then _ else (5 : Int)) = 5; rw [fndN_c, hf]; rfl
    rw [e1, show errV 5 = .iface 60 (.int .i64 5) from rfl]
    have HB : Hid (Below w.heap.size w W0) := hB0
    clear hG0 hG hB0 n0 hs hst he hR hrc zo hf e1
    subst hW0
    go_enter Try.func18, Try.ntmps18
    go_wp2_with (first | (go_at_call 40; refine cD.mono ?_; rintro e W2 ⟨rfl, hB2⟩))
    go_ret
    exact ⟨rfl, fun h => (by cases h), (on1K HB.out hB2 (Nat.le_refl _)).mono hb⟩
  | true =>
    obtain ⟨n, hn⟩ : ∃ n, N[loN id N]? = some n := ⟨N[loN id N]'(fndN_lt hf), by simp [fndN_lt hf]⟩
    have hnm := List.mem_of_getElem? hn
    obtain ⟨c1, c2⟩ := rc_c hn
    have hO : OwnRc W0 base n.rv n.rc := by
      obtain ⟨_, _, _, _, hN, _⟩ := hG0
      exact hN.2 n hnm
    have hz8 : Sz n.rc := sz_of (hrc n hnm)
    have hch : ChP 43 w.heap.size n.rv (unE nm.toList n.rc) (unL nm.toList n.rc) W0 := ap2_any (o := ⟨4, ⟨id, kd, .slice av lv cv, rc⟩, ⟨nm, pt, pn, ps⟩, ⟨bd, fr, tt⟩⟩) n0 hO hz8 (hrc n hnm)
    have cD := change69_yes hG0 hb0 hs (by omega) id w.heap.size hf hn hch
    have e1 : opS.e ⟨4, ⟨id, kd, .slice av lv cv, rc⟩, ⟨nm, pt, pn, ps⟩, ⟨bd, fr, tt⟩⟩ (cN N) T = unE nm.toList n.rc := by show (if fndN id (cN N) = true then _ else (5 : Int)) = _; rw [fndN_c, hf, c1]; rfl
    have e2 : opS.m ⟨4, ⟨id, kd, .slice av lv cv, rc⟩, ⟨nm, pt, pn, ps⟩, ⟨bd, fr, tt⟩⟩ (cN N) T = (cN N).set (loN id N) ⟨n.id, n.kd, .nilIface, unL nm.toList n.rc⟩ := by show putR id (cN N) _ = _; rw [c2, c1]
    have e3 : opS.t ⟨4, ⟨id, kd, .slice av lv cv, rc⟩, ⟨nm, pt, pn, ps⟩, ⟨bd, fr, tt⟩⟩ (cN N) T = T := rfl
    rw [e1, e2, e3]
    generalize (cN N).set (loN id N) ⟨n.id, n.kd, .nilIface, unL nm.toList n.rc⟩ = NM at *
    generalize unE nm.toList n.rc = z at *
    generalize hEz : errV z = E at *
    have HB : Hid (Below w.heap.size w W0) := hB0
    clear hG0 hG hB0 n0 hs hst he hR hrc zo hf e1 e2 e3 hch hz8 hO c1 c2 hn hnm
    subst hW0
    go_enter Try.func18, Try.ntmps18
    go_wp2_with (first | (go_at_call 40; refine cD.mono ?_; rintro e W2 ⟨rfl, hG2, hB2⟩))
    go_ret
    exact ⟨rfl, hG2, (HB.out.mono hb).trans hB2⟩

set_option maxHeartbeats 1000000 in
theorem apply_bind (o : Opx) (ho : o.wh = 5) : ApOk opS o := by
  intro w base p N T hG hb he hR zo
  obtain ⟨l60, l120, _, hct⟩ := gErr_lens he
  have hs := gErr_srt he
  have hst : SrtT T := ((chkT_iff T none).1 hct).2.1
  have hrc := fun n hn => (chkN_rc N none (gErr_lens he).2.2.1 n hn).2.2
  obtain ⟨av, lv, cv, hv⟩ := hR.sl
  obtain ⟨wh, ⟨id, kd, rv, rc⟩, ⟨nm, pt, pn, ps⟩, ⟨bd, fr, tt⟩⟩ := o
  simp only at ho hv hR
  subst ho hv
  obtain ⟨W0, hW0⟩ : ∃ W0, W0 = w.alloc (.cells #[.int .i64 5, .int .i64 id, .string kd, .slice av lv cv, .string nm, .int .i64 pt, .int .i64 pn, .string ps, .string bd, .int .i64 fr, .int .i64 tt] 42) := ⟨_, rfl⟩
  have hB0 : Below w.heap.size w W0 := by rw [hW0]; exact b_alloc (Below.refl _ _) _
  have hG0 := hG.on hB0
  have n0 : W0.heap[w.heap.size]? = some (.cells #[.int .i64 5, .int .i64 id, .string kd, .slice av lv cv, .string nm, .int .i64 pt, .int .i64 pn, .string ps, .string bd, .int .i64 fr, .int .i64 tt] 42 (0, 0)) := by rw [hW0]; exact heap_alloc_new w _
  have hb0 : base ≤ W0.heap.size := Nat.le_trans hb hB0.size
  have x0 : W0.cell? ⟨w.heap.size, 0, none⟩ = some (.int .i64 5) := cell_at n0 rfl
  have x1 : W0.cell? ⟨w.heap.size, 1, none⟩ = some (.int .i64 id) := cell_at n0 rfl
  have x2 : W0.cell? ⟨w.heap.size, 2, none⟩ = some (.string kd) := cell_at n0 rfl
  have x3 : W0.cell? ⟨w.heap.size, 3, none⟩ = some (.slice av lv cv) := cell_at n0 rfl
  have x8 : W0.cell? ⟨w.heap.size, 8, none⟩ = some (.string bd) := cell_at n0 rfl
  have x9 : W0.cell? ⟨w.heap.size, 9, none⟩ = some (.int .i64 fr) := cell_at n0 rfl
  have x10 : W0.cell? ⟨w.heap.size, 10, none⟩ = some (.int .i64 tt) := cell_at n0 rfl
  have cD := addTie_any hG0 hb0 hst l120 ⟨bd, fr, tt⟩ zo.2.2
  show Calls Try.prog 18 _ w fun e w' => e = .returned (errV (bindE ⟨bd, fr, tt⟩ T)) ∧ (bindE ⟨bd, fr, tt⟩ T = 0 → ∃ N', cN N' = cN N ∧ OG w' base p N' (bindT ⟨bd, fr, tt⟩ T)) ∧ Below base w w'
  generalize bindT ⟨bd, fr, tt⟩ T = TT at *
  generalize bindE ⟨bd, fr, tt⟩ T = z at *
  generalize hEz : errV z = E at *
  have HB : Hid (Below w.heap.size w W0) := hB0
  clear hG0 hG hB0 n0 hs hst he hR hrc zo
  subst hW0
  go_enter Try.func18, Try.ntmps18
  go_wp2_with (first | (go_at_call 45; refine cD.mono ?_; rintro e W2 ⟨rfl, hG2, hB2⟩))
  go_ret
  exact ⟨rfl, fun h => ⟨N, rfl, hG2 h⟩, (HB.out.mono hb).trans hB2⟩

set_option maxHeartbeats 1000000 in
theorem apply_loose (o : Opx) (ho : o.wh = 6) : ApOk opS o := by
  intro w base p N T hG hb he hR zo
  obtain ⟨l60, l120, _, hct⟩ := gErr_lens he
  have hs := gErr_srt he
  have hst : SrtT T := ((chkT_iff T none).1 hct).2.1
  have hrc := fun n hn => (chkN_rc N none (gErr_lens he).2.2.1 n hn).2.2
  obtain ⟨av, lv, cv, hv⟩ := hR.sl
  obtain ⟨wh, ⟨id, kd, rv, rc⟩, ⟨nm, pt, pn, ps⟩, ⟨bd, fr, tt⟩⟩ := o
  simp only at ho hv hR
  subst ho hv
  obtain ⟨W0, hW0⟩ : ∃ W0, W0 = w.alloc (.cells #[.int .i64 6, .int .i64 id, .string kd, .slice av lv cv, .string nm, .int .i64 pt, .int .i64 pn, .string ps, .string bd, .int .i64 fr, .int .i64 tt] 42) := ⟨_, rfl⟩
  have hB0 : Below w.heap.size w W0 := by rw [hW0]; exact b_alloc (Below.refl _ _) _
  have hG0 := hG.on hB0
  have n0 : W0.heap[w.heap.size]? = some (.cells #[.int .i64 6, .int .i64 id, .string kd, .slice av lv cv, .string nm, .int .i64 pt, .int .i64 pn, .string ps, .string bd, .int .i64 fr, .int .i64 tt] 42 (0, 0)) := by rw [hW0]; exact heap_alloc_new w _
  have hb0 : base ≤ W0.heap.size := Nat.le_trans hb hB0.size
  have x0 : W0.cell? ⟨w.heap.size, 0, none⟩ = some (.int .i64 6) := cell_at n0 rfl
  have x1 : W0.cell? ⟨w.heap.size, 1, none⟩ = some (.int .i64 id) := cell_at n0 rfl
  have x2 : W0.cell? ⟨w.heap.size, 2, none⟩ = some (.string kd) := cell_at n0 rfl
  have x3 : W0.cell? ⟨w.heap.size, 3, none⟩ = some (.slice av lv cv) := cell_at n0 rfl
  have x8 : W0.cell? ⟨w.heap.size, 8, none⟩ = some (.string bd) := cell_at n0 rfl
  have x9 : W0.cell? ⟨w.heap.size, 9, none⟩ = some (.int .i64 fr) := cell_at n0 rfl
  have x10 : W0.cell? ⟨w.heap.size, 10, none⟩ = some (.int .i64 tt) := cell_at n0 rfl
  have cD := dropTie_any hG0 hb0 hst (by omega) ⟨bd, fr, tt⟩
  show Calls Try.prog 18 _ w fun e w' => e = .returned (errV (if fndT ⟨bd, fr, tt⟩ T = true then 0 else 5)) ∧ ((if fndT ⟨bd, fr, tt⟩ T = true then (0 : Int) else 5) = 0 → ∃ N', cN N' = cN N ∧ OG w' base p N' (T.eraseIdx (loT ⟨bd, fr, tt⟩ T))) ∧ Below base w w'
  have hfd : (if fndT ⟨bd, fr, tt⟩ T = true then (0 : Int) else 5) = 0 → fndT ⟨bd, fr, tt⟩ T = true := fun h => by
    by_cases e : fndT ⟨bd, fr, tt⟩ T = true
    · exact e
    · rw [if_neg e] at h; cases h
  generalize T.eraseIdx (loT ⟨bd, fr, tt⟩ T) = TT at *
  generalize (if fndT ⟨bd, fr, tt⟩ T = true then (0 : Int) else 5) = z at *
  generalize hEz : errV z = E at *
  have HFD := Lib.hid hfd
  clear hfd
  have HB : Hid (Below w.heap.size w W0) := hB0
  clear hG0 hG hB0 n0 hs hst he hR hrc zo
  subst hW0
  go_enter Try.func18, Try.ntmps18
  go_wp2_with (first | (go_at_call 46; refine cD.mono ?_; rintro e W2 ⟨rfl, hG2, hB2⟩))
  go_ret
  exact ⟨rfl, fun h => ⟨N, rfl, hG2 (HFD.out h)⟩, (HB.out.mono hb).trans hB2⟩

set_option maxHeartbeats 1000000 in
theorem apply_other (o : Opx) (h1 : ¬ o.wh = 1) (h2 : ¬ o.wh = 2) (h3 : ¬ o.wh = 3) (h4 : ¬ o.wh = 4) (h5 : ¬ o.wh = 5) (h6 : ¬ o.wh = 6) : ApOk opS o := by
  intro w base p N T hG hb he hR zo
  have e1 : opS.e o (cN N) T = 1 := by show opE o (cN N) T = 1; unfold opE; rw [if_neg h1, if_neg h2, if_neg h3, if_neg h4, if_neg h5, if_neg h6]
  rw [e1, show errV 1 = .iface 60 (.int .i64 1) from rfl]
  obtain ⟨av, lv, cv, hv⟩ := hR.sl
  obtain ⟨wh, ⟨id, kd, rv, rc⟩, ⟨nm, pt, pn, ps⟩, ⟨bd, fr, tt⟩⟩ := o
  simp only at h1 h2 h3 h4 h5 h6 hv
  subst hv
  obtain ⟨W0, hW0⟩ : ∃ W0, W0 = w.alloc (.cells #[.int .i64 wh, .int .i64 id, .string kd, .slice av lv cv, .string nm, .int .i64 pt, .int .i64 pn, .string ps, .string bd, .int .i64 fr, .int .i64 tt] 42) := ⟨_, rfl⟩
  have hB0 : Below w.heap.size w W0 := by rw [hW0]; exact b_alloc (Below.refl _ _) _
  have n0 : W0.heap[w.heap.size]? = some (.cells #[.int .i64 wh, .int .i64 id, .string kd, .slice av lv cv, .string nm, .int .i64 pt, .int .i64 pn, .string ps, .string bd, .int .i64 fr, .int .i64 tt] 42 (0, 0)) := by rw [hW0]; exact heap_alloc_new w _
  have x0 : W0.cell? ⟨w.heap.size, 0, none⟩ = some (.int .i64 wh) := cell_at n0 rfl
  have k1 : (wh == 1) = false := by simpa using h1
  have k2 : (wh == 2) = false := by simpa using h2
  have k3 : (wh == 3) = false := by simpa using h3
  have k4 : (wh == 4) = false := by simpa using h4
  have k5 : (wh == 5) = false := by simpa using h5
  have k6 : (wh == 6) = false := by simpa using h6
  have HB : Hid (Below w.heap.size w W0) := hB0
  clear hG hB0 n0 he hR zo e1 h1 h2 h3 h4 h5 h6
  subst hW0
  go_enter Try.func18, Try.ntmps18
  go_wp2
  go_ret
  exact ⟨rfl, fun h => (by cases h), HB.out.mono hb⟩
/-- apply does what is told of every op. -/
theorem apply_all (o : Opx) : ApOk opS o := by
  by_cases h1 : o.wh = 1
  · exact apply_new o h1
  by_cases h2 : o.wh = 2
  · exact apply_gone' o h2
  by_cases h3 : o.wh = 3
  · exact apply_set o h3
  by_cases h4 : o.wh = 4
  · exact apply_unset o h4
  by_cases h5 : o.wh = 5
  · exact apply_bind o h5
  by_cases h6 : o.wh = 6
  · exact apply_loose o h6
  exact apply_other o h1 h2 h3 h4 h5 h6
end Go.Proofs.Ytidmfdbckpficaa
