/-
  What every op does, in plain words, and the walk of delta.apply: it does that.
-/
import Derived.Test.YtifhigajonafdaaGreatS13
import Derived.Test.YtifhigajonafdaaGreatS15
namespace Go.Proofs.YtifhigajonafdaaGreat
open Go.RowKit
set_option linter.unusedVariables false
set_option linter.unusedSimpArgs false

def rcAt (id : Int) (M : List Nd) : List Pr := match M[loN id M]? with
  | some n => n.rc
  | none => []
def putR (id : Int) (M : List Nd) (r : List Pr) : List Nd := match M[loN id M]? with
  | some n => M.set (loN id M) ⟨n.id, n.kd, .nilIface, r⟩
  | none => M
def opE (o : Opx) (M : List Nd) (T : List Te) : Int :=
  if o.wh = 1 then newE o.nd M else if o.wh = 2 then goneE o.nd.id M
  else if o.wh = 3 then (if fndN o.nd.id M = true then rsErr o.pr (rcAt o.nd.id M) else 5)
  else if o.wh = 4 then (if fndN o.nd.id M = true then unE o.pr.nm.toList (rcAt o.nd.id M) else 5)
  else if o.wh = 5 then bindE o.te T else if o.wh = 6 then (if fndT o.te T = true then 0 else 5) else 1
def opM (o : Opx) (M : List Nd) (T : List Te) : List Nd :=
  if o.wh = 1 then newM o.nd M else if o.wh = 2 then M.eraseIdx (loN o.nd.id M)
  else if o.wh = 3 then putR o.nd.id M (ins o.pr (rcAt o.nd.id M))
  else if o.wh = 4 then putR o.nd.id M (unL o.pr.nm.toList (rcAt o.nd.id M)) else M
def opT (o : Opx) (M : List Nd) (T : List Te) : List Te :=
  if o.wh = 2 then T.filter (keepT o.nd.id) else if o.wh = 5 then bindT o.te T else if o.wh = 6 then T.eraseIdx (loT o.te T) else T
def opS : OpS := ⟨opE, opM, opT⟩

theorem rc_c {id : Int} {N : List Nd} {n : Nd} (hn : N[loN id N]? = some n) : rcAt id (cN N) = n.rc ∧ ∀ r, putR id (cN N) r = (cN N).set (loN id N) ⟨n.id, n.kd, .nilIface, r⟩ := by
  have h : (cN N)[loN id N]? = some n.c := by unfold cN; rw [List.getElem?_map, hn]; rfl
  refine ⟨?_, fun r => ?_⟩
  · unfold rcAt; rw [loN_c, h]; rfl
  · unfold putR; rw [loN_c, h]; rfl
theorem newE_c (n : Nd) (N : List Nd) : newE n (cN N) = newE n N := by unfold newE; rw [fndN_c, cN_len]

set_option maxHeartbeats 1000000 in
theorem apply_new (o : Opx) (ho : o.wh = 1) : ApOk opS o := by
  intro w base p N T hG hb he hR zo
  obtain ⟨l60, l120, _, hct⟩ := gErr_lens he
  have hs := gErr_srt he
  have hst : SrtT T := ((chkT_iff T none).1 hct).2.1
  have hrc := fun n hn => (chkN_rc N none (gErr_lens he).2.2.1 n hn).2.2
  obtain ⟨av, lv, cv, hv⟩ := hR.sl
  obtain ⟨wh, ⟨id, kd, rv, rc⟩, ⟨nm, pt, pn, ps⟩, ⟨bd, fr, tt⟩⟩ := o
  simp only at ho hv hR
  subst ho hv
  obtain ⟨W0, hW0⟩ : ∃ W0, W0 = w.alloc (.cells #[.int .i64 1, .int .i64 id, .string kd, .slice av lv cv, .string nm, .int .i64 pt, .int .i64 pn, .string ps, .string bd, .int .i64 fr, .int .i64 tt] 56) := ⟨_, rfl⟩
  have hB0 : Below w.heap.size w W0 := by rw [hW0]; exact b_alloc (Below.refl _ _) _
  have hG0 := hG.on hB0
  have n0 : W0.heap[w.heap.size]? = some (.cells #[.int .i64 1, .int .i64 id, .string kd, .slice av lv cv, .string nm, .int .i64 pt, .int .i64 pn, .string ps, .string bd, .int .i64 fr, .int .i64 tt] 56 (0, 0)) := by rw [hW0]; exact heap_alloc_new w _
  have hb0 : base ≤ W0.heap.size := Nat.le_trans hb hB0.size
  have x0 : W0.cell? ⟨w.heap.size, 0, none⟩ = some (.int .i64 1) := cell_at n0 rfl
  have x1 : W0.cell? ⟨w.heap.size, 1, none⟩ = some (.int .i64 id) := cell_at n0 rfl
  have x2 : W0.cell? ⟨w.heap.size, 2, none⟩ = some (.string kd) := cell_at n0 rfl
  have x3 : W0.cell? ⟨w.heap.size, 3, none⟩ = some (.slice av lv cv) := cell_at n0 rfl
  have x8 : W0.cell? ⟨w.heap.size, 8, none⟩ = some (.string bd) := cell_at n0 rfl
  have x9 : W0.cell? ⟨w.heap.size, 9, none⟩ = some (.int .i64 fr) := cell_at n0 rfl
  have x10 : W0.cell? ⟨w.heap.size, 10, none⟩ = some (.int .i64 tt) := cell_at n0 rfl
  have cD := addNode_any hG0 hb0 hs l60 ⟨id, kd, .slice av lv cv, rc⟩ (hR.on hB0) zo.1
  show Calls Tryz.prog 51 _ w fun e w' => e = .returned (errV (newE ⟨id, kd, .slice av lv cv, rc⟩ (cN N))) ∧ (newE ⟨id, kd, .slice av lv cv, rc⟩ (cN N) = 0 → ∃ N', cN N' = newM ⟨id, kd, .slice av lv cv, rc⟩ (cN N) ∧ OG w' base p N' T) ∧ Below base w w'
  rw [newE_c]
  generalize newM ⟨id, kd, .slice av lv cv, rc⟩ (cN N) = NM at *
  generalize newE ⟨id, kd, .slice av lv cv, rc⟩ N = z at *
  generalize hEz : errV z = E at *
  have HB : Hid (Below w.heap.size w W0) := hB0
  clear hG0 hG hB0 n0 hs hst he hR hrc zo
  subst hW0
  go_enter Tryz.func51, Tryz.ntmps51
  go_wp2_with (first | (go_at_call 77; refine cD.mono ?_; rintro e W2 ⟨rfl, hG2, hB2⟩))
  go_ret
  exact ⟨rfl, hG2, (HB.out.mono hb).trans hB2⟩

theorem apply_gone' (o : Opx) (ho : o.wh = 2) : ApOk opS o := fun w base p N T hG hb he hR _ => by
  have := apply_gone o ho w base p N T hG hb he hR
  have e1 : opS.e o (cN N) T = goneE o.nd.id (cN N) := by show opE o (cN N) T = _; unfold opE; rw [if_neg (by omega), if_pos ho]
  have e2 : opS.m o (cN N) T = (cN N).eraseIdx (loN o.nd.id (cN N)) := by show opM o (cN N) T = _; unfold opM; rw [if_neg (by omega), if_pos ho]
  have e3 : opS.t o (cN N) T = T.filter (keepT o.nd.id) := by show opT o (cN N) T = _; unfold opT; rw [if_pos ho]
  rw [e1, e2, e3]
  exact this

set_option maxHeartbeats 1000000 in
theorem apply_set (o : Opx) (ho : o.wh = 3) : ApOk opS o := by
  intro w base p N T hG hb he hR zo
  obtain ⟨l60, l120, _, hct⟩ := gErr_lens he
  have hs := gErr_srt he
  have hst : SrtT T := ((chkT_iff T none).1 hct).2.1
  have hrc := fun n hn => (chkN_rc N none (gErr_lens he).2.2.1 n hn).2.2
  obtain ⟨av, lv, cv, hv⟩ := hR.sl
  obtain ⟨wh, ⟨id, kd, rv, rc⟩, ⟨nm, pt, pn, ps⟩, ⟨bd, fr, tt⟩⟩ := o
  simp only at ho hv hR
  subst ho hv
  obtain ⟨W0, hW0⟩ : ∃ W0, W0 = w.alloc (.cells #[.int .i64 3, .int .i64 id, .string kd, .slice av lv cv, .string nm, .int .i64 pt, .int .i64 pn, .string ps, .string bd, .int .i64 fr, .int .i64 tt] 56) := ⟨_, rfl⟩
  have hB0 : Below w.heap.size w W0 := by rw [hW0]; exact b_alloc (Below.refl _ _) _
  have hG0 := hG.on hB0
  have n0 : W0.heap[w.heap.size]? = some (.cells #[.int .i64 3, .int .i64 id, .string kd, .slice av lv cv, .string nm, .int .i64 pt, .int .i64 pn, .string ps, .string bd, .int .i64 fr, .int .i64 tt] 56 (0, 0)) := by rw [hW0]; exact heap_alloc_new w _
  have hb0 : base ≤ W0.heap.size := Nat.le_trans hb hB0.size
  have x0 : W0.cell? ⟨w.heap.size, 0, none⟩ = some (.int .i64 3) := cell_at n0 rfl
  have x1 : W0.cell? ⟨w.heap.size, 1, none⟩ = some (.int .i64 id) := cell_at n0 rfl
  have x2 : W0.cell? ⟨w.heap.size, 2, none⟩ = some (.string kd) := cell_at n0 rfl
  have x3 : W0.cell? ⟨w.heap.size, 3, none⟩ = some (.slice av lv cv) := cell_at n0 rfl
  have x8 : W0.cell? ⟨w.heap.size, 8, none⟩ = some (.string bd) := cell_at n0 rfl
  have x9 : W0.cell? ⟨w.heap.size, 9, none⟩ = some (.int .i64 fr) := cell_at n0 rfl
  have x10 : W0.cell? ⟨w.heap.size, 10, none⟩ = some (.int .i64 tt) := cell_at n0 rfl
  cases hf : fndN id N with
  | false =>
    have cD := change_no hG0 hs (by omega) id 80 w.heap.size hf
    have e1 : opS.e ⟨3, ⟨id, kd, .slice av lv cv, rc⟩, ⟨nm, pt, pn, ps⟩, ⟨bd, fr, tt⟩⟩ (cN N) T = 5 := by show (if fndN id (cN N) = true then _ else (5 : Int)) = 5; rw [fndN_c, hf]; rfl
    rw [e1, show errV 5 = .iface 74 (.int .i64 5) from rfl]
    have HB : Hid (Below w.heap.size w W0) := hB0
    clear hG0 hG hB0 n0 hs hst he hR hrc zo hf e1
    subst hW0
    go_enter Tryz.func51, Tryz.ntmps51
    go_wp2_with (first | (go_at_call 79; refine cD.mono ?_; rintro e W2 ⟨rfl, hB2⟩))
    go_ret
    exact ⟨rfl, fun h => (by cases h), (on1K HB.out hB2 (Nat.le_refl _)).mono hb⟩
  | true =>
    obtain ⟨n, hn⟩ : ∃ n, N[loN id N]? = some n := ⟨N[loN id N]'(fndN_lt hf), by simp [fndN_lt hf]⟩
    have hnm := List.mem_of_getElem? hn
    obtain ⟨c1, c2⟩ := rc_c hn
    have hO : OwnRc W0 base n.rv n.rc := by
      obtain ⟨_, _, _, _, hN, _⟩ := hG0
      exact hN.2 n hnm
    have hz8 : Sz n.rc := sz_of (hrc n hnm)
    have hch : ChP 80 w.heap.size n.rv (rsErr ⟨nm, pt, pn, ps⟩ n.rc) (ins ⟨nm, pt, pn, ps⟩ n.rc) W0 := ap1_any (o := ⟨3, ⟨id, kd, .slice av lv cv, rc⟩, ⟨nm, pt, pn, ps⟩, ⟨bd, fr, tt⟩⟩) n0 hO hz8 (hrc n hnm) (fun x hx => by simp at hx; subst hx; exact zo.2.1)
    have cD := change67_yes hG0 hb0 hs (by omega) id w.heap.size hf hn hch
    have e1 : opS.e ⟨3, ⟨id, kd, .slice av lv cv, rc⟩, ⟨nm, pt, pn, ps⟩, ⟨bd, fr, tt⟩⟩ (cN N) T = rsErr ⟨nm, pt, pn, ps⟩ n.rc := by show (if fndN id (cN N) = true then _ else (5 : Int)) = _; rw [fndN_c, hf, c1]; rfl
    have e2 : opS.m ⟨3, ⟨id, kd, .slice av lv cv, rc⟩, ⟨nm, pt, pn, ps⟩, ⟨bd, fr, tt⟩⟩ (cN N) T = (cN N).set (loN id N) ⟨n.id, n.kd, .nilIface, ins ⟨nm, pt, pn, ps⟩ n.rc⟩ := by show putR id (cN N) _ = _; rw [c2, c1]
    have e3 : opS.t ⟨3, ⟨id, kd, .slice av lv cv, rc⟩, ⟨nm, pt, pn, ps⟩, ⟨bd, fr, tt⟩⟩ (cN N) T = T := rfl
    rw [e1, e2, e3]
    generalize (cN N).set (loN id N) ⟨n.id, n.kd, .nilIface, ins ⟨nm, pt, pn, ps⟩ n.rc⟩ = NM at *
    generalize rsErr ⟨nm, pt, pn, ps⟩ n.rc = z at *
    generalize hEz : errV z = E at *
    have HB : Hid (Below w.heap.size w W0) := hB0
    clear hG0 hG hB0 n0 hs hst he hR hrc zo hf e1 e2 e3 hch hz8 hO c1 c2 hn hnm
    subst hW0
    go_enter Tryz.func51, Tryz.ntmps51
    go_wp2_with (first | (go_at_call 79; refine cD.mono ?_; rintro e W2 ⟨rfl, hG2, hB2⟩))
    go_ret
    exact ⟨rfl, hG2, (HB.out.mono hb).trans hB2⟩

set_option maxHeartbeats 1000000 in
theorem apply_unset (o : Opx) (ho : o.wh = 4) : ApOk opS o := by
  intro w base p N T hG hb he hR zo
  obtain ⟨l60, l120, _, hct⟩ := gErr_lens he
  have hs := gErr_srt he
  have hst : SrtT T := ((chkT_iff T none).1 hct).2.1
  have hrc := fun n hn => (chkN_rc N none (gErr_lens he).2.2.1 n hn).2.2
  obtain ⟨av, lv, cv, hv⟩ := hR.sl
  obtain ⟨wh, ⟨id, kd, rv, rc⟩, ⟨nm, pt, pn, ps⟩, ⟨bd, fr, tt⟩⟩ := o
  simp only at ho hv hR
  subst ho hv
  obtain ⟨W0, hW0⟩ : ∃ W0, W0 = w.alloc (.cells #[.int .i64 4, .int .i64 id, .string kd, .slice av lv cv, .string nm, .int .i64 pt, .int .i64 pn, .string ps, .string bd, .int .i64 fr, .int .i64 tt] 56) := ⟨_, rfl⟩
  have hB0 : Below w.heap.size w W0 := by rw [hW0]; exact b_alloc (Below.refl _ _) _
  have hG0 := hG.on hB0
  have n0 : W0.heap[w.heap.size]? = some (.cells #[.int .i64 4, .int .i64 id, .string kd, .slice av lv cv, .string nm, .int .i64 pt, .int .i64 pn, .string ps, .string bd, .int .i64 fr, .int .i64 tt] 56 (0, 0)) := by rw [hW0]; exact heap_alloc_new w _
  have hb0 : base ≤ W0.heap.size := Nat.le_trans hb hB0.size
  have x0 : W0.cell? ⟨w.heap.size, 0, none⟩ = some (.int .i64 4) := cell_at n0 rfl
  have x1 : W0.cell? ⟨w.heap.size, 1, none⟩ = some (.int .i64 id) := cell_at n0 rfl
  have x2 : W0.cell? ⟨w.heap.size, 2, none⟩ = some (.string kd) := cell_at n0 rfl
  have x3 : W0.cell? ⟨w.heap.size, 3, none⟩ = some (.slice av lv cv) := cell_at n0 rfl
  have x8 : W0.cell? ⟨w.heap.size, 8, none⟩ = some (.string bd) := cell_at n0 rfl
  have x9 : W0.cell? ⟨w.heap.size, 9, none⟩ = some (.int .i64 fr) := cell_at n0 rfl
  have x10 : W0.cell? ⟨w.heap.size, 10, none⟩ = some (.int .i64 tt) := cell_at n0 rfl
  cases hf : fndN id N with
  | false =>
    have cD := change_no hG0 hs (by omega) id 82 w.heap.size hf
    have e1 : opS.e ⟨4, ⟨id, kd, .slice av lv cv, rc⟩, ⟨nm, pt, pn, ps⟩, ⟨bd, fr, tt⟩⟩ (cN N) T = 5 := by show (if fndN id (cN N) = true then _ else (5 : Int)) = 5; rw [fndN_c, hf]; rfl
    rw [e1, show errV 5 = .iface 74 (.int .i64 5) from rfl]
    have HB : Hid (Below w.heap.size w W0) := hB0
    clear hG0 hG hB0 n0 hs hst he hR hrc zo hf e1
    subst hW0
    go_enter Tryz.func51, Tryz.ntmps51
    go_wp2_with (first | (go_at_call 79; refine cD.mono ?_; rintro e W2 ⟨rfl, hB2⟩))
    go_ret
    exact ⟨rfl, fun h => (by cases h), (on1K HB.out hB2 (Nat.le_refl _)).mono hb⟩
  | true =>
    obtain ⟨n, hn⟩ : ∃ n, N[loN id N]? = some n := ⟨N[loN id N]'(fndN_lt hf), by simp [fndN_lt hf]⟩
    have hnm := List.mem_of_getElem? hn
    obtain ⟨c1, c2⟩ := rc_c hn
    have hO : OwnRc W0 base n.rv n.rc := by
      obtain ⟨_, _, _, _, hN, _⟩ := hG0
      exact hN.2 n hnm
    have hz8 : Sz n.rc := sz_of (hrc n hnm)
    have hch : ChP 82 w.heap.size n.rv (unE nm.toList n.rc) (unL nm.toList n.rc) W0 := ap2_any (o := ⟨4, ⟨id, kd, .slice av lv cv, rc⟩, ⟨nm, pt, pn, ps⟩, ⟨bd, fr, tt⟩⟩) n0 hO hz8 (hrc n hnm)
    have cD := change69_yes hG0 hb0 hs (by omega) id w.heap.size hf hn hch
    have e1 : opS.e ⟨4, ⟨id, kd, .slice av lv cv, rc⟩, ⟨nm, pt, pn, ps⟩, ⟨bd, fr, tt⟩⟩ (cN N) T = unE nm.toList n.rc := by show (if fndN id (cN N) = true then _ else (5 : Int)) = _; rw [fndN_c, hf, c1]; rfl
    have e2 : opS.m ⟨4, ⟨id, kd, .slice av lv cv, rc⟩, ⟨nm, pt, pn, ps⟩, ⟨bd, fr, tt⟩⟩ (cN N) T = (cN N).set (loN id N) ⟨n.id, n.kd, .nilIface, unL nm.toList n.rc⟩ := by show putR id (cN N) _ = _; rw [c2, c1]
    have e3 : opS.t ⟨4, ⟨id, kd, .slice av lv cv, rc⟩, ⟨nm, pt, pn, ps⟩, ⟨bd, fr, tt⟩⟩ (cN N) T = T := rfl
    rw [e1, e2, e3]
    generalize (cN N).set (loN id N) ⟨n.id, n.kd, .nilIface, unL nm.toList n.rc⟩ = NM at *
    generalize unE nm.toList n.rc = z at *
    generalize hEz : errV z = E at *
    have HB : Hid (Below w.heap.size w W0) := hB0
    clear hG0 hG hB0 n0 hs hst he hR hrc zo hf e1 e2 e3 hch hz8 hO c1 c2 hn hnm
    subst hW0
    go_enter Tryz.func51, Tryz.ntmps51
    go_wp2_with (first | (go_at_call 79; refine cD.mono ?_; rintro e W2 ⟨rfl, hG2, hB2⟩))
    go_ret
    exact ⟨rfl, hG2, (HB.out.mono hb).trans hB2⟩

set_option maxHeartbeats 1000000 in
theorem apply_bind (o : Opx) (ho : o.wh = 5) : ApOk opS o := by
  intro w base p N T hG hb he hR zo
  obtain ⟨l60, l120, _, hct⟩ := gErr_lens he
  have hs := gErr_srt he
  have hst : SrtT T := ((chkT_iff T none).1 hct).2.1
  have hrc := fun n hn => (chkN_rc N none (gErr_lens he).2.2.1 n hn).2.2
  obtain ⟨av, lv, cv, hv⟩ := hR.sl
  obtain ⟨wh, ⟨id, kd, rv, rc⟩, ⟨nm, pt, pn, ps⟩, ⟨bd, fr, tt⟩⟩ := o
  simp only at ho hv hR
  subst ho hv
  obtain ⟨W0, hW0⟩ : ∃ W0, W0 = w.alloc (.cells #[.int .i64 5, .int .i64 id, .string kd, .slice av lv cv, .string nm, .int .i64 pt, .int .i64 pn, .string ps, .string bd, .int .i64 fr, .int .i64 tt] 56) := ⟨_, rfl⟩
  have hB0 : Below w.heap.size w W0 := by rw [hW0]; exact b_alloc (Below.refl _ _) _
  have hG0 := hG.on hB0
  have n0 : W0.heap[w.heap.size]? = some (.cells #[.int .i64 5, .int .i64 id, .string kd, .slice av lv cv, .string nm, .int .i64 pt, .int .i64 pn, .string ps, .string bd, .int .i64 fr, .int .i64 tt] 56 (0, 0)) := by rw [hW0]; exact heap_alloc_new w _
  have hb0 : base ≤ W0.heap.size := Nat.le_trans hb hB0.size
  have x0 : W0.cell? ⟨w.heap.size, 0, none⟩ = some (.int .i64 5) := cell_at n0 rfl
  have x1 : W0.cell? ⟨w.heap.size, 1, none⟩ = some (.int .i64 id) := cell_at n0 rfl
  have x2 : W0.cell? ⟨w.heap.size, 2, none⟩ = some (.string kd) := cell_at n0 rfl
  have x3 : W0.cell? ⟨w.heap.size, 3, none⟩ = some (.slice av lv cv) := cell_at n0 rfl
  have x8 : W0.cell? ⟨w.heap.size, 8, none⟩ = some (.string bd) := cell_at n0 rfl
  have x9 : W0.cell? ⟨w.heap.size, 9, none⟩ = some (.int .i64 fr) := cell_at n0 rfl
  have x10 : W0.cell? ⟨w.heap.size, 10, none⟩ = some (.int .i64 tt) := cell_at n0 rfl
  have cD := addTie_any hG0 hb0 hst l120 ⟨bd, fr, tt⟩ zo.2.2
  show Calls Tryz.prog 51 _ w fun e w' => e = .returned (errV (bindE ⟨bd, fr, tt⟩ T)) ∧ (bindE ⟨bd, fr, tt⟩ T = 0 → ∃ N', cN N' = cN N ∧ OG w' base p N' (bindT ⟨bd, fr, tt⟩ T)) ∧ Below base w w'
  generalize bindT ⟨bd, fr, tt⟩ T = TT at *
  generalize bindE ⟨bd, fr, tt⟩ T = z at *
  generalize hEz : errV z = E at *
  have HB : Hid (Below w.heap.size w W0) := hB0
  clear hG0 hG hB0 n0 hs hst he hR hrc zo
  subst hW0
  go_enter Tryz.func51, Tryz.ntmps51
  go_wp2_with (first | (go_at_call 84; refine cD.mono ?_; rintro e W2 ⟨rfl, hG2, hB2⟩))
  go_ret
  exact ⟨rfl, fun h => ⟨N, rfl, hG2 h⟩, (HB.out.mono hb).trans hB2⟩

set_option maxHeartbeats 1000000 in
theorem apply_loose (o : Opx) (ho : o.wh = 6) : ApOk opS o := by
  intro w base p N T hG hb he hR zo
  obtain ⟨l60, l120, _, hct⟩ := gErr_lens he
  have hs := gErr_srt he
  have hst : SrtT T := ((chkT_iff T none).1 hct).2.1
  have hrc := fun n hn => (chkN_rc N none (gErr_lens he).2.2.1 n hn).2.2
  obtain ⟨av, lv, cv, hv⟩ := hR.sl
  obtain ⟨wh, ⟨id, kd, rv, rc⟩, ⟨nm, pt, pn, ps⟩, ⟨bd, fr, tt⟩⟩ := o
  simp only at ho hv hR
  subst ho hv
  obtain ⟨W0, hW0⟩ : ∃ W0, W0 = w.alloc (.cells #[.int .i64 6, .int .i64 id, .string kd, .slice av lv cv, .string nm, .int .i64 pt, .int .i64 pn, .string ps, .string bd, .int .i64 fr, .int .i64 tt] 56) := ⟨_, rfl⟩
  have hB0 : Below w.heap.size w W0 := by rw [hW0]; exact b_alloc (Below.refl _ _) _
  have hG0 := hG.on hB0
  have n0 : W0.heap[w.heap.size]? = some (.cells #[.int .i64 6, .int .i64 id, .string kd, .slice av lv cv, .string nm, .int .i64 pt, .int .i64 pn, .string ps, .string bd, .int .i64 fr, .int .i64 tt] 56 (0, 0)) := by rw [hW0]; exact heap_alloc_new w _
  have hb0 : base ≤ W0.heap.size := Nat.le_trans hb hB0.size
  have x0 : W0.cell? ⟨w.heap.size, 0, none⟩ = some (.int .i64 6) := cell_at n0 rfl
  have x1 : W0.cell? ⟨w.heap.size, 1, none⟩ = some (.int .i64 id) := cell_at n0 rfl
  have x2 : W0.cell? ⟨w.heap.size, 2, none⟩ = some (.string kd) := cell_at n0 rfl
  have x3 : W0.cell? ⟨w.heap.size, 3, none⟩ = some (.slice av lv cv) := cell_at n0 rfl
  have x8 : W0.cell? ⟨w.heap.size, 8, none⟩ = some (.string bd) := cell_at n0 rfl
  have x9 : W0.cell? ⟨w.heap.size, 9, none⟩ = some (.int .i64 fr) := cell_at n0 rfl
  have x10 : W0.cell? ⟨w.heap.size, 10, none⟩ = some (.int .i64 tt) := cell_at n0 rfl
  have cD := dropTie_any hG0 hb0 hst (by omega) ⟨bd, fr, tt⟩
  show Calls Tryz.prog 51 _ w fun e w' => e = .returned (errV (if fndT ⟨bd, fr, tt⟩ T = true then 0 else 5)) ∧ ((if fndT ⟨bd, fr, tt⟩ T = true then (0 : Int) else 5) = 0 → ∃ N', cN N' = cN N ∧ OG w' base p N' (T.eraseIdx (loT ⟨bd, fr, tt⟩ T))) ∧ Below base w w'
  have hfd : (if fndT ⟨bd, fr, tt⟩ T = true then (0 : Int) else 5) = 0 → fndT ⟨bd, fr, tt⟩ T = true := fun h => by
    by_cases e : fndT ⟨bd, fr, tt⟩ T = true
    · exact e
    · rw [if_neg e] at h; cases h
  generalize T.eraseIdx (loT ⟨bd, fr, tt⟩ T) = TT at *
  generalize (if fndT ⟨bd, fr, tt⟩ T = true then (0 : Int) else 5) = z at *
  generalize hEz : errV z = E at *
  have HFD := Lib.hid hfd
  clear hfd
  have HB : Hid (Below w.heap.size w W0) := hB0
  clear hG0 hG hB0 n0 hs hst he hR hrc zo
  subst hW0
  go_enter Tryz.func51, Tryz.ntmps51
  go_wp2_with (first | (go_at_call 85; refine cD.mono ?_; rintro e W2 ⟨rfl, hG2, hB2⟩))
  go_ret
  exact ⟨rfl, fun h => ⟨N, rfl, hG2 (HFD.out h)⟩, (HB.out.mono hb).trans hB2⟩

set_option maxHeartbeats 1000000 in
theorem apply_other (o : Opx) (h1 : ¬ o.wh = 1) (h2 : ¬ o.wh = 2) (h3 : ¬ o.wh = 3) (h4 : ¬ o.wh = 4) (h5 : ¬ o.wh = 5) (h6 : ¬ o.wh = 6) : ApOk opS o := by
  intro w base p N T hG hb he hR zo
  have e1 : opS.e o (cN N) T = 1 := by show opE o (cN N) T = 1; unfold opE; rw [if_neg h1, if_neg h2, if_neg h3, if_neg h4, if_neg h5, if_neg h6]
  rw [e1, show errV 1 = .iface 74 (.int .i64 1) from rfl]
  obtain ⟨av, lv, cv, hv⟩ := hR.sl
  obtain ⟨wh, ⟨id, kd, rv, rc⟩, ⟨nm, pt, pn, ps⟩, ⟨bd, fr, tt⟩⟩ := o
  simp only at h1 h2 h3 h4 h5 h6 hv
  subst hv
  obtain ⟨W0, hW0⟩ : ∃ W0, W0 = w.alloc (.cells #[.int .i64 wh, .int .i64 id, .string kd, .slice av lv cv, .string nm, .int .i64 pt, .int .i64 pn, .string ps, .string bd, .int .i64 fr, .int .i64 tt] 56) := ⟨_, rfl⟩
  have hB0 : Below w.heap.size w W0 := by rw [hW0]; exact b_alloc (Below.refl _ _) _
  have n0 : W0.heap[w.heap.size]? = some (.cells #[.int .i64 wh, .int .i64 id, .string kd, .slice av lv cv, .string nm, .int .i64 pt, .int .i64 pn, .string ps, .string bd, .int .i64 fr, .int .i64 tt] 56 (0, 0)) := by rw [hW0]; exact heap_alloc_new w _
  have x0 : W0.cell? ⟨w.heap.size, 0, none⟩ = some (.int .i64 wh) := cell_at n0 rfl
  have k1 : (wh == 1) = false := by simpa using h1
  have k2 : (wh == 2) = false := by simpa using h2
  have k3 : (wh == 3) = false := by simpa using h3
  have k4 : (wh == 4) = false := by simpa using h4
  have k5 : (wh == 5) = false := by simpa using h5
  have k6 : (wh == 6) = false := by simpa using h6
  have HB : Hid (Below w.heap.size w W0) := hB0
  clear hG hB0 n0 he hR zo e1 h1 h2 h3 h4 h5 h6
  subst hW0
  go_enter Tryz.func51, Tryz.ntmps51
  go_wp2
  go_ret
  exact ⟨rfl, fun h => (by cases h), HB.out.mono hb⟩
theorem apply_all (o : Opx) : ApOk opS o := by
  by_cases h1 : o.wh = 1
  · exact apply_new o h1
  by_cases h2 : o.wh = 2
  · exact apply_gone' o h2
  by_cases h3 : o.wh = 3
  · exact apply_set o h3
  by_cases h4 : o.wh = 4
  · exact apply_unset o h4
  by_cases h5 : o.wh = 5
  · exact apply_bind o h5
  by_cases h6 : o.wh = 6
  · exact apply_loose o h6
  exact apply_other o h1 h2 h3 h4 h5 h6
end Go.Proofs.YtifhigajonafdaaGreat

/-
  Every op leaves a graph right that was right.
-/
namespace Go.Proofs.YtifhigajonafdaaGreat
open Go.RowKit
set_option linter.unusedVariables false
set_option linter.unusedSimpArgs false

theorem ndE_iff (n : Nd) : ndE none n = 0 ↔ idOk n.id = true ∧ nErr n.kd.data.toList = 0 ∧ rErr n.rc = 0 := by
  unfold ndE
  rw [if_neg (show ¬ n.low none = true by simp [Nd.low])]
  by_cases a : idOk n.id = true
  · rw [if_pos a]
    by_cases b : nErr n.kd.data.toList = 0
    · rw [if_pos b]; exact ⟨fun h => ⟨a, b, h⟩, fun h => h.2.2⟩
    · rw [if_neg b]; exact ⟨fun h => absurd h b, fun h => absurd h.2.1 b⟩
  · rw [if_neg a]; exact ⟨fun h => by omega, fun h => absurd h.1 a⟩
theorem lo_take {id : Int} {M : List Nd} (h : SrtN M) {x : Nd} (hx : x ∈ M.take (loN id M)) : x.id < id := by
  obtain ⟨i, hi⟩ := List.getElem?_of_mem hx
  have hl := (List.getElem?_eq_some_iff.1 hi).1
  rw [List.length_take] at hl
  rw [List.getElem?_take] at hi
  split at hi
  · exact (loN_spec id h i x hi).1 (by omega)
  · cases hi
theorem lo_drop {id : Int} {M : List Nd} (h : SrtN M) {x : Nd} (hx : x ∈ M.drop (loN id M)) : id ≤ x.id := by
  obtain ⟨i, hi⟩ := List.getElem?_of_mem hx
  rw [List.getElem?_drop] at hi
  have := loN_spec id h _ x hi
  have h2 : ¬ x.id < id := fun h => absurd (this.2 h) (by omega)
  omega
theorem fnd_iff {id : Int} {M : List Nd} (h : SrtN M) : fndN id M = true ↔ ∃ n ∈ M, n.id = id := by
  constructor
  · intro hf
    have hl := fndN_lt hf
    refine ⟨M[loN id M], List.getElem_mem hl, ?_⟩
    unfold fndN at hf
    rw [List.getElem?_eq_getElem hl] at hf
    simpa using hf
  · rintro ⟨n, hn, rfl⟩
    obtain ⟨i, hi⟩ := List.getElem?_of_mem hn
    have h1 : ¬ i < loN n.id M := fun h' => absurd ((loN_spec n.id h i n hi).1 h') (Int.lt_irrefl _)
    have hil := (List.getElem?_eq_some_iff.1 hi).1
    have h2 : i = loN n.id M := by
      rcases Nat.lt_or_ge (loN n.id M) i with h3 | h3
      · exfalso
        have hlt : loN n.id M < M.length := by omega
        obtain ⟨h4, h5⟩ := List.getElem?_eq_some_iff.1 hi
        have h6 : (M[loN n.id M]).id < (M[i]).id := List.pairwise_iff_getElem.1 h _ _ hlt hil h3
        rw [h5] at h6
        have := (loN_spec n.id h (loN n.id M) _ (List.getElem?_eq_getElem hlt)).2 h6
        omega
      · omega
    unfold fndN
    rw [← h2, hi]
    simp
theorem srt_ins {M : List Nd} {n : Nd} (h : SrtN M) (hf : fndN n.id M = false) : SrtN (M.take (loN n.id M) ++ n :: M.drop (loN n.id M)) := by
  have hne : ∀ x ∈ M, x.id ≠ n.id := fun x hx e => by
    have := (fnd_iff h).2 ⟨x, hx, e⟩
    rw [hf] at this; cases this
  have hs : (M.take (loN n.id M) ++ M.drop (loN n.id M)).Pairwise fun a b => a.id < b.id := by rw [List.take_append_drop]; exact h
  obtain ⟨a1, a2, a3⟩ := List.pairwise_append.1 hs
  refine List.pairwise_append.2 ⟨a1, List.pairwise_cons.2 ⟨fun x hx => ?_, a2⟩, fun x hx y hy => ?_⟩
  · have := lo_drop h hx
    have := hne x (List.mem_of_mem_drop hx)
    omega
  · rcases List.mem_cons.1 hy with rfl | hy
    · exact lo_take h hx
    · exact a3 x hx y hy
theorem loT_take {t : Te} {T : List Te} (h : SrtT T) {x : Te} (hx : x ∈ T.take (loT t T)) : tCmp x t < 0 := by
  obtain ⟨i, hi⟩ := List.getElem?_of_mem hx
  have hl := (List.getElem?_eq_some_iff.1 hi).1
  rw [List.length_take] at hl
  rw [List.getElem?_take] at hi
  split at hi
  · exact (loT_spec t h i x hi).1 (by omega)
  · cases hi
theorem loT_drop {t : Te} {T : List Te} (h : SrtT T) {x : Te} (hx : x ∈ T.drop (loT t T)) : ¬ tCmp x t < 0 := by
  obtain ⟨i, hi⟩ := List.getElem?_of_mem hx
  rw [List.getElem?_drop] at hi
  exact fun h' => absurd ((loT_spec t h _ x hi).2 h') (by omega)
theorem fndT_iff {t : Te} {T : List Te} (h : SrtT T) : fndT t T = true ↔ t ∈ T := by
  constructor
  · intro hf
    have hl := fndT_lt hf
    unfold fndT at hf
    rw [List.getElem?_eq_getElem hl] at hf
    have := (tCmp_zero _ _).1 (by simpa using hf)
    rw [← this]
    exact List.getElem_mem hl
  · intro hn
    obtain ⟨i, hi⟩ := List.getElem?_of_mem hn
    have hz : tCmp t t = 0 := (tCmp_zero t t).2 rfl
    have h1 : ¬ i < loT t T := fun h' => by have := (loT_spec t h i t hi).1 h'; omega
    have hil := (List.getElem?_eq_some_iff.1 hi).1
    have h2 : i = loT t T := by
      rcases Nat.lt_or_ge (loT t T) i with h3 | h3
      · exfalso
        have hlt : loT t T < T.length := by omega
        obtain ⟨h4, h5⟩ := List.getElem?_eq_some_iff.1 hi
        have h6 : tCmp (T[loT t T]) (T[i]) < 0 := List.pairwise_iff_getElem.1 h _ _ hlt hil h3
        rw [h5] at h6
        have := (loT_spec t h (loT t T) _ (List.getElem?_eq_getElem hlt)).2 h6
        omega
      · omega
    unfold fndT
    rw [← h2, hi]
    simp [hz]
theorem srtT_ins {T : List Te} {t : Te} (h : SrtT T) (hf : fndT t T = false) : SrtT (bindT t T) := by
  have hne : t ∉ T := fun hx => by
    have := (fndT_iff h).2 hx
    rw [hf] at this; cases this
  have hs : (T.take (loT t T) ++ T.drop (loT t T)).Pairwise fun a b => tCmp a b < 0 := by rw [List.take_append_drop]; exact h
  obtain ⟨a1, a2, a3⟩ := List.pairwise_append.1 hs
  refine List.pairwise_append.2 ⟨a1, List.pairwise_cons.2 ⟨fun x hx => ?_, a2⟩, fun x hx y hy => ?_⟩
  · have h1 := loT_drop h hx
    have h2 : ¬ tCmp x t = 0 := fun e => hne (by rw [← (tCmp_zero _ _).1 e]; exact List.mem_of_mem_drop hx)
    have := tCmp_anti x t
    omega
  · rcases List.mem_cons.1 hy with rfl | hy
    · exact loT_take h hx
    · exact a3 x hx y hy
theorem put_mem {id : Int} {M : List Nd} {r : List Pr} {x : Nd} (hx : x ∈ putR id M r) : x ∈ M ∨ ∃ n ∈ M, x = ⟨n.id, n.kd, .nilIface, r⟩ := by
  unfold putR at hx
  cases h : M[loN id M]? with
  | none => rw [h] at hx; exact .inl hx
  | some n =>
    rw [h] at hx
    rcases List.mem_or_eq_of_mem_set hx with h1 | h1
    · exact .inl h1
    · exact .inr ⟨n, List.mem_of_getElem? h, h1⟩
theorem put_ids (id : Int) (M : List Nd) (r : List Pr) : (putR id M r).map (·.id) = M.map (·.id) := by
  unfold putR
  cases h : M[loN id M]? with
  | none => rfl
  | some n =>
    simp only
    rw [List.map_set]
    exact set_same (by rw [List.getElem?_map, h]; rfl)
theorem srt_ids {M M' : List Nd} (h : SrtN M) (he : M'.map (·.id) = M.map (·.id)) : SrtN M' := by
  have h1 : (M.map (·.id)).Pairwise (· < ·) := List.pairwise_map.2 h
  rw [← he] at h1
  exact List.pairwise_map.1 h1
theorem rcAt_mem {id : Int} {M : List Nd} (hf : fndN id M = true) : ∃ n ∈ M, rcAt id M = n.rc := by
  have hl := fndN_lt hf
  refine ⟨M[loN id M], List.getElem_mem hl, ?_⟩
  unfold rcAt
  rw [List.getElem?_eq_getElem hl]
theorem un_sub (nm : List UInt8) (L : List Pr) : List.Sublist (unL nm L) L := by
  unfold unL
  have : L.take (idxP nm L 0).toNat ++ L.drop ((idxP nm L 0).toNat + 1) = L.eraseIdx (idxP nm L 0).toNat := (List.eraseIdx_eq_take_drop_succ ..).symm
  rw [this]
  exact List.eraseIdx_sublist _ _
theorem rErr_sub {L L' : List Pr} (h : rErr L = 0) (hs : List.Sublist L' L) : rErr L' = 0 := by
  obtain ⟨⟨h1, h2⟩, h3⟩ := (rErr_srt L).1 h
  exact (rErr_srt L').2 ⟨⟨fun p hp => h1 p (hs.mem hp), h2.sublist hs⟩, Nat.le_trans hs.length_le h3⟩
theorem gErr_put {id : Int} {M : List Nd} {T : List Te} {r : List Pr} (h : gErr M T = 0) (hr : rErr r = 0) : gErr (putR id M r) T = 0 := by
  obtain ⟨⟨h1, a1, a2⟩, hT⟩ := (gErr_iff M T).1 h
  refine (gErr_iff _ T).2 ⟨⟨?_, srt_ids a1 (put_ids id M r), fun x hx => ?_⟩, hT⟩
  · have := congrArg List.length (put_ids id M r)
    simp only [List.length_map] at this
    omega
  · rcases put_mem hx with h' | ⟨n, hn, rfl⟩
    · exact a2 x h'
    · obtain ⟨b1, b2, _⟩ := (ndE_iff n).1 (a2 n hn)
      exact (ndE_iff _).2 ⟨b1, b2, hr⟩
theorem sErr_zero {p : Pr} {L : List Pr} (h : rsErr p L = 0) : rErr L = 0 ∧ rErr [p] = 0 ∧ (ins p L).length ≤ 8 := by
  unfold rsErr at h
  by_cases h1 : rErr L = 0
  · rw [if_pos h1] at h
    by_cases h2 : rErr [p] = 0
    · rw [if_pos h2] at h
      by_cases h3 : 8 < (ins p L).length
      · rw [if_pos h3] at h; omega
      · exact ⟨h1, h2, by omega⟩
    · rw [if_neg h2] at h; exact absurd h h2
  · rw [if_neg h1] at h; exact absurd h h1
theorem one_ok {p : Pr} (h : rErr [p] = 0) : p.ok := ((rErr_srt [p]).1 h).1.1 p (by simp)
theorem sErr_ins {p : Pr} {L : List Pr} (h : rsErr p L = 0) : rErr (ins p L) = 0 := by
  obtain ⟨h1, h2, h3⟩ := sErr_zero h
  exact (rErr_srt _).2 ⟨ins_srt ((rErr_srt L).1 h1).1 (one_ok h2), h3⟩
theorem gErr_one {n : Nd} (h : gErr [n] [] = 0) : ndE none n = 0 := ((gErr_iff _ _).1 h).1.2.2 n (by simp)
theorem gErr_oneT {t : Te} (h : gErr [] [t] = 0) : teE none t = 0 := ((gErr_iff _ _).1 h).2.2.2 t (by simp)
theorem newE_zero {n : Nd} {M : List Nd} (h : newE n M = 0) : gErr [n] [] = 0 ∧ fndN n.id M = false ∧ ¬ M.length = 60 := by
  unfold newE at h
  by_cases h1 : gErr [n] [] = 0
  · rw [if_pos h1] at h
    by_cases h2 : fndN n.id M = true
    · rw [if_pos h2] at h; omega
    · rw [if_neg h2] at h
      by_cases h3 : M.length = 60
      · rw [if_pos h3] at h; omega
      · exact ⟨h1, by simpa using h2, h3⟩
  · rw [if_neg h1] at h; exact absurd h h1
theorem bindE_zero {t : Te} {T : List Te} (h : bindE t T = 0) : gErr [] [t] = 0 ∧ fndT t T = false ∧ ¬ T.length = 120 := by
  unfold bindE at h
  by_cases h1 : gErr [] [t] = 0
  · rw [if_pos h1] at h
    by_cases h2 : fndT t T = true
    · rw [if_pos h2] at h; omega
    · rw [if_neg h2] at h
      by_cases h3 : T.length = 120
      · rw [if_pos h3] at h; omega
      · exact ⟨h1, by simpa using h2, h3⟩
  · rw [if_neg h1] at h; exact absurd h h1
theorem ins_len3 {α : Type} (M : List α) (k : Nat) (hk : k ≤ M.length) (x : α) : (M.take k ++ x :: M.drop k).length = M.length + 1 := by simp; omega
theorem mem_ins3 {α : Type} {M : List α} {k : Nat} {x y : α} (h : y ∈ M.take k ++ x :: M.drop k) : y ∈ M ∨ y = x := by
  rcases List.mem_append.1 h with h | h
  · exact .inl (List.mem_of_mem_take h)
  · rcases List.mem_cons.1 h with h | h
    · exact .inr h
    · exact .inl (List.mem_of_mem_drop h)
theorem keeps_all (o : Opx) : KeepsR opS o := by
  intro M T h he
  have he : opE o M T = 0 := he
  show gErr (opM o M T) (opT o M T) = 0
  obtain ⟨⟨l1, a1, a2⟩, ⟨l2, b1, b2⟩⟩ := (gErr_iff M T).1 h
  unfold opE at he
  unfold opM opT
  by_cases h1 : o.wh = 1
  · rw [if_pos h1] at he ⊢
    rw [if_neg (by omega), if_neg (by omega), if_neg (by omega)]
    obtain ⟨e1, e2, e3⟩ := newE_zero he
    have hs : SrtN (newM o.nd M) := srt_ins (n := o.nd.c) a1 e2
    refine (gErr_iff _ _).2 ⟨⟨?_, hs, fun x hx => ?_⟩, ⟨l2, b1, b2⟩⟩
    · unfold newM; rw [ins_len3 _ _ (loN_le _ _)]; omega
    · rcases mem_ins3 hx with h' | rfl
      · exact a2 x h'
      · have := (ndE_iff _).1 (gErr_one e1)
        exact (ndE_iff _).2 this
  rw [if_neg h1] at he ⊢
  by_cases h2 : o.wh = 2
  · rw [if_pos h2, if_pos h2]
    exact gErr_sub h (List.eraseIdx_sublist M _) List.filter_sublist
  rw [if_neg h2] at he ⊢
  rw [if_neg h2]
  by_cases h3 : o.wh = 3
  · rw [if_pos h3] at he ⊢
    rw [if_neg (by omega), if_neg (by omega)]
    by_cases hf : fndN o.nd.id M = true
    · rw [if_pos hf] at he
      exact gErr_put h (sErr_ins he)
    · rw [if_neg hf] at he; omega
  rw [if_neg h3] at he ⊢
  by_cases h4 : o.wh = 4
  · rw [if_pos h4] at he ⊢
    rw [if_neg (by omega), if_neg (by omega)]
    by_cases hf : fndN o.nd.id M = true
    · obtain ⟨n, hn, e⟩ := rcAt_mem hf
      exact gErr_put h (rErr_sub (by rw [e]; exact ((ndE_iff n).1 (a2 n hn)).2.2) (un_sub _ _))
    · rw [if_neg hf] at he; omega
  rw [if_neg h4] at he ⊢
  by_cases h5 : o.wh = 5
  · rw [if_pos h5] at he ⊢
    obtain ⟨e1, e2, e3⟩ := bindE_zero he
    refine (gErr_iff _ _).2 ⟨⟨l1, a1, a2⟩, ⟨?_, srtT_ins b1 e2, fun x hx => ?_⟩⟩
    · unfold bindT; rw [ins_len3 _ _ (loT_le _ _)]; omega
    · rcases mem_ins3 hx with h' | rfl
      · exact b2 x h'
      · exact gErr_oneT e1
  rw [if_neg h5] at he ⊢
  by_cases h6 : o.wh = 6
  · rw [if_pos h6]
    exact gErr_sub h (List.Sublist.refl _) (List.eraseIdx_sublist T _)
  rw [if_neg h6]
  exact h
end Go.Proofs.YtifhigajonafdaaGreat

/-
  All of what is wrong, or too much; what it gives, in two cases.
-/
namespace Go.Proofs.YtifhigajonafdaaGreat
open Go.RowKit
set_option linter.unusedVariables false
set_option linter.unusedSimpArgs false

def AllOk (N : List Nd) (T : List Te) (L : List Opx) : Prop := L.length ≤ 40 ∧ gErr N T = 0 ∧ opS.err L (cN N) T = 0
theorem all_yes {vn vt vl : Value} {N : List Nd} {T : List Te} {L : List Opx} {w : World} (hN : IsN w vn N) (hT : IsT w vt T) (zN : SzN N) (zT : SzT T) (hL : IsO w vl L) (zL : ∀ o ∈ L, OpSz o) (h0 : AllOk N T L) :
    Calls Tryz.prog 34 #[.agg #[vn, vt], vl] w fun e w' => ∃ a l c b m d M, e = .returned (.tuple #[.agg #[.slice a l c, .slice b m d], .int .i64 0, .nilIface]) ∧ cN M = (opS.res L (cN N) T).1 ∧ OwnNs w' w.heap.size (.slice a l c) M ∧ OwnTs w' w.heap.size (.slice b m d) (opS.res L (cN N) T).2 ∧ gErr M (opS.res L (cN N) T).2 = 0 ∧ Below w.heap.size w w' := by
  refine (all_in opS hN hT zN zT h0.2.1 hL h0.1 zL (fun o _ => apply_all o) (fun o _ => keeps_all o)).mono ?_
  rintro e w' ⟨hB, ⟨_, un, ut, M, rfl, q1, q2, q3, q4⟩ | ⟨h, _⟩⟩
  · obtain ⟨a, c, e1⟩ := own_slice q2.1
    obtain ⟨b, d, e2⟩ := own_slice q3
    subst e1 e2
    exact ⟨_, _, _, _, _, _, M, rfl, q1, q2, q3, q4, hB⟩
  · exact absurd h0.2.2 h
end Go.Proofs.YtifhigajonafdaaGreat
