/-
  The walk of shape.propFaults.
-/
import Derived.Test.YtjjnfnlkfojehaaChkA
import Derived.Laws.AppendOwnNone
import Derived.Lib.Hide
namespace Go.Proofs.Ytjjnfnlkfojehaa
open Go.RowKit
set_option linter.unusedVariables false
set_option linter.unusedSimpArgs false

theorem fold_len {α : Type} (f : List Ft → α → List Ft) (hf : ∀ l x, (f l x).length ≤ l.length + 1) (L : List α) : ∀ l, (L.foldl f l).length ≤ l.length + L.length := by
  induction L with
  | nil => intro l; simp
  | cons x r ih =>
    intro l
    simp only [List.foldl_cons, List.length_cons]
    have := ih (f l x)
    have := hf l x
    omega
theorem propS_len (fs : List Fd) (id : Int) (l : List Ft) (p : Pr) : (propS fs id l p).length ≤ l.length + 1 := by
  unfold propS; split <;> simp
theorem propF_len (fs : List Fd) (id : Int) (rc : List Pr) : (propF fs id rc).length ≤ rc.length := by
  have := fold_len (propS fs id) (propS_len fs id) rc []
  simpa [propF] using this
/-- What many give: a list of faults of the call's own. -/
def XPost (w : World) (l : List Ft) (e : Ending) (w' : World) : Prop := ∃ u, e = .returned u ∧ OwnX w' w.heap.size u l ∧ Below w.heap.size w w'
theorem cell_at {w : World} {b i : Nat} {cs : Array Value} {t : TypeId} {u : Value} (h : w.heap[b]? = some (.cells cs t (0, 0))) (hu : cs[i]? = some u) : w.cell? ⟨b, i, none⟩ = some u := by simp [World.cell?, h, hu]
theorem frz_at {w : World} {b i : Nat} {cs : Array Value} {t : TypeId} (h : w.heap[b]? = some (.cells cs t (0, 0))) : w.frozen? ⟨b, i, none⟩ = false := by simp [World.frozen?, h]
/-- The two boxes. -/
abbrev box2 (w : World) (c1 : Array Value) (t1 : TypeId) (c2 : Array Value) (t2 : TypeId) : World := (w.alloc (.cells c1 t1)).alloc (.cells c2 t2)
theorem box2_below (w : World) (c1 : Array Value) (t1 : TypeId) (c2 : Array Value) (t2 : TypeId) : Below w.heap.size w (box2 w c1 t1 c2 t2) := b_allocK (b_allocK (Below.refl _ _) (Nat.le_refl _) _) (Nat.le_refl _) _
theorem box2_size (w : World) (c1 : Array Value) (t1 : TypeId) (c2 : Array Value) (t2 : TypeId) : (box2 w c1 t1 c2 t2).heap.size = w.heap.size + 2 := by simp [box2]
theorem box2_a (w : World) (c1 : Array Value) (t1 : TypeId) (c2 : Array Value) (t2 : TypeId) {i : Nat} {u : Value} (h : c1[i]? = some u) : (box2 w c1 t1 c2 t2).cell? ⟨w.heap.size, i, none⟩ = some u := by
  have h1 : (box2 w c1 t1 c2 t2).heap[w.heap.size]? = some (.cells c1 t1) := (Below.heap_alloc _ _ _ (by simp)).trans (heap_alloc_new w _)
  exact cell_at h1 h
theorem box2_b (w : World) (c1 : Array Value) (t1 : TypeId) (c2 : Array Value) (t2 : TypeId) {i : Nat} {u : Value} (h : c2[i]? = some u) : (box2 w c1 t1 c2 t2).cell? ⟨w.heap.size + 1, i, none⟩ = some u := by
  have h1 : (box2 w c1 t1 c2 t2).heap[w.heap.size + 1]? = some (.cells c2 t2) := by
    have := heap_alloc_new (w.alloc (.cells c1 t1)) (.cells c2 t2)
    rwa [World.size_alloc] at this
  exact cell_at h1 h
/-- A record's property. -/
theorem IsR.at {w : World} {v : Value} {L : List Pr} (h : IsR w v L) {k : Nat} {p : Pr} (hp : L[k]? = some p) : ∃ b off c, v = .slice (some ⟨b, off, none⟩) L.length c ∧ b < w.heap.size ∧ w.cell? ⟨b, off + k * 4, none⟩ = some (.string p.nm) ∧ w.cell? ⟨b, off + k * 4 + 1, none⟩ = some (.int .i64 p.t) ∧ w.cell? ⟨b, off + k * 4 + 2, none⟩ = some (.int .i64 p.n) ∧ w.cell? ⟨b, off + k * 4 + 3, none⟩ = some (.string p.s) := by
  obtain ⟨ao, c, rfl, rfl | ⟨b, off, rfl, hb, hL⟩⟩ := h
  · simp at hp
  · exact ⟨b, off, c, rfl, hb, hL k p hp⟩
theorem two_new (w : World) (x : Array Value) (t : TypeId) {i : Nat} {u : Value} (h : x[i]? = some u) : (w.alloc (.cells x t)).cell? ⟨w.heap.size, i, none⟩ = some u := cell_at (heap_alloc_new w _) h
theorem ft_one (f : Ft) : ∀ u ∈ f.cells, u.oneCell' = true := by simp [Ft.cells, Value.oneCell']
/-- One fault more, behind a call and a new block: what is carried on. -/
theorem own_more {W0 wr W2 w1 : World} {B : Nat} {u : Value} {l : List Ft} {o : Obj} (hO : OwnX wr B u l) (hB : Below B W0 wr) (hBW : B ≤ wr.heap.size) (h2 : Below wr.heap.size wr W2) (hg : (W2.alloc o).grownBy w1 u.ownBlock) : Below B W0 w1 := by
  have h3 : Below B W0 (W2.alloc o) := (hB.trans (h2.mono hBW)).alloc (Nat.le_trans hBW h2.size) o
  exact h3.grown hg (by have := h2.size; simp; omega) (fun g hg' => (hO.lt g hg').1)

set_option maxHeartbeats 4000000 in
set_option maxRecDepth 100000 in
theorem propFaults_any {v : Value} {h : Sh} {n : Nd} {w : World} (hs : IsSh w v h) (hf8 : h.fs.length ≤ 8) (hr : IsR w n.rv n.rc) (hr8 : n.rc.length ≤ 8) : Calls Try.prog 22 #[v, n.one] w (XPost w (propF h.fs n.id n.rc)) := by
  obtain ⟨i0, hi0, hz0, hz1, hz2⟩ := info_parts infoX
  obtain ⟨vk, vf, vb, rfl, h1, h2, h3⟩ := hs
  have HF : Hid (IsF w vf h.fs) := h2
  obtain ⟨a1, c1, rfl, _⟩ := h1.sln
  obtain ⟨a2, c2, rfl, _⟩ := h2.sln
  obtain ⟨a3, c3, rfl, _⟩ := h3.sln
  obtain ⟨id, kd, rv, rc⟩ := n
  simp only at hr hr8 ⊢
  have HR : Hid (IsR w rv rc) := hr
  obtain ⟨av, cv, rfl, _⟩ := hr
  obtain ⟨fs, hfs⟩ : ∃ fs, fs = h.fs := ⟨_, rfl⟩
  rw [← hfs] at HF hf8 ⊢
  generalize h.kn.length = lk
  generalize h.bn.length = lb
  clear hfs h1 h2 h3
  have HB0 : Hid (Below w.heap.size w (box2 w #[.slice a1 lk c1, .slice a2 fs.length c2, .slice a3 lb c3] 76 #[.int .i64 id, .string kd, .slice av rc.length cv] 33)) := box2_below _ _ _ _ _
  have HC : Hid ((box2 w #[.slice a1 lk c1, .slice a2 fs.length c2, .slice a3 lb c3] 76 #[.int .i64 id, .string kd, .slice av rc.length cv] 33).cell? ⟨w.heap.size, 1, none⟩ = some (.slice a2 fs.length c2) ∧ (box2 w #[.slice a1 lk c1, .slice a2 fs.length c2, .slice a3 lb c3] 76 #[.int .i64 id, .string kd, .slice av rc.length cv] 33).cell? ⟨w.heap.size + 1, 0, none⟩ = some (.int .i64 id)) := ⟨box2_a _ _ _ _ _ rfl, box2_b _ _ _ _ _ rfl⟩
  go_enter Try.func22, Try.ntmps22
  go_wp2
  go_loopw [4, 11] (fun u i wr => ∃ k : Nat, k ≤ rc.length ∧ i = .int .i64 k ∧ OwnX wr (w.heap.size + 2) u ((rc.take k).foldl (propS fs id) []) ∧ Below (w.heap.size + 2) (box2 w #[.slice a1 lk c1, .slice a2 fs.length c2, .slice a3 lb c3] 76 #[.int .i64 id, .string kd, .slice av rc.length cv] 33) wr) (fun _ i _ => rc.length - (intOf i).toNat)
  case atStart => exact ⟨0, Nat.zero_le _, rfl, World.ownsRow_nil _ _ _ _, Below.refl _ _⟩
  case round =>
    obtain ⟨k, hk, rfl, hO, hB⟩ := hrel
    have g1 : wr.cell? ⟨w.heap.size, 1, none⟩ = some (.slice a2 fs.length c2) := (hB.cell (by simp)).trans HC.out.1
    have g2 : wr.cell? ⟨w.heap.size + 1, 0, none⟩ = some (.int .i64 id) := (hB.cell (by simp)).trans HC.out.2
    have hws : w.heap.size + 2 ≤ wr.heap.size := by have := hB.size; rw [box2_size] at this; exact this
    have HW : Hid (Below w.heap.size w wr) := HB0.out.trans (hB.mono (by omega))
    have HB : Hid (Below (w.heap.size + 2) (box2 w #[.slice a1 lk c1, .slice a2 fs.length c2, .slice a3 lb c3] 76 #[.int .i64 id, .string kd, .slice av rc.length cv] 33) wr) := hB
    have HO : Hid (OwnX wr (w.heap.size + 2) u4 ((rc.take k).foldl (propS fs id) [])) := hO
    clear hO hB
    by_cases hlt : k < rc.length
    · obtain ⟨p, hp⟩ : ∃ p, rc[k]? = some p := ⟨rc[k], by simp [hlt]⟩
      obtain ⟨b, off, c, hv, hb, e0, e1, e2, e3⟩ := HR.out.at hp
      injection hv with hv1 hv2 hv3
      subst hv1 hv3
      clear hv2
      have d0 := (HW.out.cell (p := ⟨b, off + k * 4, none⟩) hb).trans e0
      have d1 := (HW.out.cell (p := ⟨b, off + k * 4 + 1, none⟩) hb).trans e1
      have d2 := (HW.out.cell (p := ⟨b, off + k * 4 + 2, none⟩) hb).trans e2
      have d3 := (HW.out.cell (p := ⟨b, off + k * 4 + 3, none⟩) hb).trans e3
      have HT : Hid ((rc.take (k + 1)).foldl (propS fs id) [] = propS fs id ((rc.take k).foldl (propS fs id) []) p) := foldl_take _ _ hp
      have hB1 : Below wr.heap.size wr (wr.alloc (.cells #[.string p.nm, .int .i64 p.t, .int .i64 p.n, .string p.s] 51)) := b_allocK (Below.refl _ _) (Nat.le_refl _) _
      have HB1 : Hid (Below wr.heap.size wr (wr.alloc (.cells #[.string p.nm, .int .i64 p.t, .int .i64 p.n, .string p.s] 51))) := hB1
      have cf := fits_any ((HF.out.on HW.out).on hB1) hf8 wr.heap.size p (by simp) (two_new _ _ _ rfl) (two_new _ _ _ rfl)
      have HP : Hid (∀ W2, Below (wr.alloc (.cells #[.string p.nm, .int .i64 p.t, .int .i64 p.n, .string p.s] 51)).heap.size (wr.alloc (.cells #[.string p.nm, .int .i64 p.t, .int .i64 p.n, .string p.s] 51)) W2 → W2.cell? ⟨wr.heap.size, 0, none⟩ = some (.string p.nm) ∧ W2.cell? ⟨w.heap.size + 1, 0, none⟩ = some (.int .i64 id) ∧ Below wr.heap.size wr W2 ∧ wr.heap.size < W2.heap.size) := fun W2 h2 =>
        ⟨(h2.cell (by simp)).trans (two_new _ _ _ rfl), (h2.cell (by simp; omega)).trans ((hB1.cell (by simp; omega)).trans g2), on1K hB1 h2 (Nat.le_refl _), by have := h2.size; simp at this; omega⟩
      have hk8 : k < 8 := by omega
      have HL : Hid (((rc.take k).foldl (propS fs id) []).length ≤ k) := by
        have := propF_len fs id (rc.take k)
        simp at this
        exact Nat.le_trans this (by omega)
      have hbn : ¬ b = wr.heap.size := by have := HW.out.size; omega
      have hw1 : ¬ w.heap.size = wr.heap.size := by omega
      have hw2 : ¬ w.heap.size + 1 = wr.heap.size := by omega
      have g1' : (wr.alloc (.cells #[.string p.nm, .int .i64 p.t, .int .i64 p.n, .string p.s] 51)).cell? ⟨w.heap.size, 1, none⟩ = some (.slice a2 fs.length c2) := (hB1.cell (by show w.heap.size < _; omega)).trans g1
      clear hB1 e0 e1 e2 e3
      by_cases hq : fits fs p = true
      · rw [hq] at cf
        have HS : Hid ((rc.take (k + 1)).foldl (propS fs id) [] = (rc.take k).foldl (propS fs id) []) := by
          show _ = _
          rw [HT.out]; unfold propS; rw [if_pos hq]
        clear hq hp HT
        go_wp2_with (go_at_call 34; refine cf.mono ?_; rintro e W2 ⟨rfl, hB2⟩; refine Hid.out ?_)
        refine Lib.hid ?_
        obtain ⟨q0, q1, hB3, hs3⟩ := HP.out W2 hB2
        have HE : Hid (OwnX W2 (w.heap.size + 2) u4 ((rc.take k).foldl (propS fs id) []) ∧ Below (w.heap.size + 2) (box2 w #[.slice a1 lk c1, .slice a2 fs.length c2, .slice a3 lb c3] 76 #[.int .i64 id, .string kd, .slice (some ⟨b, off, none⟩) rc.length cv] 33) W2) := ⟨own_below HO.out hB3, HB.out.trans (hB3.mono hws)⟩
        clear cf hB2 hB3
        go_wp2
        go_roundw
        case rel => exact ⟨k + 1, by omega, by go_num, by rw [HS.out]; exact HE.out.1, HE.out.2⟩
        case measure => simp [intOf]; omega
      · have hq' : fits fs p = false := by simpa using hq
        rw [hq'] at cf
        have HS : Hid ((rc.take (k + 1)).foldl (propS fs id) [] = (rc.take k).foldl (propS fs id) [] ++ [⟨2, id, p.nm⟩]) := by
          show _ = _
          rw [HT.out]; unfold propS; rw [if_neg hq]
        clear hq hq' hp HT
        go_wp2_with (go_at_call 34; refine cf.mono ?_; rintro e W2 ⟨rfl, hB2⟩; refine Hid.out ?_)
        refine Lib.hid ?_
        obtain ⟨q0, q1, hB3, hs3⟩ := HP.out W2 hB2
        have HE : Hid (OwnX (W2.alloc (.cells #[.int .i64 2, .int .i64 id, .string p.nm] 40)) (w.heap.size + 2) u4 ((rc.take k).foldl (propS fs id) []) ∧ Below wr.heap.size wr W2) := ⟨(own_below HO.out hB3).alloc _, hB3⟩
        have hq1 : ¬ w.heap.size + 1 = W2.heap.size := by omega
        have hq2 : ¬ wr.heap.size = W2.heap.size := by omega
        have HX : Hid (((rc.take k).foldl (propS fs id) []).length + 1 ≤ maxLen ∧ (((rc.take k).foldl (propS fs id) []).length + 1) * 32 ≤ 140737488355328 ∧ w.heap.size + 2 ≤ (W2.alloc (.cells #[.int .i64 2, .int .i64 id, .string p.nm] 40)).heap.size) := ⟨by have := HL.out; unfold maxLen; omega, by have := HL.out; omega, by simp; omega⟩
        clear cf hB2 hB3
        go_wp2_with (at_builtin; refine wpList_append_own _ rfl (.tmp 21) (.tmp 27) 34 rfl (w.heap.size + 2) 40 i0 _ 3 32 Try.underlying34 hi0 hz0 hz1 hz2 rfl (by decide) u4 ((rc.take k).foldl (propS fs id) []).length (cellsX ((rc.take k).foldl (propS fs id) [])) rfl HE.out.1 ⟨W2.heap.size, 0, none⟩ 1 1 (Ft.mk 2 id p.nm).cells rfl rfl (new_at W2 (Ft.mk 2 id p.nm).cells 40) (ft_one _) HX.out.1 HX.out.2.1 HX.out.2.2 ?_; intro v1 w1 hown1 hgrow1 _)
        have HN : Hid (OwnX w1 (w.heap.size + 2) v1 ((rc.take (k + 1)).foldl (propS fs id) []) ∧ Below (w.heap.size + 2) (box2 w #[.slice a1 lk c1, .slice a2 fs.length c2, .slice a3 lb c3] 76 #[.int .i64 id, .string kd, .slice (some ⟨b, off, none⟩) rc.length cv] 33) w1) := by
          refine ⟨?_, own_more HO.out HB.out hws HE.out.2 hgrow1⟩
          rw [HS.out]; unfold OwnX; rw [cellsX_snoc, List.length_append]; exact hown1
        clear hown1 hgrow1
        go_roundw
        case rel => exact ⟨k + 1, by omega, by go_num, HN.out.1, HN.out.2⟩
        case measure => simp [intOf]; omega
    · obtain rfl : k = rc.length := by omega
      have HE : Hid (XPost w (propF fs id rc) (.returned u4) wr) := ⟨u4, rfl, own_base (by have := HO.out; rw [List.take_length] at this; exact this) (by omega), HW.out⟩
      clear hlt
      go_wp2
      go_ret
      exact HE.out
end Go.Proofs.Ytjjnfnlkfojehaa
