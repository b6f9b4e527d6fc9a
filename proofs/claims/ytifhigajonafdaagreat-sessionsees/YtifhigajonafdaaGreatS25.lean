/-
  The walks of shape.is, of the test whether a property fits a field, and of slices.ContainsFunc over fields.
-/
import Derived.Test.YtifhigajonafdaaGreatS24
import Derived.Laws.AppendOwnNone
import Derived.Lib.Hide
import Derived.Laws.OwnMore
namespace Go.Proofs.YtifhigajonafdaaGreat
open Go.RowKit
set_option linter.unusedVariables false
set_option linter.unusedSimpArgs false

set_option maxHeartbeats 1000000 in
theorem is_any {v : Value} {h : Sh} {w : World} (hs : IsSh w v h) (hn : h.kn.length ≤ 1000) (s : Nm) :
    Calls Tryz.prog 61 #[v, .string (bs s)] w fun e w' => e = .returned (.bool (hasN h.kn s)) ∧ Below w.heap.size w w' := by
  obtain ⟨vk, vf, vb, rfl, h1, h2, h3⟩ := hs
  have HK : Hid (IsS w vk h.kn) := h1
  obtain ⟨a1, c1, rfl, _⟩ := h1.sln
  obtain ⟨a2, c2, rfl, _⟩ := h2.sln
  obtain ⟨a3, c3, rfl, _⟩ := h3.sln
  have hB0 : Below w.heap.size w (w.alloc (.cells #[.slice a1 h.kn.length c1, .slice a2 h.fs.length c2, .slice a3 h.bn.length c3] 142)) := b_allocKC (Below.refl _ _) (Nat.le_refl _) _
  have c := contains_any (HK.out.on hB0) hn s
  clear h1 h2 h3
  go_enter Tryz.func61, Tryz.ntmps61
  go_wp2_with (go_at_call 94; refine c.mono ?_; rintro e w' ⟨rfl, rfl⟩)
  go_ret
  exact ⟨rfl, hB0⟩

set_option maxHeartbeats 1000000 in
theorem fit_any (f : Fd) (b : Nat) (p : Pr) (w : World) (c0 : w.cell? ⟨b, 0, none⟩ = some (.string p.nm)) (c1 : w.cell? ⟨b, 1, none⟩ = some (.int .i64 p.t)) (hb : b < w.heap.size) :
    Calls Tryz.prog 127 #[f.one, .pointer (some ⟨b, 0, none⟩)] w fun e w' => e = .returned (.bool (fit1 p f)) ∧ w' = w.alloc (.cells #[.string (bs f.nm), .int .i64 f.t, .bool f.must, .bool f.key] 163) := by
  have hbn : ¬ b = w.heap.size := by omega
  obtain ⟨nm, t, mu, ky⟩ := f
  cases hq : (nm == p.nm.toList)
  · have H : Hid (fit1 p ⟨nm, t, mu, ky⟩ = false) := by show _ = _; unfold fit1; simp only; rw [hq]; rfl
    go_enter Tryz.func127, Tryz.ntmps127
    go_wp2
    go_ret
    exact ⟨ret_v (by rw [H.out]; rfl), rfl⟩
  · have H : Hid (fit1 p ⟨nm, t, mu, ky⟩ = (t == p.t)) := by show _ = _; unfold fit1; simp only; rw [hq]; rfl
    go_enter Tryz.func127, Tryz.ntmps127
    go_wp2
    go_ret
    exact ⟨ret_v (by rw [H.out]; rfl), rfl⟩

def idxTC (p : Pr) : List Fd → Nat → Int
  | [], _ => -1
  | f :: r, k => if fit1 p f = true then k else idxTC p r (k + 1)
theorem idxT_has (p : Pr) (L : List Fd) : ∀ k, decide (0 ≤ idxTC p L k) = fits L p := by
  induction L with
  | nil => intro k; simp [idxTC, fits]
  | cons f r ih =>
    intro k
    unfold idxTC
    by_cases h : fit1 p f = true
    · rw [if_pos h]; simp [fits, h]
    · rw [if_neg h, ih]; simp [fits, h]
set_option maxHeartbeats 4000000 in
set_option maxRecDepth 100000 in
theorem idxT_some (b off cap : Nat) (L : List Fd) (bn : Nat) (p : Pr) (w : World) (hb : b < w.heap.size) (hL : LiesF w b off L) (hn : L.length ≤ 8) (hbn : bn < w.heap.size) (c0 : w.cell? ⟨bn, 0, none⟩ = some (.string p.nm)) (c1 : w.cell? ⟨bn, 1, none⟩ = some (.int .i64 p.t)) :
    Calls Tryz.prog 157 #[.slice (some ⟨b, off, none⟩) L.length cap, .func (.func 127) #[] #[.pointer (some ⟨bn, 0, none⟩)]] w fun e w' => e = .returned (.int .i64 (idxTC p L 0)) ∧ Below w.heap.size w w' := by
  go_enter Tryz.func157, Tryz.ntmps157
  go_wp2
  go_loopw [8] (fun i wr => ∃ k : Nat, k ≤ L.length ∧ i = .int .i64 k ∧ idxTC p L 0 = idxTC p (L.drop k) k ∧ Below w.heap.size w wr) (fun i _ => L.length - (intOf i).toNat)
  case atStart => exact ⟨0, Nat.zero_le _, rfl, rfl, Below.refl _ _⟩
  case round =>
    obtain ⟨k, hk, rfl, hi, hB⟩ := hrel
    have HI : Hid (idxTC p L 0 = idxTC p (L.drop k) k) := hi
    clear hi
    by_cases hlt : k < L.length
    · obtain ⟨f, hf⟩ : ∃ f, L[k]? = some f := ⟨L[k], by simp [hlt]⟩
      obtain ⟨e0, e1, e2, e3⟩ := hL k f hf
      have d0 := (hB.cell (p := ⟨b, off + k * 4, none⟩) hb).trans e0
      have d1 := (hB.cell (p := ⟨b, off + k * 4 + 1, none⟩) hb).trans e1
      have d2 := (hB.cell (p := ⟨b, off + k * 4 + 2, none⟩) hb).trans e2
      have d3 := (hB.cell (p := ⟨b, off + k * 4 + 3, none⟩) hb).trans e3
      have HD : Hid (L.drop k = f :: L.drop (k + 1)) := dropK hf
      have cn := fit_any f bn p wr ((hB.cell (p := ⟨bn, 0, none⟩) hbn).trans c0) ((hB.cell (p := ⟨bn, 1, none⟩) hbn).trans c1) (Nat.lt_of_lt_of_le hbn hB.size)
      clear e0 e1 e2 e3 hf hL c0 c1
      by_cases hq : fit1 p f = true
      · have H : Hid (idxTC p L 0 = k) := by
          show _ = _
          rw [HI.out, HD.out]; unfold idxTC; rw [if_pos hq]
        rw [hq] at cn
        clear HI HD hq
        go_wp2_with (go_at_call 127; refine cn.mono ?_; rintro e w' ⟨rfl, rfl⟩)
        go_ret
        exact ⟨ret_v (by rw [H.out]; rfl), b_allocKC hB (Nat.le_refl _) _⟩
      · have H : Hid (idxTC p L 0 = idxTC p (L.drop (k + 1)) (k + 1)) := by
          show _ = _
          rw [HI.out, HD.out]; conv => lhs; unfold idxTC
          rw [if_neg hq]
        have hq' : fit1 p f = false := by simpa using hq
        rw [hq'] at cn
        clear HI HD hq hq'
        go_wp2_with (go_at_call 127; refine cn.mono ?_; rintro e w' ⟨rfl, rfl⟩)
        go_roundw
        case rel => exact ⟨k + 1, by omega, by go_num, H.out, b_allocKC hB (Nat.le_refl _) _⟩
        case measure => simp [intOf]; omega
    · have hd : L.drop k = [] := List.drop_eq_nil_of_le (by omega)
      have H : Hid (idxTC p L 0 = -1) := by
        show _ = _
        rw [HI.out, hd]; rfl
      clear HI hd hL c0 c1
      go_wp2
      go_ret
      exact ⟨ret_v (by rw [H.out]; rfl), hB⟩
set_option maxHeartbeats 1000000 in
theorem idxT_nil (ao : Option Addr) (c : Nat) (f : Value) (w : World) :
    Calls Tryz.prog 157 #[.slice ao 0 c, f] w fun e w' => e = .returned (.int .i64 (-1)) ∧ Below w.heap.size w w' := by
  go_enter Tryz.func157, Tryz.ntmps157
  go_wp2
  go_loopw [8] (fun i wr => i = .int .i64 0 ∧ wr = w) (fun i _ => 0)
  case atStart => exact ⟨rfl, rfl⟩
  case round =>
    obtain ⟨rfl, rfl⟩ := hrel
    go_wp2
    go_ret
    exact ⟨rfl, Below.refl _ _⟩
theorem idxT_any {v : Value} {L : List Fd} {w : World} (h : IsF w v L) (hn : L.length ≤ 8) (bn : Nat) (p : Pr) (hbn : bn < w.heap.size) (c0 : w.cell? ⟨bn, 0, none⟩ = some (.string p.nm)) (c1 : w.cell? ⟨bn, 1, none⟩ = some (.int .i64 p.t)) :
    Calls Tryz.prog 157 #[v, .func (.func 127) #[] #[.pointer (some ⟨bn, 0, none⟩)]] w fun e w' => e = .returned (.int .i64 (idxTC p L 0)) ∧ Below w.heap.size w w' := by
  rcases h with ⟨ao, c, rfl, rfl, _⟩ | ⟨b, off, cap, rfl, hcap, hm, hb, hl⟩
  · exact idxT_nil _ _ _ w
  · exact idxT_some b off cap L bn p w hb hl hn hbn c0 c1
set_option maxHeartbeats 1000000 in
theorem fits_any {v : Value} {L : List Fd} {w : World} (h : IsF w v L) (hn : L.length ≤ 8) (bn : Nat) (p : Pr) (hbn : bn < w.heap.size) (c0 : w.cell? ⟨bn, 0, none⟩ = some (.string p.nm)) (c1 : w.cell? ⟨bn, 1, none⟩ = some (.int .i64 p.t)) :
    Calls Tryz.prog 128 #[v, .func (.func 127) #[] #[.pointer (some ⟨bn, 0, none⟩)]] w fun e w' => e = .returned (.bool (fits L p)) ∧ Below w.heap.size w w' := by
  have c := idxT_any h hn bn p hbn c0 c1
  have H : Hid (decide (0 ≤ idxTC p L 0) = fits L p) := idxT_has p L 0
  generalize idxTC p L 0 = r at c H
  clear h hn c0 c1
  go_enter Tryz.func128, Tryz.ntmps128
  go_wp2_with (go_at_call 157; refine c.mono ?_; rintro e w' ⟨rfl, hB1⟩)
  go_ret
  exact ⟨ret_v (by rw [← H.out]; rfl), hB1⟩
end Go.Proofs.YtifhigajonafdaaGreat

/-
  The walk of shape.propFaults.
-/
namespace Go.Proofs.YtifhigajonafdaaGreat
open Go.RowKit
set_option linter.unusedVariables false
set_option linter.unusedSimpArgs false

theorem fold_len {α : Type} (f : List Ft → α → List Ft) (hf : ∀ l x, (f l x).length ≤ l.length + 1) (L : List α) : ∀ l, (L.foldl f l).length ≤ l.length + L.length := by
  induction L with
  | nil => intro l; simp
  | cons x r ih =>
    intro l
    simp only [List.foldl_cons, List.length_cons]
    have := ih (f l x)
    have := hf l x
    omega
theorem propS_len (fs : List Fd) (id : Int) (l : List Ft) (p : Pr) : (propS fs id l p).length ≤ l.length + 1 := by
  unfold propS; split <;> simp
theorem propF_len (fs : List Fd) (id : Int) (rc : List Pr) : (propF fs id rc).length ≤ rc.length := by
  have := fold_len (propS fs id) (propS_len fs id) rc []
  simpa [propF] using this
def XPost (w : World) (l : List Ft) (e : Ending) (w' : World) : Prop := ∃ u, e = .returned u ∧ OwnX w' w.heap.size u l ∧ Below w.heap.size w w'
theorem cell_atC {w : World} {b i : Nat} {cs : Array Value} {t : TypeId} {u : Value} (h : w.heap[b]? = some (.cells cs t (0, 0))) (hu : cs[i]? = some u) : w.cell? ⟨b, i, none⟩ = some u := by simp [World.cell?, h, hu]
theorem frz_atC {w : World} {b i : Nat} {cs : Array Value} {t : TypeId} (h : w.heap[b]? = some (.cells cs t (0, 0))) : w.frozen? ⟨b, i, none⟩ = false := by simp [World.frozen?, h]
abbrev box2 (w : World) (c1 : Array Value) (t1 : TypeId) (c2 : Array Value) (t2 : TypeId) : World := (w.alloc (.cells c1 t1)).alloc (.cells c2 t2)
theorem box2_below (w : World) (c1 : Array Value) (t1 : TypeId) (c2 : Array Value) (t2 : TypeId) : Below w.heap.size w (box2 w c1 t1 c2 t2) := b_allocKC (b_allocKC (Below.refl _ _) (Nat.le_refl _) _) (Nat.le_refl _) _
theorem box2_size (w : World) (c1 : Array Value) (t1 : TypeId) (c2 : Array Value) (t2 : TypeId) : (box2 w c1 t1 c2 t2).heap.size = w.heap.size + 2 := by simp [box2]
theorem box2_a (w : World) (c1 : Array Value) (t1 : TypeId) (c2 : Array Value) (t2 : TypeId) {i : Nat} {u : Value} (h : c1[i]? = some u) : (box2 w c1 t1 c2 t2).cell? ⟨w.heap.size, i, none⟩ = some u := by
  have h1 : (box2 w c1 t1 c2 t2).heap[w.heap.size]? = some (.cells c1 t1) := (Below.heap_alloc _ _ _ (by simp)).trans (heap_alloc_new w _)
  exact cell_atC h1 h
theorem box2_b (w : World) (c1 : Array Value) (t1 : TypeId) (c2 : Array Value) (t2 : TypeId) {i : Nat} {u : Value} (h : c2[i]? = some u) : (box2 w c1 t1 c2 t2).cell? ⟨w.heap.size + 1, i, none⟩ = some u := by
  have h1 : (box2 w c1 t1 c2 t2).heap[w.heap.size + 1]? = some (.cells c2 t2) := by
    have := heap_alloc_new (w.alloc (.cells c1 t1)) (.cells c2 t2)
    rwa [World.size_alloc] at this
  exact cell_atC h1 h
theorem IsR.at {w : World} {v : Value} {L : List Pr} (h : IsR w v L) {k : Nat} {p : Pr} (hp : L[k]? = some p) : ∃ b off c, v = .slice (some ⟨b, off, none⟩) L.length c ∧ b < w.heap.size ∧ w.cell? ⟨b, off + k * 4, none⟩ = some (.string p.nm) ∧ w.cell? ⟨b, off + k * 4 + 1, none⟩ = some (.int .i64 p.t) ∧ w.cell? ⟨b, off + k * 4 + 2, none⟩ = some (.int .i64 p.n) ∧ w.cell? ⟨b, off + k * 4 + 3, none⟩ = some (.string p.s) := by
  obtain ⟨ao, c, rfl, rfl | ⟨b, off, rfl, hb, hL⟩⟩ := h
  · simp at hp
  · exact ⟨b, off, c, rfl, hb, hL k p hp⟩
theorem two_new (w : World) (x : Array Value) (t : TypeId) {i : Nat} {u : Value} (h : x[i]? = some u) : (w.alloc (.cells x t)).cell? ⟨w.heap.size, i, none⟩ = some u := cell_atC (heap_alloc_new w _) h
theorem ft_one (f : Ft) : ∀ u ∈ f.cells, u.oneCell' = true := by simp [Ft.cells, Value.oneCell']
theorem own_more {W0 wr W2 w1 : World} {B : Nat} {u : Value} {l : List Ft} {o : Obj} (hO : OwnX wr B u l) (hB : Below B W0 wr) (hBW : B ≤ wr.heap.size) (h2 : Below wr.heap.size wr W2) (hg : (W2.alloc o).grownBy w1 u.ownBlock) : Below B W0 w1 := by
  have h3 : Below B W0 (W2.alloc o) := (hB.trans (h2.mono hBW)).alloc (Nat.le_trans hBW h2.size) o
  exact h3.grown hg (by have := h2.size; simp; omega) (fun g hg' => (hO.lt g hg').1)

set_option maxHeartbeats 4000000 in
set_option maxRecDepth 100000 in
theorem propFaults_any {v : Value} {h : Sh} {n : Nd} {w : World} (hs : IsSh w v h) (hf8 : h.fs.length ≤ 8) (hr : IsR w n.rv n.rc) (hr8 : n.rc.length ≤ 8) : Calls Tryz.prog 92 #[v, n.one] w (XPost w (propF h.fs n.id n.rc)) := by
  obtain ⟨i0, hi0, hz0, hz1, hz2⟩ := info_parts infoX
  obtain ⟨vk, vf, vb, rfl, h1, h2, h3⟩ := hs
  have HF : Hid (IsF w vf h.fs) := h2
  obtain ⟨a1, c1, rfl, _⟩ := h1.sln
  obtain ⟨a2, c2, rfl, _⟩ := h2.sln
  obtain ⟨a3, c3, rfl, _⟩ := h3.sln
  obtain ⟨id, kd, rv, rc⟩ := n
  simp only at hr hr8 ⊢
  have HR : Hid (IsR w rv rc) := hr
  obtain ⟨av, cv, rfl, _⟩ := hr
  obtain ⟨fs, hfs⟩ : ∃ fs, fs = h.fs := ⟨_, rfl⟩
  rw [← hfs] at HF hf8 ⊢
  generalize h.kn.length = lk
  generalize h.bn.length = lb
  clear hfs h1 h2 h3
  have HB0 : Hid (Below w.heap.size w (box2 w #[.slice a1 lk c1, .slice a2 fs.length c2, .slice a3 lb c3] 142 #[.int .i64 id, .string kd, .slice av rc.length cv] 48)) := box2_below _ _ _ _ _
  have HC : Hid ((box2 w #[.slice a1 lk c1, .slice a2 fs.length c2, .slice a3 lb c3] 142 #[.int .i64 id, .string kd, .slice av rc.length cv] 48).cell? ⟨w.heap.size, 1, none⟩ = some (.slice a2 fs.length c2) ∧ (box2 w #[.slice a1 lk c1, .slice a2 fs.length c2, .slice a3 lb c3] 142 #[.int .i64 id, .string kd, .slice av rc.length cv] 48).cell? ⟨w.heap.size + 1, 0, none⟩ = some (.int .i64 id)) := ⟨box2_a _ _ _ _ _ rfl, box2_b _ _ _ _ _ rfl⟩
  go_enter Tryz.func92, Tryz.ntmps92
  go_wp2
  go_loopw [4, 11] (fun u i wr => ∃ k : Nat, k ≤ rc.length ∧ i = .int .i64 k ∧ OwnX wr (w.heap.size + 2) u ((rc.take k).foldl (propS fs id) []) ∧ Below (w.heap.size + 2) (box2 w #[.slice a1 lk c1, .slice a2 fs.length c2, .slice a3 lb c3] 142 #[.int .i64 id, .string kd, .slice av rc.length cv] 48) wr) (fun _ i _ => rc.length - (intOf i).toNat)
  case atStart => exact ⟨0, Nat.zero_le _, rfl, World.ownsRow_nil _ _ _ _, Below.refl _ _⟩
  case round =>
    obtain ⟨k, hk, rfl, hO, hB⟩ := hrel
    have g1 : wr.cell? ⟨w.heap.size, 1, none⟩ = some (.slice a2 fs.length c2) := (hB.cell (by simp)).trans HC.out.1
    have g2 : wr.cell? ⟨w.heap.size + 1, 0, none⟩ = some (.int .i64 id) := (hB.cell (by simp)).trans HC.out.2
    have hws : w.heap.size + 2 ≤ wr.heap.size := by have := hB.size; rw [box2_size] at this; exact this
    have HW : Hid (Below w.heap.size w wr) := HB0.out.trans (hB.mono (by omega))
    have HB : Hid (Below (w.heap.size + 2) (box2 w #[.slice a1 lk c1, .slice a2 fs.length c2, .slice a3 lb c3] 142 #[.int .i64 id, .string kd, .slice av rc.length cv] 48) wr) := hB
    have HO : Hid (OwnX wr (w.heap.size + 2) u4 ((rc.take k).foldl (propS fs id) [])) := hO
    clear hO hB
    by_cases hlt : k < rc.length
    · obtain ⟨p, hp⟩ : ∃ p, rc[k]? = some p := ⟨rc[k], by simp [hlt]⟩
      obtain ⟨b, off, c, hv, hb, e0, e1, e2, e3⟩ := HR.out.at hp
      injection hv with hv1 hv2 hv3
      subst hv1 hv3
      clear hv2
      have d0 := (HW.out.cell (p := ⟨b, off + k * 4, none⟩) hb).trans e0
      have d1 := (HW.out.cell (p := ⟨b, off + k * 4 + 1, none⟩) hb).trans e1
      have d2 := (HW.out.cell (p := ⟨b, off + k * 4 + 2, none⟩) hb).trans e2
      have d3 := (HW.out.cell (p := ⟨b, off + k * 4 + 3, none⟩) hb).trans e3
      have HT : Hid ((rc.take (k + 1)).foldl (propS fs id) [] = propS fs id ((rc.take k).foldl (propS fs id) []) p) := foldl_take _ _ hp
      have hB1 : Below wr.heap.size wr (wr.alloc (.cells #[.string p.nm, .int .i64 p.t, .int .i64 p.n, .string p.s] 52)) := b_allocKC (Below.refl _ _) (Nat.le_refl _) _
      have HB1 : Hid (Below wr.heap.size wr (wr.alloc (.cells #[.string p.nm, .int .i64 p.t, .int .i64 p.n, .string p.s] 52))) := hB1
      have cf := fits_any ((HF.out.on HW.out).on hB1) hf8 wr.heap.size p (by simp) (two_new _ _ _ rfl) (two_new _ _ _ rfl)
      have HP : Hid (∀ W2, Below (wr.alloc (.cells #[.string p.nm, .int .i64 p.t, .int .i64 p.n, .string p.s] 52)).heap.size (wr.alloc (.cells #[.string p.nm, .int .i64 p.t, .int .i64 p.n, .string p.s] 52)) W2 → W2.cell? ⟨wr.heap.size, 0, none⟩ = some (.string p.nm) ∧ W2.cell? ⟨w.heap.size + 1, 0, none⟩ = some (.int .i64 id) ∧ Below wr.heap.size wr W2 ∧ wr.heap.size < W2.heap.size) := fun W2 h2 =>
        ⟨(h2.cell (by simp)).trans (two_new _ _ _ rfl), (h2.cell (by simp; omega)).trans ((hB1.cell (by simp; omega)).trans g2), on1KC hB1 h2 (Nat.le_refl _), by have := h2.size; simp at this; omega⟩
      have hk8 : k < 8 := by omega
      have HL : Hid (((rc.take k).foldl (propS fs id) []).length ≤ k) := by
        have := propF_len fs id (rc.take k)
        simp at this
        exact Nat.le_trans this (by omega)
      have hbn : ¬ b = wr.heap.size := by have := HW.out.size; omega
      have hw1 : ¬ w.heap.size = wr.heap.size := by omega
      have hw2 : ¬ w.heap.size + 1 = wr.heap.size := by omega
      have g1' : (wr.alloc (.cells #[.string p.nm, .int .i64 p.t, .int .i64 p.n, .string p.s] 52)).cell? ⟨w.heap.size, 1, none⟩ = some (.slice a2 fs.length c2) := (hB1.cell (by show w.heap.size < _; omega)).trans g1
      clear hB1 e0 e1 e2 e3
      by_cases hq : fits fs p = true
      · rw [hq] at cf
        have HS : Hid ((rc.take (k + 1)).foldl (propS fs id) [] = (rc.take k).foldl (propS fs id) []) := by
          show _ = _
          rw [HT.out]; unfold propS; rw [if_pos hq]
        clear hq hp HT
        go_wp2_with (go_at_call 128; refine cf.mono ?_; rintro e W2 ⟨rfl, hB2⟩; refine Hid.out ?_)
        refine Lib.hid ?_
        obtain ⟨q0, q1, hB3, hs3⟩ := HP.out W2 hB2
        have HE : Hid (OwnX W2 (w.heap.size + 2) u4 ((rc.take k).foldl (propS fs id) []) ∧ Below (w.heap.size + 2) (box2 w #[.slice a1 lk c1, .slice a2 fs.length c2, .slice a3 lb c3] 142 #[.int .i64 id, .string kd, .slice (some ⟨b, off, none⟩) rc.length cv] 48) W2) := ⟨own_below HO.out hB3, HB.out.trans (hB3.mono hws)⟩
        clear cf hB2 hB3
        go_wp2
        go_roundw
        case rel => exact ⟨k + 1, by omega, by go_num, by rw [HS.out]; exact HE.out.1, HE.out.2⟩
        case measure => simp [intOf]; omega
      · have hq' : fits fs p = false := by simpa using hq
        rw [hq'] at cf
        have HS : Hid ((rc.take (k + 1)).foldl (propS fs id) [] = (rc.take k).foldl (propS fs id) [] ++ [⟨2, id, p.nm⟩]) := by
          show _ = _
          rw [HT.out]; unfold propS; rw [if_neg hq]
        clear hq hq' hp HT
        go_wp2_with (go_at_call 128; refine cf.mono ?_; rintro e W2 ⟨rfl, hB2⟩; refine Hid.out ?_)
        refine Lib.hid ?_
        obtain ⟨q0, q1, hB3, hs3⟩ := HP.out W2 hB2
        have HE : Hid (OwnX (W2.alloc (.cells #[.int .i64 2, .int .i64 id, .string p.nm] 157)) (w.heap.size + 2) u4 ((rc.take k).foldl (propS fs id) []) ∧ Below wr.heap.size wr W2) := ⟨(own_below HO.out hB3).alloc _, hB3⟩
        have hq1 : ¬ w.heap.size + 1 = W2.heap.size := by omega
        have hq2 : ¬ wr.heap.size = W2.heap.size := by omega
        have HX : Hid (((rc.take k).foldl (propS fs id) []).length + 1 ≤ maxLen ∧ (((rc.take k).foldl (propS fs id) []).length + 1) * 32 ≤ 140737488355328 ∧ w.heap.size + 2 ≤ (W2.alloc (.cells #[.int .i64 2, .int .i64 id, .string p.nm] 157)).heap.size) := ⟨by have := HL.out; unfold maxLen; omega, by have := HL.out; omega, by simp; omega⟩
        clear cf hB2 hB3
        go_wp2_with (at_builtin; refine wpList_append_own _ rfl (.tmp 21) (.tmp 27) 92 rfl (w.heap.size + 2) 157 i0 _ 3 32 Tryz.underlying92 hi0 hz0 hz1 hz2 rfl (by decide) u4 ((rc.take k).foldl (propS fs id) []).length (cellsX ((rc.take k).foldl (propS fs id) [])) rfl HE.out.1 ⟨W2.heap.size, 0, none⟩ 1 1 (Ft.mk 2 id p.nm).cells rfl rfl (new_atC W2 (Ft.mk 2 id p.nm).cells 157) (ft_one _) HX.out.1 HX.out.2.1 HX.out.2.2 ?_; intro v1 w1 hown1 hgrow1 _)
        have HN : Hid (OwnX w1 (w.heap.size + 2) v1 ((rc.take (k + 1)).foldl (propS fs id) []) ∧ Below (w.heap.size + 2) (box2 w #[.slice a1 lk c1, .slice a2 fs.length c2, .slice a3 lb c3] 142 #[.int .i64 id, .string kd, .slice (some ⟨b, off, none⟩) rc.length cv] 48) w1) := by
          refine ⟨?_, own_more HO.out HB.out hws HE.out.2 hgrow1⟩
          rw [HS.out]; unfold OwnX; rw [cellsX_snoc, List.length_append]; exact hown1
        clear hown1 hgrow1
        go_roundw
        case rel => exact ⟨k + 1, by omega, by go_num, HN.out.1, HN.out.2⟩
        case measure => simp [intOf]; omega
    · obtain rfl : k = rc.length := by omega
      have HE : Hid (XPost w (propF fs id rc) (.returned u4) wr) := ⟨u4, rfl, own_baseC (by have := HO.out; rw [List.take_length] at this; exact this) (by omega), HW.out⟩
      clear hlt
      go_wp2
      go_ret
      exact HE.out
end Go.Proofs.YtifhigajonafdaaGreat

/-
  What lies in memory stays where cells stay: also where a map is written into.
-/
namespace Go.Proofs.YtifhigajonafdaaGreat
open Go.RowKit
set_option linter.unusedVariables false
set_option linter.unusedSimpArgs false

def Kp (w w' : World) : Prop := w.heap.size ≤ w'.heap.size ∧ ∀ a v, w.cell? a = some v → w'.cell? a = some v
theorem cell_ltC {w : World} {a : Addr} {v : Value} (h : w.cell? a = some v) : a.block < w.heap.size := by
  unfold World.cell? at h
  rcases hb : w.heap[a.block]? with _ | o
  · rw [hb] at h; cases h
  · exact (Array.getElem?_eq_some_iff.1 hb).1
theorem Kp.of_below {w w' : World} (h : Below w.heap.size w w') : Kp w w' := ⟨h.size, fun a v ha => (h.cell (cell_ltC ha)).trans ha⟩
theorem Kp.of_but {w w' : World} {b : Nat} {es : Array MapEntry} {c : Nat} (hb : w.heap[b]? = some (.map es c)) (h : w.grownBy w' (some b)) : Kp w w' := ⟨h.size, fun a v ha => by
  have hne : a.block ≠ b := by
    intro e
    unfold World.cell? at ha
    rw [e, hb] at ha
    cases ha
  exact (World.cell?_of_block (h.block a.block (cell_ltC ha) (fun e => hne (by simpa using e)))).trans ha⟩
theorem Kp.trans {a b c : World} (h : Kp a b) (k : Kp b c) : Kp a c := ⟨Nat.le_trans h.1 k.1, fun x v hx => k.2 x v (h.2 x v hx)⟩
theorem Kp.refl (a : World) : Kp a a := ⟨Nat.le_refl _, fun _ _ h => h⟩
theorem LiesS.kp {w w' : World} {b off : Nat} {l : List Nm} (h : LiesS w b off l) (hB : Kp w w') : LiesS w' b off l := fun k n hn => hB.2 _ _ (h k n hn)
theorem IsS.kp {w w' : World} {v : Value} {l : List Nm} (h : IsS w v l) (hB : Kp w w') : IsS w' v l := by
  rcases h with h | ⟨b, off, cap, hv, hc, hm, hb, hl⟩
  · exact .inl h
  · exact .inr ⟨b, off, cap, hv, hc, hm, Nat.lt_of_lt_of_le hb hB.1, hl.kp hB⟩
theorem LiesF.kp {w w' : World} {b off : Nat} {l : List Fd} (h : LiesF w b off l) (hB : Kp w w') : LiesF w' b off l := fun k p hp => by
  obtain ⟨c0, c1, c2, c3⟩ := h k p hp
  exact ⟨hB.2 _ _ c0, hB.2 _ _ c1, hB.2 _ _ c2, hB.2 _ _ c3⟩
theorem IsF.kp {w w' : World} {v : Value} {l : List Fd} (h : IsF w v l) (hB : Kp w w') : IsF w' v l := by
  rcases h with h | ⟨b, off, cap, hv, hc, hm, hb, hl⟩
  · exact .inl h
  · exact .inr ⟨b, off, cap, hv, hc, hm, Nat.lt_of_lt_of_le hb hB.1, hl.kp hB⟩
theorem LiesB.kp {w w' : World} {b off : Nat} {l : List Bd} (h : LiesB w b off l) (hB : Kp w w') : LiesB w' b off l := fun k p hp => by
  obtain ⟨c0, c1, c2, c3, c4⟩ := h k p hp
  exact ⟨hB.2 _ _ c0, hB.2 _ _ c1, hB.2 _ _ c2, hB.2 _ _ c3, hB.2 _ _ c4⟩
theorem IsB.kp {w w' : World} {v : Value} {l : List Bd} (h : IsB w v l) (hB : Kp w w') : IsB w' v l := by
  rcases h with h | ⟨b, off, cap, hv, hc, hm, hb, hl⟩
  · exact .inl h
  · exact .inr ⟨b, off, cap, hv, hc, hm, Nat.lt_of_lt_of_le hb hB.1, hl.kp hB⟩
theorem IsR.kp {w w' : World} {v : Value} {L : List Pr} (h : IsR w v L) (hB : Kp w w') : IsR w' v L := by
  obtain ⟨ao, c, rfl, h0 | ⟨b, off, rfl, hb, hL⟩⟩ := h
  · exact ⟨ao, c, rfl, .inl h0⟩
  · refine ⟨_, c, rfl, .inr ⟨b, off, rfl, Nat.lt_of_lt_of_le hb hB.1, fun k p hp => ?_⟩⟩
    obtain ⟨c0, c1, c2, c3⟩ := hL k p hp
    exact ⟨hB.2 _ _ c0, hB.2 _ _ c1, hB.2 _ _ c2, hB.2 _ _ c3⟩
theorem LiesN.kp {w w' : World} {b off : Nat} {N : List Nd} (h : LiesN w b off N) (hB : Kp w w') : LiesN w' b off N := fun k n hn => by
  obtain ⟨c0, c1, c2, c3⟩ := h k n hn
  exact ⟨hB.2 _ _ c0, hB.2 _ _ c1, hB.2 _ _ c2, c3.kp hB⟩
theorem LiesT.kp {w w' : World} {b off : Nat} {T : List Te} (h : LiesT w b off T) (hB : Kp w w') : LiesT w' b off T := fun k n hn => by
  obtain ⟨c0, c1, c2⟩ := h k n hn
  exact ⟨hB.2 _ _ c0, hB.2 _ _ c1, hB.2 _ _ c2⟩
theorem IsN.kp {w w' : World} {v : Value} {N : List Nd} (h : IsN w v N) (hB : Kp w w') : IsN w' v N := by
  obtain ⟨ao, c, rfl, hc, h0 | ⟨b, off, rfl, hb, hL⟩⟩ := h
  · exact ⟨ao, c, rfl, hc, .inl h0⟩
  · exact ⟨_, c, rfl, hc, .inr ⟨b, off, rfl, Nat.lt_of_lt_of_le hb hB.1, hL.kp hB⟩⟩
theorem IsT.kp {w w' : World} {v : Value} {T : List Te} (h : IsT w v T) (hB : Kp w w') : IsT w' v T := by
  obtain ⟨ao, c, rfl, hc, h0 | ⟨b, off, rfl, hb, hL⟩⟩ := h
  · exact ⟨ao, c, rfl, hc, .inl h0⟩
  · exact ⟨_, c, rfl, hc, .inr ⟨b, off, rfl, Nat.lt_of_lt_of_le hb hB.1, hL.kp hB⟩⟩
theorem IsSh.kp {w w' : World} {v : Value} {h : Sh} (hs : IsSh w v h) (hB : Kp w w') : IsSh w' v h := by
  obtain ⟨a, b, c, rfl, h1, h2, h3⟩ := hs
  exact ⟨a, b, c, rfl, h1.kp hB, h2.kp hB, h3.kp hB⟩
theorem ShR.kp {w w' : World} {o : Option Value} {h : Option Sh} (hs : ShR w o h) (hB : Kp w w') : ShR w' o h := by
  rcases hs with h | ⟨v, s, h1, h2, h3⟩
  · exact .inl h
  · exact .inr ⟨v, s, h1, h2, h3.kp hB⟩
theorem MapSh.kp {κ : Type} {w w' : World} {k : TypeId} {enc : κ → Value} {b : Nat} {H : κ → Option Sh} (h : MapSh w k enc b H) (hb : w'.heap[b]? = w.heap[b]?) (hB : Kp w w') : MapSh w' k enc b H := by
  obtain ⟨F, h1, h2⟩ := h
  exact ⟨F, h1.of_block hb, fun x => (h2 x).kp hB⟩
theorem MapSh.lt {κ : Type} {w : World} {k : TypeId} {enc : κ → Value} {b : Nat} {H : κ → Option Sh} (h : MapSh w k enc b H) : b < w.heap.size := by
  obtain ⟨F, h1, h2⟩ := h
  exact h1.lt
theorem IsPl.but {w w' : World} {bt : Nat} {F : KeyV → Option Value} {v : Value} {H : ByteArray → Option Sh} {X : ByteArray → Option Bd} (h : IsPl w v H X) (hne : ∀ b1 b2, v = .agg #[.map (some b1), .map (some b2)] → b1 ≠ bt ∧ b2 ≠ bt) (hg : w.grownBy w' (some bt)) (hK : Kp w w') : IsPl w' v H X := by
  obtain ⟨b1, b2, h0, h1, h2⟩ := h
  obtain ⟨n1, n2⟩ := hne b1 b2 h0
  exact ⟨b1, b2, h0, h1.kp (hg.block _ h1.lt (by simpa using n1)) hK, OwnM.of_block h2 (hg.block _ (OwnM.lt h2) (by simpa using n2))⟩

theorem but_below {W0 wr W3 : World} {r : Option Nat} (h : W0.grownBy wr r) (h3 : Below wr.heap.size wr W3) : W0.grownBy W3 r :=
  ⟨h3.os.trans h.os, h3.tape.trans h.tape, h3.output.trans h.output, Nat.le_trans h.size h3.size, fun k hk hr => (h3.block k (Nat.lt_of_lt_of_le hk h.size)).trans (h.block k hk hr)⟩
theorem but_trans {W0 wr W3 : World} {r : Option Nat} (h : W0.grownBy wr r) (h3 : wr.grownBy W3 r) : W0.grownBy W3 r :=
  ⟨h3.os.trans h.os, h3.tape.trans h.tape, h3.output.trans h.output, Nat.le_trans h.size h3.size, fun k hk hr => (h3.block k (Nat.lt_of_lt_of_le hk h.size) hr).trans (h.block k hk hr)⟩
theorem but_app {W0 W3 w1 : World} {r s : Option Nat} (h : W0.grownBy W3 r) (h3 : W3.grownBy w1 s) (hs : ∀ g, s = some g → W0.heap.size ≤ g) : W0.grownBy w1 r :=
  ⟨h3.os.trans h.os, h3.tape.trans h.tape, h3.output.trans h.output, Nat.le_trans h.size h3.size, fun k hk hr => (h3.block k (Nat.lt_of_lt_of_le hk h.size) (fun e => by have := hs k e.symm; omega)).trans (h.block k hk hr)⟩
theorem but_of_below {w W : World} (h : Below w.heap.size w W) (r : Option Nat) : w.grownBy W r := ⟨h.os, h.tape, h.output, h.size, fun k hk _ => h.block k hk⟩
theorem below_but {w W : World} {B b : Nat} (h : w.grownBy W (some b)) (hB : B ≤ w.heap.size) (hb : B ≤ b) : Below B w W := ⟨h.os, h.tape, h.output, h.size, fun k hk => h.block k (by omega) (by simp; omega)⟩

theorem rget_ok {v : Value} {L : List Pr} {w : World} (h : IsR w v L) (hs : Sz L) (hr : rErr L = 0) (a : Nm) :
    Calls Tryz.prog 129 #[v, .string (bs a)] w fun e w' => e = .returned (.tuple #[.agg #[.int .i64 (valP (getP a L)).1, .int .i64 (valP (getP a L)).2.1, .string (valP (getP a L)).2.2], errV (if (getP a L).isNone = true then 5 else 0)]) ∧ Below w.heap.size w w' := by
  have c := get_any h hs (by have := rErr_len hr; unfold maxLen; omega) (bs a)
  rw [bs_toList] at c
  have e1 : getV a L = .agg #[.int .i64 (valP (getP a L)).1, .int .i64 (valP (getP a L)).2.1, .string (valP (getP a L)).2.2] ∧ rfErr a L = (if (getP a L).isNone = true then 5 else 0) := by
    unfold getV rfErr getP
    rw [if_pos hr]
    rcases idxP_spec a L 0 with hx | ⟨j, q, hx, hq, _⟩
    · rw [hx]; simp [valP]
    · rw [hx]
      have hne : ¬ ((0 + j : Nat) : Int) = -1 := by omega
      have ht : (((0 + j : Nat) : Int)).toNat = j := by omega
      rw [if_neg hne, if_neg hne, ht, hq]
      simp [valP]
  rw [e1.1, e1.2] at c
  exact c
end Go.Proofs.YtifhigajonafdaaGreat

/-
  A list of faults of the call's own, and another one behind it.
-/
namespace Go.Proofs.YtifhigajonafdaaGreat
open Go.RowKit
set_option linter.unusedVariables false
set_option linter.unusedSimpArgs false

theorem cellsX_one (l : List Ft) : ∀ u ∈ cellsX l, u.oneCell' = true := by
  intro u hu
  obtain ⟨f, _, hf⟩ := List.mem_flatMap.1 hu
  exact ft_one f u hf
theorem run_appX {w : World} {base base2 : Nat} {u1 u2 : Value} {l1 l2 : List Ft} (h1 : OwnX w base u1 l1) (h2 : OwnX w base2 u2 l2) (hl : l1.length + l2.length ≤ 100000) (hb : base ≤ w.heap.size) (ty : TypeId) :
    ∃ v' w', (Builtin.append_ #[92, 92] ty #[u1, u2]).run Tryz.prog w = .ok v' w' ∧ OwnX w' base v' (l1 ++ l2) ∧ w.grownBy w' u1.ownBlock := by
  obtain ⟨i0, hi0, hz0, hz1, hz2⟩ := info_parts infoX
  rcases h2.2 with ⟨rfl, hn⟩ | ⟨g, cap, cur, rfl, hbb, hg, rest⟩
  · have e : l2 = [] := List.eq_nil_of_length_eq_zero hn
    subst e
    refine ⟨u1, w, run_append_owned_none w base 92 ty 157 i0 3 Tryz.underlying92 hi0 u1 _ _ h1, by rw [List.append_nil]; exact h1, ⟨rfl, rfl, rfl, Nat.le_refl _, fun _ _ _ => rfl⟩⟩
  · obtain ⟨v', w', r1, r2, r3, _⟩ := run_append_own (P := Tryz.prog) w base 92 ty 157 i0 _ 3 32 Tryz.underlying92 hi0 hz0 hz1 hz2 rfl (by decide) u1 l1.length (cellsX l1) h1 ⟨g, 0, none⟩ l2.length cap (cellsX l2) (cellsX_len l2) (h2.cells rfl) (cellsX_one l2) (by unfold maxLen; omega) (by omega) hb
    exact ⟨v', w', r1, by unfold OwnX; rw [cellsX_app, List.length_append]; exact r2, r3⟩
theorem wp_appX {w : World} {o : Oper} {a : Act} {K : Act → World → Prop} {Q : Exit → Act → World → Prop} (s x : Operand) (ho : o.op = .call { callee := .builtin .append, args := #[s, x], argTypes := #[92, 92] })
    {base base2 : Nat} {u1 u2 : Value} {l1 l2 : List Ft} (hs : a.eval s = u1) (hx : a.eval x = u2) (h1 : OwnX w base u1 l1) (h2 : OwnX w base2 u2 l2) (hl : l1.length + l2.length ≤ 100000) (hb : base ≤ w.heap.size)
    (hK : ∀ v' w', OwnX w' base v' (l1 ++ l2) → w.grownBy w' u1.ownBlock → K (a.put o.dst v') w') : o.wp Tryz.prog a w K Q := by
  obtain ⟨v', w', hr, r2, r3⟩ := run_appX h1 h2 hl hb o.type
  unfold Oper.wp execOp
  simp only [ho, resolve, invoke, builtin, Sem.run_bind, Sem.run_pure, Result.andThen_ok, List.map_toArray, List.map_cons, List.map_nil, hs, hx, hr]
  exact hK v' w' r2 r3
theorem wpList_appX {w : World} {ops : Array Oper} {rest : List Oper} {o : Oper} {a : Act} {Q : Exit → Act → World → Prop} (hg : o.guard = none) (s x : Operand) (ho : o.op = .call { callee := .builtin .append, args := #[s, x], argTypes := #[92, 92] })
    {base base2 : Nat} {u1 u2 : Value} {l1 l2 : List Ft} (hs : a.eval s = u1) (hx : a.eval x = u2) (h1 : OwnX w base u1 l1) (h2 : OwnX w base2 u2 l2) (hl : l1.length + l2.length ≤ 100000) (hb : base ≤ w.heap.size)
    (hK : ∀ v' w', OwnX w' base v' (l1 ++ l2) → w.grownBy w' u1.ownBlock → wpList Tryz.prog ops Q rest (a.put o.dst v') w') : wpList Tryz.prog ops Q (o :: rest) a w := by
  refine wpList_plain hg fun K hK' => ?_
  exact wp_appX s x ho hs hx h1 h2 hl hb (fun v' w' r1 r2 => hK' _ _ (hK v' w' r1 r2))
theorem step_appX {w : World} {ops : Array Oper} {o : Oper} {a : Act} {K : Act → World → Prop} {Q : Exit → Act → World → Prop} {E : Prop} (hg : o.guard = none) (s x : Operand) (ho : o.op = .call { callee := .builtin .append, args := #[s, x], argTypes := #[92, 92] })
    {base base2 : Nat} {u1 u2 : Value} {l1 l2 : List Ft} (hs : a.eval s = u1) (hx : a.eval x = u2) (h1 : OwnX w base u1 l1) (h2 : OwnX w base2 u2 l2) (hl : l1.length + l2.length ≤ 100000) (hb : base ≤ w.heap.size)
    (hK : ∀ v' w', OwnX w' base v' (l1 ++ l2) → w.grownBy w' u1.ownBlock → K (a.put o.dst v') w') :
    if Region.wanted o (yielded ops a.tmps) = true then Oper.wp Tryz.prog o a w K Q else E := by
  have hw : Region.wanted o (yielded ops a.tmps) = true := by simp [Region.wanted, hg]
  rw [if_pos hw]
  exact wp_appX s x ho hs hx h1 h2 hl hb hK
theorem own_one (w : World) {base : Nat} (hb : base ≤ w.heap.size) (f : Ft) : OwnX (w.alloc (.cells #[.int .i64 f.wh, .int .i64 f.id, .string f.nm] 157)) base (.slice (some ⟨w.heap.size, 0, none⟩) 1 1) [f] := by
  have := World.ownsRow_lit (e := 157) (size := 3) (base := base) w #[.int .i64 f.wh, .int .i64 f.id, .string f.nm] 1 hb (by unfold maxLen; omega) rfl
  simpa [cellsX, Ft.cells, OwnX] using this
theorem own_but {w w' : World} {base : Nat} {u : Value} {l : List Ft} {bt : Nat} (h : OwnX w base u l) (hg : w.grownBy w' (some bt)) (hb : bt < base) : OwnX w' base u l := by
  refine World.ownsRow.kept h hg ?_
  cases hu : u.ownBlock with
  | none => exact .inl rfl
  | some g =>
    right
    intro e
    have := (World.ownsRow.lt h g hu).1
    have : g = bt := by simpa using e
    omega
end Go.Proofs.YtifhigajonafdaaGreat
