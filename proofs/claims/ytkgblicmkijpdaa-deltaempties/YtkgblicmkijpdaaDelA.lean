/-
  The walks of delta.copiedNode and delta.copied.
-/
import Derived.Test.YtkgblicmkijpdaaDelM
import Derived.Deep.DeepCutAuto
namespace Go.Proofs.Ytkgblicmkijpdaa
open Go.RowKit
set_option linter.unusedVariables false
set_option linter.unusedSimpArgs false

/-- The two boxes of copiedNode. -/
abbrev cpW (w : World) (n : Nd) : World := (w.alloc (.cells #[.int .i64 n.id, .string n.kd, n.rv] 30)).alloc (.cells #[.int .i64 0, .string ⟨#[]⟩, .slice none 0 0] 30)
theorem cpW_below (w : World) (n : Nd) : Below w.heap.size w (cpW w n) := b_alloc (b_alloc (Below.refl _ _) _) _
theorem cpW_0 (w : World) (n : Nd) : (cpW w n).heap[w.heap.size]? = some (.cells #[.int .i64 n.id, .string n.kd, n.rv] 30 (0, 0)) :=
  (heap_alloc_old _ _ (by simp)).trans (heap_alloc_new w _)
theorem cpW_1 (w : World) (n : Nd) : (cpW w n).heap[w.heap.size + 1]? = some (.cells #[.int .i64 0, .string ⟨#[]⟩, .slice none 0 0] 30 (0, 0)) := by
  have := heap_alloc_new (w.alloc (.cells #[.int .i64 n.id, .string n.kd, n.rv] 30)) (.cells #[.int .i64 0, .string ⟨#[]⟩, .slice none 0 0] 30)
  rwa [World.size_alloc] at this

set_option maxHeartbeats 1000000 in
theorem copiedNode_any (n : Nd) (w : World) (hR : IsR w n.rv n.rc) (hl : n.rc.length ≤ 1000) :
    Calls Try.prog 23 #[n.one] w fun e w' => ∃ v', e = .returned (.agg #[.int .i64 n.id, .string n.kd, v']) ∧ OwnRc w' w.heap.size v' n.rc ∧ Below w.heap.size w w' := by
  have hR0 := hR.on (cpW_below w n)
  have hcl := fun ty => clone_rec (cpW w n) w.heap.size (cpW_below w n).size hR0 hl ty
  have HB : Hid (Below w.heap.size w (cpW w n) ∧ (cpW w n).heap[w.heap.size]? = some (.cells #[.int .i64 n.id, .string n.kd, n.rv] 30 (0, 0)) ∧ (cpW w n).heap[w.heap.size + 1]? = some (.cells #[.int .i64 0, .string ⟨#[]⟩, .slice none 0 0] 30 (0, 0)) ∧ (cpW w n).heap.size = w.heap.size + 2) := ⟨cpW_below w n, cpW_0 w n, cpW_1 w n, by simp [cpW]⟩
  obtain ⟨av, lv, cv, hv⟩ := hR.sl
  obtain ⟨id, kd, rv, rc⟩ := n
  simp only at hv hl hcl HB
  subst hv
  clear hR hR0
  unfold cpW at hcl
  go_enter Try.func23, Try.ntmps23
  go_wp2_with (at_builtin; refine wpList_append_E rfl _ _ 28 rfl _ _ rfl rfl (hcl _) ?_; rintro v1 w1 ⟨hown, hgrow⟩; refine Hid.out ?_)
  refine Lib.hid ?_
  obtain ⟨ao, cp, rfl⟩ := own_slice hown
  obtain ⟨hB, h0, h1, hsz⟩ := HB.out
  have k0 := (hgrow.block w.heap.size (by simp; omega) (by simp)).trans h0
  have k1 := (hgrow.block (w.heap.size + 1) (by simp) (by simp)).trans h1
  have HO : Hid (OwnRc w1 w.heap.size (.slice ao rc.length cp) rc ∧ Below w.heap.size w w1 ∧ w1.heap[w.heap.size]? = some (.cells #[.int .i64 id, .string kd, .slice av lv cv] 30 (0, 0)) ∧ w1.heap[w.heap.size + 1]? = some (.cells #[.int .i64 0, .string ⟨#[]⟩, .slice none 0 0] 30 (0, 0))) := ⟨hown, below_grown hB hgrow (by rw [hsz]; omega) (fun k hk => by cases hk), k0, k1⟩
  have c0 : w1.cell? ⟨w.heap.size, 0, none⟩ = some (.int .i64 id) := cell_at k0 rfl
  have c1 : w1.cell? ⟨w.heap.size, 1, none⟩ = some (.string kd) := cell_at k0 rfl
  have c2 : w1.cell? ⟨w.heap.size, 2, none⟩ = some (.slice av lv cv) := cell_at k0 rfl
  have f2 : w1.frozen? ⟨w.heap.size, 2, none⟩ = false := frz_at k0
  have d0 : w1.cell? ⟨w.heap.size + 1, 0, none⟩ = some (.int .i64 0) := cell_at k1 rfl
  have d1 : w1.cell? ⟨w.heap.size + 1, 1, none⟩ = some (.string ⟨#[]⟩) := cell_at k1 rfl
  have d2 : w1.cell? ⟨w.heap.size + 1, 2, none⟩ = some (.slice none 0 0) := cell_at k1 rfl
  have g0 : w1.frozen? ⟨w.heap.size + 1, 0, none⟩ = false := frz_at k1
  have g1 : w1.frozen? ⟨w.heap.size + 1, 1, none⟩ = false := frz_at k1
  have g2 : w1.frozen? ⟨w.heap.size + 1, 2, none⟩ = false := frz_at k1
  clear hB h0 h1 hsz k0 k1 hown hgrow HB hcl
  go_wp2
  obtain ⟨o1, o2, o3, o4⟩ := HO.out
  refine bodyPost_ret (v := .agg #[.int .i64 id, .string kd, .slice ao rc.length cp]) ?_ rfl ⟨_, rfl, ?_, ?_⟩
  · simp [results, Try.results23, go_sem, c0, c1, c2, d0, d1, d2]
  · exact o1.kt (((Kt.refl _ _).ty ⟨_, o3⟩ (by decide) _ _).ty3 (Ty.set ⟨_, o4⟩ _ _ _) (by decide) _ _ _ _ _ _)
  · exact below_set3 (o2.setCell (Nat.le_refl _) _) (by omega) _ _ _ _ _ _

theorem grown_cell {w w' : World} (h : w.grownBy w' none) : ∀ (b i : Nat), b < w.heap.size → w'.cell? ⟨b, i, none⟩ = w.cell? ⟨b, i, none⟩ := fun b i hb => World.cell?_of_block (h.block b hb (by simp))
theorem grown_frozen {w w' : World} (h : w.grownBy w' none) : ∀ (b i : Nat), b < w.heap.size → w'.frozen? ⟨b, i, none⟩ = w.frozen? ⟨b, i, none⟩ := fun b i hb => World.frozen?_of_block (h.block b hb (by simp))
theorem grown_below {w w' : World} (h : w.grownBy w' none) : Below w.heap.size w w' := below_grown (Below.refl _ _) h (Nat.le_refl _) (fun k hk => by cases hk)
/-- The same nodes, wherever their records lie. -/
def Nd.c (n : Nd) : Nd := ⟨n.id, n.kd, .nilIface, n.rc⟩
def cN (N : List Nd) : List Nd := N.map Nd.c

theorem b_undrew {w W : World} (h : Below w.drew.heap.size w.drew W) : Below w.heap.size w W := ⟨h.os, h.tape, h.output, h.size, h.block⟩
theorem grown_lt {w w' : World} (h : w.grownBy w' none) : ∀ (x : Nat), x < w.heap.size → x < w'.heap.size := fun x hx => Nat.lt_of_lt_of_le hx h.size
theorem cell_old {w : World} {p : Addr} {v : Value} (h : w.cell? p = some v) (o : Obj) : (w.alloc o).cell? p = some v := ((b_alloc (Below.refl _ w) o).cell (cell_lt h)).trans h
/-- What lies behind the first line of copied. -/
def CpA (w W0 : World) (N : List Nd) (T : List Te) (s3 : Value) (wx : World) : Prop := ∃ p a1 p1 a2 p2, s3 = .pointer (some ⟨p, 0, none⟩) ∧ w.heap.size + 2 ≤ p ∧ wx.heap[p]? = some (.cells #[.slice a1 N.length p1, .slice a2 T.length p2] 25 (0, 0)) ∧ wx.ownsRow W0.heap.size 30 3 (.slice a1 N.length p1) N.length (cellsN N) ∧ OwnTs wx W0.heap.size (.slice a2 T.length p2) T ∧ Below W0.heap.size W0 wx
theorem cpA_alloc {w W0 X : World} {N : List Nd} {T : List Te} {a1 a2 : Option Addr} {p1 p2 : Nat} (hs : W0.heap.size = w.heap.size + 2) (h1 : X.ownsRow W0.heap.size 30 3 (.slice a1 N.length p1) N.length (cellsN N)) (h2 : OwnTs X W0.heap.size (.slice a2 T.length p2) T) (hB : Below W0.heap.size W0 X) :
    CpA w W0 N T (.pointer (some ⟨X.heap.size, 0, none⟩)) (X.alloc (.cells #[.slice a1 N.length p1, .slice a2 T.length p2] 25)) :=
  ⟨X.heap.size, a1, p1, a2, p2, rfl, by have := hB.size; omega, heap_alloc_new X _, h1.alloc _, World.ownsRow.alloc h2 _, b_alloc hB _⟩
theorem cpA_set {w W0 X : World} {N : List Nd} {T : List Te} {a1 a2 : Option Addr} {p1 p2 p : Nat} {z1 z2 : Value} (hs : W0.heap.size = w.heap.size + 2) (hp : w.heap.size + 2 ≤ p) (hX : X.heap[p]? = some (.cells #[z1, z2] 25 (0, 0))) (h1 : X.ownsRow W0.heap.size 30 3 (.slice a1 N.length p1) N.length (cellsN N)) (h2 : OwnTs X W0.heap.size (.slice a2 T.length p2) T) (hB : Below W0.heap.size W0 X) :
    CpA w W0 N T (.pointer (some ⟨p, 0, none⟩)) ((X.setCell ⟨p, 0, none⟩ (.slice a1 N.length p1)).setCell ⟨p, 1, none⟩ (.slice a2 T.length p2)) := by
  have e1 := heap_setCell_same X p 0 _ 25 (.slice a1 N.length p1) hX
  have e2 := heap_setCell_same _ p 1 _ 25 (.slice a2 T.length p2) e1
  have ty : Ty X p 25 := ⟨_, hX⟩
  refine ⟨p, a1, p1, a2, p2, rfl, hp, e2, own_kt h1 (((Kt.refl _ _).ty ty (by decide) _ _).ty (ty.set _ _ _) (by decide) _ _), own_kt h2 (((Kt.refl _ _).ty ty (by decide) _ _).ty (ty.set _ _ _) (by decide) _ _), (hB.setCell (by show _ ≤ p; omega) _).setCell (by show _ ≤ p; omega) _⟩
theorem cut3 (A : List Value) (j : Nat) (h : j + 3 ≤ A.length) : ∃ L x y z R, A = L ++ x :: y :: z :: R ∧ L.length = j := by
  refine ⟨A.take j, A[j], A[j + 1], A[j + 2], A.drop (j + 3), ?_, by simp; omega⟩
  rw [← List.drop_eq_getElem_cons (by omega), ← List.drop_eq_getElem_cons (by omega), ← List.drop_eq_getElem_cons (by omega), List.take_append_drop]
theorem set3 (A : List Value) (j : Nat) (a b c : Value) (h : j + 3 ≤ A.length) : ((A.set j a).set (j + 1) b).set (j + 2) c = A.take j ++ [a, b, c] ++ A.drop (j + 3) := by
  obtain ⟨L, x, y, z, R, rfl, rfl⟩ := cut3 A j h
  simp [List.set_append, List.take_append, List.drop_append]
theorem cellsN_set (M : List Nd) (k : Nat) (hk : k < M.length) (a : Int) (b : ByteArray) (v : Value) (rc : List Pr) : (((cellsN M).set (k * 3) (.int .i64 a)).set (k * 3 + 1) (.string b)).set (k * 3 + 2) v = cellsN (M.set k ⟨a, b, v, rc⟩) := by
  have hl : (cellsN M).length = M.length * 3 := flatK_len nd_len M
  rw [set3 _ _ _ _ _ (by rw [hl]; omega)]
  unfold cellsN
  rw [flatK_set nd_len M k _ hk, show (k + 1) * 3 = k * 3 + 3 by omega]
  rfl
theorem cN_set {M N : List Nd} {k : Nat} {n x : Nd} (h : cN M = cN N) (hn : M[k]? = some n) (hx : x.c = n.c) : cN (M.set k x) = cN N := by
  rw [← h]
  unfold cN
  rw [List.map_set, hx]
  apply List.ext_getElem?
  intro j
  by_cases e : k = j
  · subst e
    have hk : k < M.length := (List.getElem?_eq_some_iff.1 hn).1
    rw [List.getElem?_set_self (by simpa using hk)]
    simp [hn]
  · rw [List.getElem?_set_ne e]
/-- Where the loop of copied stands. -/
def CpB (w W0 : World) (p : Nat) (vn vt : Value) (N : List Nd) (T : List Te) (i : Nat) (wr : World) : Prop := ∃ M : List Nd, M.length = N.length ∧ cN M = cN N ∧ wr.heap[p]? = some (.cells #[vn, vt] 25 (0, 0)) ∧ wr.ownsRow W0.heap.size 30 3 vn N.length (cellsN M) ∧ (∀ k n, M[k]? = some n → k < i → OwnRc wr W0.heap.size n.rv n.rc) ∧ (∀ k : Nat, i ≤ k → M[k]? = N[k]?) ∧ OwnTs wr W0.heap.size vt T ∧ Below W0.heap.size W0 wr
theorem cpB_step {w W0 wr W2 : World} {p g cap i : Nat} {vt v' : Value} {N : List Nd} {T : List Te} {n : Nd} (h : CpB w W0 p (.slice (some ⟨g, 0, none⟩) N.length cap) vt N T i wr) (hn : N[i]? = some n) (hr : OwnRc W2 wr.heap.size v' n.rc) (hB : Below wr.heap.size wr W2) :
    CpB w W0 p (.slice (some ⟨g, 0, none⟩) N.length cap) vt N T (i + 1) (((W2.setCell ⟨g, i * 3, none⟩ (.int .i64 n.id)).setCell ⟨g, i * 3 + 1, none⟩ (.string n.kd)).setCell ⟨g, i * 3 + 2, none⟩ v') := by
  obtain ⟨M, m1, m2, m3, m4, m5, m6, m7, m8⟩ := h
  have hi : i < M.length := by rw [m1]; exact (List.getElem?_eq_some_iff.1 hn).1
  have hM : M[i]? = some n := (m6 i (Nat.le_refl _)).trans hn
  have o2 := own_kt m4 (Kt.of_below hB)
  obtain ⟨s1, t1⟩ := World.ownsRow.stored o2 (i * 3) (.int .i64 n.id)
  obtain ⟨s2, t2⟩ := World.ownsRow.stored s1 (i * 3 + 1) (.string n.kd)
  obtain ⟨s3, t3⟩ := World.ownsRow.stored s2 (i * 3 + 2) v'
  rw [cellsN_set M i hi n.id n.kd v' n.rc] at s3
  have ty : Ty W2 g 30 := by
    rcases o2.2 with ⟨e, _⟩ | ⟨g', cap', cur, e, _, hg, _⟩
    · cases e
    · injection e with e1; injection e1 with e2; injection e2 with e3; subst e3; exact ⟨_, hg⟩
  have hgp : g ≠ p := by
    intro e; subst e
    obtain ⟨cs, hc⟩ := ty
    have := (hB.block g (Array.getElem?_eq_some_iff.1 m3).1).trans m3
    rw [hc] at this
    injection this with e1; injection e1 with _ e2; exact absurd e2 (by decide)
  have hwr : W0.heap.size ≤ wr.heap.size := m8.size
  have hgw : W0.heap.size ≤ g := (World.ownsRow.lt o2 g rfl).1
  have kr : Kt 38 W2 (((W2.setCell ⟨g, i * 3, none⟩ (.int .i64 n.id)).setCell ⟨g, i * 3 + 1, none⟩ (.string n.kd)).setCell ⟨g, i * 3 + 2, none⟩ v') := (Kt.refl _ _).ty3 ty (by decide) _ _ _ _ _ _
  have kt : Kt 40 W2 (((W2.setCell ⟨g, i * 3, none⟩ (.int .i64 n.id)).setCell ⟨g, i * 3 + 1, none⟩ (.string n.kd)).setCell ⟨g, i * 3 + 2, none⟩ v') := (Kt.refl _ _).ty3 ty (by decide) _ _ _ _ _ _
  refine ⟨M.set i ⟨n.id, n.kd, v', n.rc⟩, by simpa using m1, cN_set m2 hM rfl, ?_, s3, fun k x hx hk => ?_, fun k hk => ?_, (m7.kt (.of_below hB)).kt kt, ?_⟩
  · refine (heap_setCell_other _ ⟨g, i * 3 + 2, none⟩ p _ (Ne.symm hgp)).trans ((heap_setCell_other _ ⟨g, i * 3 + 1, none⟩ p _ (Ne.symm hgp)).trans ((heap_setCell_other _ ⟨g, i * 3, none⟩ p _ (Ne.symm hgp)).trans ?_))
    exact (hB.block p (Array.getElem?_eq_some_iff.1 m3).1).trans m3
  · by_cases e : i = k
    · subst e
      rw [List.getElem?_set_self hi] at hx
      injection hx with hx
      subst hx
      exact OwnRc.kt (own_base hr hwr) kr
    · rw [List.getElem?_set_ne e] at hx
      exact ((m5 k x hx (by omega)).kt (.of_below hB)).kt kr
  · rw [List.getElem?_set_ne (by omega)]
    exact m6 k (by omega)
  · exact below_set3 (on1K m8 hB (Nat.le_refl _)) hgw _ _ _ _ _ _
end Go.Proofs.Ytkgblicmkijpdaa
