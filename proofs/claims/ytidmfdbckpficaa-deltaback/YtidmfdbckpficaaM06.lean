/-
  The walks of delta.copiedNode and delta.copied.
-/
import Derived.Test.YtidmfdbckpficaaM05
import Derived.Deep.DeepCutAuto
import Derived.Laws.Externs
import Derived.Deep.QuietTactic
import Derived.BigQuiet
import Derived.BigGuard
import Derived.Deep.RegionWith
namespace Go.Proofs.Ytidmfdbckpficaa
open Go.RowKit
set_option linter.unusedVariables false
set_option linter.unusedSimpArgs false

/-- The two boxes of copiedNode. -/
abbrev cpW (w : World) (n : Nd) : World := (w.alloc (.cells #[.int .i64 n.id, .string n.kd, n.rv] 30)).alloc (.cells #[.int .i64 0, .string ⟨#[]⟩, .slice none 0 0] 30)
theorem cpW_below (w : World) (n : Nd) : Below w.heap.size w (cpW w n) := b_alloc (b_alloc (Below.refl _ _) _) _
theorem cpW_0 (w : World) (n : Nd) : (cpW w n).heap[w.heap.size]? = some (.cells #[.int .i64 n.id, .string n.kd, n.rv] 30 (0, 0)) :=
  (heap_alloc_old _ _ (by simp)).trans (heap_alloc_new w _)
theorem cpW_1 (w : World) (n : Nd) : (cpW w n).heap[w.heap.size + 1]? = some (.cells #[.int .i64 0, .string ⟨#[]⟩, .slice none 0 0] 30 (0, 0)) := by
  have := heap_alloc_new (w.alloc (.cells #[.int .i64 n.id, .string n.kd, n.rv] 30)) (.cells #[.int .i64 0, .string ⟨#[]⟩, .slice none 0 0] 30)
  rwa [World.size_alloc] at this

set_option maxHeartbeats 1000000 in
theorem copiedNode_any (n : Nd) (w : World) (hR : IsR w n.rv n.rc) (hl : n.rc.length ≤ 1000) :
    Calls Try.prog 23 #[n.one] w fun e w' => ∃ v', e = .returned (.agg #[.int .i64 n.id, .string n.kd, v']) ∧ OwnRc w' w.heap.size v' n.rc ∧ Below w.heap.size w w' := by
  have hR0 := hR.on (cpW_below w n)
  have hcl := fun ty => clone_rec (cpW w n) w.heap.size (cpW_below w n).size hR0 hl ty
  have HB : Hid (Below w.heap.size w (cpW w n) ∧ (cpW w n).heap[w.heap.size]? = some (.cells #[.int .i64 n.id, .string n.kd, n.rv] 30 (0, 0)) ∧ (cpW w n).heap[w.heap.size + 1]? = some (.cells #[.int .i64 0, .string ⟨#[]⟩, .slice none 0 0] 30 (0, 0)) ∧ (cpW w n).heap.size = w.heap.size + 2) := ⟨cpW_below w n, cpW_0 w n, cpW_1 w n, by simp [cpW]⟩
  obtain ⟨av, lv, cv, hv⟩ := hR.sl
  obtain ⟨id, kd, rv, rc⟩ := n
  simp only at hv hl hcl HB
  subst hv
  clear hR hR0
  unfold cpW at hcl
  go_enter Try.func23, Try.ntmps23
  go_wp2_with (at_builtin; refine wpList_append_E rfl _ _ 28 rfl _ _ rfl rfl (hcl _) ?_; rintro v1 w1 ⟨hown, hgrow⟩; refine Hid.out ?_)
  refine Lib.hid ?_
  obtain ⟨ao, cp, rfl⟩ := own_slice hown
  obtain ⟨hB, h0, h1, hsz⟩ := HB.out
  have k0 := (hgrow.block w.heap.size (by simp; omega) (by simp)).trans h0
  have k1 := (hgrow.block (w.heap.size + 1) (by simp) (by simp)).trans h1
  have HO : Hid (OwnRc w1 w.heap.size (.slice ao rc.length cp) rc ∧ Below w.heap.size w w1 ∧ w1.heap[w.heap.size]? = some (.cells #[.int .i64 id, .string kd, .slice av lv cv] 30 (0, 0)) ∧ w1.heap[w.heap.size + 1]? = some (.cells #[.int .i64 0, .string ⟨#[]⟩, .slice none 0 0] 30 (0, 0))) := ⟨hown, below_grown hB hgrow (by rw [hsz]; omega) (fun k hk => by cases hk), k0, k1⟩
  have c0 : w1.cell? ⟨w.heap.size, 0, none⟩ = some (.int .i64 id) := cell_at k0 rfl
  have c1 : w1.cell? ⟨w.heap.size, 1, none⟩ = some (.string kd) := cell_at k0 rfl
  have c2 : w1.cell? ⟨w.heap.size, 2, none⟩ = some (.slice av lv cv) := cell_at k0 rfl
  have f2 : w1.frozen? ⟨w.heap.size, 2, none⟩ = false := frz_at k0
  have d0 : w1.cell? ⟨w.heap.size + 1, 0, none⟩ = some (.int .i64 0) := cell_at k1 rfl
  have d1 : w1.cell? ⟨w.heap.size + 1, 1, none⟩ = some (.string ⟨#[]⟩) := cell_at k1 rfl
  have d2 : w1.cell? ⟨w.heap.size + 1, 2, none⟩ = some (.slice none 0 0) := cell_at k1 rfl
  have g0 : w1.frozen? ⟨w.heap.size + 1, 0, none⟩ = false := frz_at k1
  have g1 : w1.frozen? ⟨w.heap.size + 1, 1, none⟩ = false := frz_at k1
  have g2 : w1.frozen? ⟨w.heap.size + 1, 2, none⟩ = false := frz_at k1
  clear hB h0 h1 hsz k0 k1 hown hgrow HB hcl
  go_wp2
  obtain ⟨o1, o2, o3, o4⟩ := HO.out
  refine bodyPost_ret (v := .agg #[.int .i64 id, .string kd, .slice ao rc.length cp]) ?_ rfl ⟨_, rfl, ?_, ?_⟩
  · simp [results, Try.results23, go_sem, c0, c1, c2, d0, d1, d2]
  · exact o1.kt (((Kt.refl _ _).ty ⟨_, o3⟩ (by decide) _ _).ty3 (Ty.set ⟨_, o4⟩ _ _ _) (by decide) _ _ _ _ _ _)
  · exact below_set3 (o2.setCell (Nat.le_refl _) _) (by omega) _ _ _ _ _ _

theorem grown_cell {w w' : World} (h : w.grownBy w' none) : ∀ (b i : Nat), b < w.heap.size → w'.cell? ⟨b, i, none⟩ = w.cell? ⟨b, i, none⟩ := fun b i hb => World.cell?_of_block (h.block b hb (by simp))
theorem grown_frozen {w w' : World} (h : w.grownBy w' none) : ∀ (b i : Nat), b < w.heap.size → w'.frozen? ⟨b, i, none⟩ = w.frozen? ⟨b, i, none⟩ := fun b i hb => World.frozen?_of_block (h.block b hb (by simp))
theorem grown_below {w w' : World} (h : w.grownBy w' none) : Below w.heap.size w w' := below_grown (Below.refl _ _) h (Nat.le_refl _) (fun k hk => by cases hk)
/-- The same nodes, wherever their records lie. -/
def Nd.c (n : Nd) : Nd := ⟨n.id, n.kd, .nilIface, n.rc⟩
def cN (N : List Nd) : List Nd := N.map Nd.c

theorem b_undrew {w W : World} (h : Below w.drew.heap.size w.drew W) : Below w.heap.size w W := ⟨h.os, h.tape, h.output, h.size, h.block⟩
theorem grown_lt {w w' : World} (h : w.grownBy w' none) : ∀ (x : Nat), x < w.heap.size → x < w'.heap.size := fun x hx => Nat.lt_of_lt_of_le hx h.size
theorem cell_old {w : World} {p : Addr} {v : Value} (h : w.cell? p = some v) (o : Obj) : (w.alloc o).cell? p = some v := ((b_alloc (Below.refl _ w) o).cell (cell_lt h)).trans h
/-- What lies behind the first line of copied. -/
def CpA (w W0 : World) (N : List Nd) (T : List Te) (s3 : Value) (wx : World) : Prop := ∃ p a1 p1 a2 p2, s3 = .pointer (some ⟨p, 0, none⟩) ∧ w.heap.size + 2 ≤ p ∧ wx.heap[p]? = some (.cells #[.slice a1 N.length p1, .slice a2 T.length p2] 25 (0, 0)) ∧ wx.ownsRow W0.heap.size 30 3 (.slice a1 N.length p1) N.length (cellsN N) ∧ OwnTs wx W0.heap.size (.slice a2 T.length p2) T ∧ Below W0.heap.size W0 wx
theorem cpA_alloc {w W0 X : World} {N : List Nd} {T : List Te} {a1 a2 : Option Addr} {p1 p2 : Nat} (hs : W0.heap.size = w.heap.size + 2) (h1 : X.ownsRow W0.heap.size 30 3 (.slice a1 N.length p1) N.length (cellsN N)) (h2 : OwnTs X W0.heap.size (.slice a2 T.length p2) T) (hB : Below W0.heap.size W0 X) :
    CpA w W0 N T (.pointer (some ⟨X.heap.size, 0, none⟩)) (X.alloc (.cells #[.slice a1 N.length p1, .slice a2 T.length p2] 25)) :=
  ⟨X.heap.size, a1, p1, a2, p2, rfl, by have := hB.size; omega, heap_alloc_new X _, h1.alloc _, World.ownsRow.alloc h2 _, b_alloc hB _⟩
theorem cpA_set {w W0 X : World} {N : List Nd} {T : List Te} {a1 a2 : Option Addr} {p1 p2 p : Nat} {z1 z2 : Value} (hs : W0.heap.size = w.heap.size + 2) (hp : w.heap.size + 2 ≤ p) (hX : X.heap[p]? = some (.cells #[z1, z2] 25 (0, 0))) (h1 : X.ownsRow W0.heap.size 30 3 (.slice a1 N.length p1) N.length (cellsN N)) (h2 : OwnTs X W0.heap.size (.slice a2 T.length p2) T) (hB : Below W0.heap.size W0 X) :
    CpA w W0 N T (.pointer (some ⟨p, 0, none⟩)) ((X.setCell ⟨p, 0, none⟩ (.slice a1 N.length p1)).setCell ⟨p, 1, none⟩ (.slice a2 T.length p2)) := by
  have e1 := heap_setCell_same X p 0 _ 25 (.slice a1 N.length p1) hX
  have e2 := heap_setCell_same _ p 1 _ 25 (.slice a2 T.length p2) e1
  have ty : Ty X p 25 := ⟨_, hX⟩
  refine ⟨p, a1, p1, a2, p2, rfl, hp, e2, own_kt h1 (((Kt.refl _ _).ty ty (by decide) _ _).ty (ty.set _ _ _) (by decide) _ _), own_kt h2 (((Kt.refl _ _).ty ty (by decide) _ _).ty (ty.set _ _ _) (by decide) _ _), (hB.setCell (by show _ ≤ p; omega) _).setCell (by show _ ≤ p; omega) _⟩
theorem cut3 (A : List Value) (j : Nat) (h : j + 3 ≤ A.length) : ∃ L x y z R, A = L ++ x :: y :: z :: R ∧ L.length = j := by
  refine ⟨A.take j, A[j], A[j + 1], A[j + 2], A.drop (j + 3), ?_, by simp; omega⟩
  rw [← List.drop_eq_getElem_cons (by omega), ← List.drop_eq_getElem_cons (by omega), ← List.drop_eq_getElem_cons (by omega), List.take_append_drop]
theorem set3 (A : List Value) (j : Nat) (a b c : Value) (h : j + 3 ≤ A.length) : ((A.set j a).set (j + 1) b).set (j + 2) c = A.take j ++ [a, b, c] ++ A.drop (j + 3) := by
  obtain ⟨L, x, y, z, R, rfl, rfl⟩ := cut3 A j h
  simp [List.set_append, List.take_append, List.drop_append]
theorem cellsN_set (M : List Nd) (k : Nat) (hk : k < M.length) (a : Int) (b : ByteArray) (v : Value) (rc : List Pr) : (((cellsN M).set (k * 3) (.int .i64 a)).set (k * 3 + 1) (.string b)).set (k * 3 + 2) v = cellsN (M.set k ⟨a, b, v, rc⟩) := by
  have hl : (cellsN M).length = M.length * 3 := flatK_len nd_len M
  rw [set3 _ _ _ _ _ (by rw [hl]; omega)]
  unfold cellsN
  rw [flatK_set nd_len M k _ hk, show (k + 1) * 3 = k * 3 + 3 by omega]
  rfl
theorem cN_set {M N : List Nd} {k : Nat} {n x : Nd} (h : cN M = cN N) (hn : M[k]? = some n) (hx : x.c = n.c) : cN (M.set k x) = cN N := by
  rw [← h]
  unfold cN
  rw [List.map_set, hx]
  apply List.ext_getElem?
  intro j
  by_cases e : k = j
  · subst e
    have hk : k < M.length := (List.getElem?_eq_some_iff.1 hn).1
    rw [List.getElem?_set_self (by simpa using hk)]
    simp [hn]
  · rw [List.getElem?_set_ne e]
/-- Where the loop of copied stands. -/
def CpB (w W0 : World) (p : Nat) (vn vt : Value) (N : List Nd) (T : List Te) (i : Nat) (wr : World) : Prop := ∃ M : List Nd, M.length = N.length ∧ cN M = cN N ∧ wr.heap[p]? = some (.cells #[vn, vt] 25 (0, 0)) ∧ wr.ownsRow W0.heap.size 30 3 vn N.length (cellsN M) ∧ (∀ k n, M[k]? = some n → k < i → OwnRc wr W0.heap.size n.rv n.rc) ∧ (∀ k : Nat, i ≤ k → M[k]? = N[k]?) ∧ OwnTs wr W0.heap.size vt T ∧ Below W0.heap.size W0 wr
theorem cpB_step {w W0 wr W2 : World} {p g cap i : Nat} {vt v' : Value} {N : List Nd} {T : List Te} {n : Nd} (h : CpB w W0 p (.slice (some ⟨g, 0, none⟩) N.length cap) vt N T i wr) (hn : N[i]? = some n) (hr : OwnRc W2 wr.heap.size v' n.rc) (hB : Below wr.heap.size wr W2) :
    CpB w W0 p (.slice (some ⟨g, 0, none⟩) N.length cap) vt N T (i + 1) (((W2.setCell ⟨g, i * 3, none⟩ (.int .i64 n.id)).setCell ⟨g, i * 3 + 1, none⟩ (.string n.kd)).setCell ⟨g, i * 3 + 2, none⟩ v') := by
  obtain ⟨M, m1, m2, m3, m4, m5, m6, m7, m8⟩ := h
  have hi : i < M.length := by rw [m1]; exact (List.getElem?_eq_some_iff.1 hn).1
  have hM : M[i]? = some n := (m6 i (Nat.le_refl _)).trans hn
  have o2 := own_kt m4 (Kt.of_below hB)
  obtain ⟨s1, t1⟩ := World.ownsRow.stored o2 (i * 3) (.int .i64 n.id)
  obtain ⟨s2, t2⟩ := World.ownsRow.stored s1 (i * 3 + 1) (.string n.kd)
  obtain ⟨s3, t3⟩ := World.ownsRow.stored s2 (i * 3 + 2) v'
  rw [cellsN_set M i hi n.id n.kd v' n.rc] at s3
  have ty : Ty W2 g 30 := by
    rcases o2.2 with ⟨e, _⟩ | ⟨g', cap', cur, e, _, hg, _⟩
    · cases e
    · injection e with e1; injection e1 with e2; injection e2 with e3; subst e3; exact ⟨_, hg⟩
  have hgp : g ≠ p := by
    intro e; subst e
    obtain ⟨cs, hc⟩ := ty
    have := (hB.block g (Array.getElem?_eq_some_iff.1 m3).1).trans m3
    rw [hc] at this
    injection this with e1; injection e1 with _ e2; exact absurd e2 (by decide)
  have hwr : W0.heap.size ≤ wr.heap.size := m8.size
  have hgw : W0.heap.size ≤ g := (World.ownsRow.lt o2 g rfl).1
  have kr : Kt 38 W2 (((W2.setCell ⟨g, i * 3, none⟩ (.int .i64 n.id)).setCell ⟨g, i * 3 + 1, none⟩ (.string n.kd)).setCell ⟨g, i * 3 + 2, none⟩ v') := (Kt.refl _ _).ty3 ty (by decide) _ _ _ _ _ _
  have kt : Kt 40 W2 (((W2.setCell ⟨g, i * 3, none⟩ (.int .i64 n.id)).setCell ⟨g, i * 3 + 1, none⟩ (.string n.kd)).setCell ⟨g, i * 3 + 2, none⟩ v') := (Kt.refl _ _).ty3 ty (by decide) _ _ _ _ _ _
  refine ⟨M.set i ⟨n.id, n.kd, v', n.rc⟩, by simpa using m1, cN_set m2 hM rfl, ?_, s3, fun k x hx hk => ?_, fun k hk => ?_, (m7.kt (.of_below hB)).kt kt, ?_⟩
  · refine (heap_setCell_other _ ⟨g, i * 3 + 2, none⟩ p _ (Ne.symm hgp)).trans ((heap_setCell_other _ ⟨g, i * 3 + 1, none⟩ p _ (Ne.symm hgp)).trans ((heap_setCell_other _ ⟨g, i * 3, none⟩ p _ (Ne.symm hgp)).trans ?_))
    exact (hB.block p (Array.getElem?_eq_some_iff.1 m3).1).trans m3
  · by_cases e : i = k
    · subst e
      rw [List.getElem?_set_self hi] at hx
      injection hx with hx
      subst hx
      exact OwnRc.kt (own_base hr hwr) kr
    · rw [List.getElem?_set_ne e] at hx
      exact ((m5 k x hx (by omega)).kt (.of_below hB)).kt kr
  · rw [List.getElem?_set_ne (by omega)]
    exact m6 k (by omega)
  · exact below_set3 (on1K m8 hB (Nat.le_refl _)) hgw _ _ _ _ _ _
end Go.Proofs.Ytidmfdbckpficaa

/-
  The walks of delta.findNode and what it calls: where the node of an id stands, or would stand.
-/
namespace Go.Proofs.Ytidmfdbckpficaa
open Go.RowKit
set_option linter.unusedVariables false
set_option linter.unusedSimpArgs false

/-- Nodes rise by their ids. -/
def SrtN (N : List Nd) : Prop := N.Pairwise fun a b => a.id < b.id
/-- How many are ahead of an id. -/
def loN (id : Int) : List Nd → Nat
  | [] => 0
  | n :: r => if n.id < id then loN id r + 1 else 0
theorem loN_le (id : Int) : ∀ l : List Nd, loN id l ≤ l.length
  | [] => Nat.le_refl _
  | n :: r => by have := loN_le id r; unfold loN; split <;> simp <;> omega
theorem loN_spec (id : Int) : ∀ {l : List Nd}, SrtN l → ∀ (i : Nat) (g : Nd), l[i]? = some g → (i < loN id l ↔ g.id < id)
  | [], _, i, g, hg => by simp at hg
  | x :: r, h, i, g, hg => by
    obtain ⟨h1, h2⟩ := List.pairwise_cons.1 h
    by_cases hx : x.id < id
    · have e : loN id (x :: r) = loN id r + 1 := by simp [loN, hx]
      rw [e]
      cases i with
      | zero => simp at hg; subst hg; simp [hx]
      | succ i =>
        have := loN_spec id h2 i g (by simpa using hg)
        rw [← this]; omega
    · have e : loN id (x :: r) = 0 := by simp [loN, hx]
      rw [e]
      have hge : x.id ≤ g.id := by
        cases i with
        | zero => simp at hg; subst hg; omega
        | succ i => have := h1 g (List.mem_of_getElem? (by simpa using hg)); omega
      constructor
      · intro h; omega
      · intro h; omega
/-- Is an id there, where it would stand? -/
def fndN (id : Int) (N : List Nd) : Bool := match N[loN id N]? with
  | some g => g.id == id
  | none => false
theorem cmpI_lt (x y : Int) : Lib.compareInt x y < 0 ↔ x < y := by unfold Lib.compareInt; split <;> (try split) <;> omega
theorem cmpI_zero (x y : Int) : Lib.compareInt x y = 0 ↔ x = y := by unfold Lib.compareInt; split <;> (try split) <;> omega

set_option maxHeartbeats 1000000 in
theorem byId_any (n : Nd) (id : Int) (w : World) (hv : ∃ a l c, n.rv = .slice a l c) :
    Calls Try.prog 81 #[n.one, .int .i64 id] w fun e w' => e = .returned (.int .i64 (Lib.compareInt n.id id)) ∧ Below w.heap.size w w' := by
  obtain ⟨i, kd, rv, rc⟩ := n
  obtain ⟨a, l, c, rfl⟩ := hv
  have cc := fun w => cmp_any i id w
  simp only
  generalize Lib.compareInt i id = r at cc ⊢
  go_enter Try.func81, Try.ntmps81
  go_wp2_with (go_at_call 71; refine (cc _).mono ?_; rintro e w' ⟨rfl, rfl⟩)
  go_ret
  exact ⟨rfl, b_alloc (Below.refl _ _) _⟩

/-- A region that draws, whose operations read what is the same in every world that comes after this one: walked once. -/
theorem wp_region_after {P : Program} {X : Type} (F : X → World) {id : Nat} {Q : Exit → Act → World → Prop} {a : Act} {w : World} {l : List Oper} (hm : P.follows .mixedOrders = true) (hB : Region.lexB .any l.toArray = true)
    (hC : ∃ x, { w with drawn := w.drawn + 1 } = F x) (h : wpQuiet P l.toArray (fun w' => ∃ x, w' = F x) (fun a' => ∀ w', (∃ x, w' = F x) → Q .normal a' w') l a) : (Code.region id l.toArray true).wp P Q a w :=
  wp_region_quiet (C := fun w' => ∃ x, w' = F x) hm hB hC (by simpa using h)
/-- The worlds after this one, by a name each. -/
theorem after_all (w : World) : ∃ (X : Type) (_ : Nonempty X) (F : X → World), (∀ x, Below w.heap.size w (F x)) ∧ (∀ W, Below w.heap.size w W → ∃ x, W = F x) :=
  ⟨{ W // Below w.heap.size w W }, ⟨⟨w, Below.refl _ _⟩⟩, Subtype.val, fun x => x.2, fun W h => ⟨⟨W, h⟩, rfl⟩⟩

set_option maxHeartbeats 4000000 in
set_option maxRecDepth 100000 in
theorem searchN_some (b off cap : Nat) (L : List Nd) (id : Int) (w : World) (hb : b < w.heap.size) (hL : LiesN w b off L) (hs : SrtN L) (hn : L.length ≤ 96) :
    Calls Try.prog 80 #[.slice (some ⟨b, off, none⟩) L.length cap, .int .i64 id, .func (.func 81) #[] #[]] w fun e w' => e = .returned (.tuple #[.int .i64 (loN id L), .bool (fndN id L)]) ∧ Below w.heap.size w w' := by
  have hlo := loN_le id L
  have HS : Hid (LiesN w b off L ∧ SrtN L) := ⟨hL, hs⟩
  clear hL hs
  go_enter Try.func80, Try.ntmps80
  go_wp2
  go_loopw [9, 10] (fun i j wr => ∃ p q : Nat, p ≤ loN id L ∧ loN id L ≤ q ∧ q ≤ L.length ∧ i = .int .i64 p ∧ j = .int .i64 q ∧ Below w.heap.size w wr) (fun i j _ => (intOf j).toNat - (intOf i).toNat)
  case atStart => exact ⟨0, L.length, Nat.zero_le _, hlo, Nat.le_refl _, rfl, rfl, Below.refl _ _⟩
  case round =>
    obtain ⟨p, q, h1, h2, h3, rfl, rfl, hBw⟩ := hrel
    have HR : Hid (p ≤ loN id L ∧ loN id L ≤ q ∧ Below w.heap.size w wr) := ⟨h1, h2, hBw⟩
    by_cases hlt : p < q
    · obtain ⟨m, hm⟩ : ∃ m, m = (p + q) / 2 := ⟨_, rfl⟩
      have hml : m < L.length := by omega
      have hmq : m < q := by omega
      have hpm : p ≤ m := by omega
      have hdiv : ((p : Int) + (q : Int)) / 2 = (m : Int) := by omega
      obtain ⟨x, hx⟩ : ∃ x, L[m]? = some x := ⟨L[m], by simp [hml]⟩
      obtain ⟨c0, c1, c2, c3⟩ := HS.out.1 m x hx
      have d0 := (hBw.cell (p := ⟨b, off + m * 3, none⟩) hb).trans c0
      have d1 := (hBw.cell (p := ⟨b, off + m * 3 + 1, none⟩) hb).trans c1
      have d2 := (hBw.cell (p := ⟨b, off + m * 3 + 2, none⟩) hb).trans c2
      have hsp := loN_spec id HS.out.2 m x hx
      rw [← cmpI_lt] at hsp
      have cb := fun W => byId_any x id W c3.sl
      obtain ⟨av, lv, cv, hv⟩ := c3.sl
      obtain ⟨r, hr⟩ : ∃ r, Lib.compareInt x.id id = r := ⟨_, rfl⟩
      rw [hr] at cb hsp
      obtain ⟨xi, xk, xv, xr⟩ := x
      simp only at hv d0 d1 d2 cb
      subst hv
      clear c0 c1 c2 c3 hr hx hm
      by_cases hr0 : r < 0
      · have HM : Hid (m + 1 ≤ loN id L) := hsp.2 hr0
        clear hsp h1 h2
        go_wp2_with fail
        try rw [hdiv]
        clear hdiv
        go_wp2_with (go_at_call 81; refine (cb _).mono ?_; rintro e W2 ⟨rfl, hB2⟩)
        go_roundw
        case rel => exact ⟨m + 1, q, HM.out, HR.out.2.1, h3, by go_num, rfl, on1K HR.out.2.2 hB2 (Nat.le_refl _)⟩
        case measure => simp [intOf]; omega
      · have HM : Hid (loN id L ≤ m) := by
          show _ ≤ _
          have : ¬ m < loN id L := fun h => hr0 (hsp.1 h)
          omega
        clear hsp h1 h2
        go_wp2_with fail
        try rw [hdiv]
        clear hdiv
        go_wp2_with (go_at_call 81; refine (cb _).mono ?_; rintro e W2 ⟨rfl, hB2⟩)
        go_roundw
        case rel => exact ⟨p, m, HR.out.1, HM.out, by omega, rfl, by go_num, on1K HR.out.2.2 hB2 (Nat.le_refl _)⟩
        case measure => simp [intOf]; omega
    · have hpl : p = loN id L := by omega
      by_cases hl : p < L.length
      · obtain ⟨x, hx⟩ : ∃ x, L[p]? = some x := ⟨L[p], by simp [hl]⟩
        obtain ⟨c0, c1, c2, c3⟩ := HS.out.1 p x hx
        have d0 := (hBw.cell (p := ⟨b, off + p * 3, none⟩) hb).trans c0
        have d1 := (hBw.cell (p := ⟨b, off + p * 3 + 1, none⟩) hb).trans c1
        have d2 := (hBw.cell (p := ⟨b, off + p * 3 + 2, none⟩) hb).trans c2
        have cb := fun W => byId_any x id W c3.sl
        obtain ⟨av, lv, cv, hv⟩ := c3.sl
        have hfnd : fndN id L = (Lib.compareInt x.id id == 0) := by
          unfold fndN; rw [← hpl, hx]; simp only
          rw [Bool.eq_iff_iff, beq_iff_eq, beq_iff_eq]; exact (cmpI_zero x.id id).symm
        obtain ⟨r, hr⟩ : ∃ r, Lib.compareInt x.id id = r := ⟨_, rfl⟩
        rw [hr] at cb hfnd
        have HF : Hid (fndN id L = (r == 0) ∧ p = loN id L) := ⟨hfnd, hpl⟩
        have hpi : (p : Int) < (L.length : Int) := by omega
        have hpd : decide ((p : Int) < (L.length : Int)) = true := by simpa using hpi
        obtain ⟨xi, xk, xv, xr⟩ := x
        simp only at hv d0 d1 d2 cb
        subst hv
        clear c0 c1 c2 c3 hr hx hfnd hpl h1 h2
        go_wp2_with (go_at_call 81; refine (cb _).mono ?_; rintro e W2 ⟨rfl, hB2⟩)
        go_ret2
        exact ⟨ret_v (by rw [HF.out.1, ← HF.out.2]; rfl), on1K HR.out.2.2 hB2 (Nat.le_refl _)⟩
      · have hfnd : fndN id L = false := by
          unfold fndN; rw [← hpl, List.getElem?_eq_none (by omega)]
        have HF : Hid (fndN id L = false ∧ p = loN id L) := ⟨hfnd, hpl⟩
        have hpi : ¬ (p : Int) < (L.length : Int) := by omega
        have hpd : decide ((p : Int) < (L.length : Int)) = false := by simpa using hpi
        clear hfnd hpl h1 h2
        go_wp2
        go_ret2
        exact ⟨ret_v (by rw [HF.out.1, ← HF.out.2]; rfl), HR.out.2.2⟩
set_option maxHeartbeats 4000000 in
theorem searchN_nil (ao : Option Addr) (c : Nat) (id : Int) (w : World) :
    Calls Try.prog 80 #[.slice ao 0 c, .int .i64 id, .func (.func 81) #[] #[]] w fun e w' => e = .returned (.tuple #[.int .i64 0, .bool false]) ∧ Below w.heap.size w w' := by
  go_enter Try.func80, Try.ntmps80
  go_wp2
  go_loopw [9, 10] (fun i j wr => i = .int .i64 0 ∧ j = .int .i64 0 ∧ wr = w) (fun i j _ => 0)
  case atStart => exact ⟨rfl, rfl, rfl⟩
  case round =>
    obtain ⟨rfl, rfl, rfl⟩ := hrel
    go_wp2
    go_ret2
    exact ⟨rfl, Below.refl _ _⟩
theorem searchN_any {v : Value} {L : List Nd} {w : World} (h : IsN w v L) (hs : SrtN L) (hn : L.length ≤ 96) (id : Int) :
    Calls Try.prog 80 #[v, .int .i64 id, .func (.func 81) #[] #[]] w fun e w' => e = .returned (.tuple #[.int .i64 (loN id L), .bool (fndN id L)]) ∧ Below w.heap.size w w' := by
  obtain ⟨ao, c, rfl, hc, rfl | ⟨b, off, rfl, hb, hl⟩⟩ := h
  · exact searchN_nil ao c id w
  · exact searchN_some b off c L id w hb hl hs hn
set_option maxHeartbeats 1000000 in
theorem findNode_any {v : Value} {L : List Nd} {w : World} (h : IsN w v L) (hs : SrtN L) (hn : L.length ≤ 96) (id : Int) :
    Calls Try.prog 55 #[v, .int .i64 id] w fun e w' => e = .returned (.tuple #[.int .i64 (loN id L), .bool (fndN id L)]) ∧ Below w.heap.size w w' := by
  have cs := searchN_any h hs hn id
  obtain ⟨ao, c, rfl, _⟩ := h
  generalize loN id L = lo at cs ⊢
  generalize fndN id L = f at cs ⊢
  go_enter Try.func55, Try.ntmps55
  go_wp2_with (go_at_call 80; refine cs.mono ?_; rintro e W2 ⟨rfl, hB2⟩)
  go_ret2
  exact ⟨rfl, hB2⟩
end Go.Proofs.Ytidmfdbckpficaa
