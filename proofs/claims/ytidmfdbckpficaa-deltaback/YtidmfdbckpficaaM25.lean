/-
  The walk of the closure stays of between, and of those that make ops.
-/
import Derived.Test.YtidmfdbckpficaaM24
namespace Go.Proofs.Ytidmfdbckpficaa
open Go.RowKit
set_option linter.unusedVariables false
set_option linter.unusedSimpArgs false

set_option maxHeartbeats 2000000 in
set_option maxRecDepth 100000 in
theorem stays_any {N M : List Nd} {T U : List Te} {t : Te} {p q r : Nat} {w : World} (h1 : StAt w p N T) (h2 : StAt w q M U) (hr : w.heap[r]? = some (.cells #[.func (.func 25) #[] #[.pointer (some ⟨p, 0, none⟩), .pointer (some ⟨q, 0, none⟩)]] 77 (0, 0))) (hN : SlN N) (hM : SlN M) (kN : ∀ n ∈ N, idOk n.id = true) (hk : t.key) (hi : idOk t.fr = true) (hj : idOk t.tt = true) :
    Calls Try.prog 27 #[t.one, .pointer (some ⟨p, 0, none⟩), .pointer (some ⟨r, 0, none⟩)] w fun e w' => e = .returned (.bool (stayT N M T t)) ∧ Below w.heap.size w w' := by
  have hs : stayT N M T t = (hasT T t && !goesN N M t.fr && !goesN N M t.tt) := rfl
  rw [hs]
  obtain ⟨W, hW⟩ : ∃ W, W = w.alloc (.cells #[.string t.bd, .int .i64 t.fr, .int .i64 t.tt] 40) := ⟨_, rfl⟩
  have hB : Below w.heap.size w W := by rw [hW]; exact b_alloc (Below.refl _ _) _
  have h1' := h1.on hB
  have H12 := Lib.hid (And.intro h1' (h2.on hB))
  have m0 : W.heap[w.heap.size]? = some (.cells #[.string t.bd, .int .i64 t.fr, .int .i64 t.tt] 40 (0, 0)) := by rw [hW]; exact heap_alloc_new w _
  have hrW := (hB.block r (Array.getElem?_eq_some_iff.1 hr).1).trans hr
  have C50 : Hid (∀ W', Below W.heap.size W W' → ∀ id, idOk id = true → Calls Try.prog 25 #[.int .i64 id, .pointer (some ⟨p, 0, none⟩), .pointer (some ⟨q, 0, none⟩)] W' fun e w' => e = .returned (.bool (goesN N M id)) ∧ Below W'.heap.size W' w') := fun W' hB' id hid => goes_any (H12.out.1.on hB') (H12.out.2.on hB') hN hM kN hid
  obtain ⟨b1, b2, hp, hst⟩ := h1'
  have c53 := hasTie_any (t := t) hst hk
  have x0 : W.cell? ⟨p, 0, none⟩ = some (.map (some b1)) := cell_at hp rfl
  have x1 : W.cell? ⟨p, 1, none⟩ = some (.map (some b2)) := cell_at hp rfl
  have HC : Hid (∀ W', Below W.heap.size W W' → W'.cell? ⟨r, 0, none⟩ = some (.func (.func 25) #[] #[.pointer (some ⟨p, 0, none⟩), .pointer (some ⟨q, 0, none⟩)]) ∧ W'.cell? ⟨w.heap.size, 1, none⟩ = some (.int .i64 t.fr) ∧ W'.cell? ⟨w.heap.size, 2, none⟩ = some (.int .i64 t.tt)) := fun W' hB' =>
    ⟨cell_at ((hB'.block r (Array.getElem?_eq_some_iff.1 hrW).1).trans hrW) rfl, cell_at ((hB'.block _ (Array.getElem?_eq_some_iff.1 m0).1).trans m0) rfl, cell_at ((hB'.block _ (Array.getElem?_eq_some_iff.1 m0).1).trans m0) rfl⟩
  have y0 : W.cell? ⟨w.heap.size, 0, none⟩ = some (.string t.bd) := cell_at m0 rfl
  have y1 : W.cell? ⟨w.heap.size, 1, none⟩ = some (.int .i64 t.fr) := cell_at m0 rfl
  have y2 : W.cell? ⟨w.heap.size, 2, none⟩ = some (.int .i64 t.tt) := cell_at m0 rfl
  have HI : Hid (idOk t.fr = true ∧ idOk t.tt = true) := ⟨hi, hj⟩
  have HB := Lib.hid hB
  clear h1 h2 hp hst hrW m0 hr hB hN hM kN hk hi hj hs H12
  generalize hasT T t = g1 at *
  obtain ⟨bd, fr, tt⟩ := t
  simp only at *
  cases g1 with
  | false =>
    simp only [Bool.false_and]
    go_enter Try.func27, Try.ntmps27
    go_upto_region 1 with fail
    rw [← hW]
    clear hW
    go_wp2_with (go_at_call 28; refine c53.mono ?_; rintro e W2 ⟨rfl, hB2⟩)
    go_ret
    exact ⟨rfl, on1K HB.out hB2 (Nat.le_refl _)⟩
  | true =>
    simp only [Bool.true_and]
    have C2 : Hid (∀ W2, Below W.heap.size W W2 → Calls Try.prog 25 #[.int .i64 fr, .pointer (some ⟨p, 0, none⟩), .pointer (some ⟨q, 0, none⟩)] W2 fun e w' => e = .returned (.bool (goesN N M fr)) ∧ Below W2.heap.size W2 w') := fun W2 hB2 => C50.out W2 hB2 fr HI.out.1
    generalize goesN N M fr = g2 at *
    cases g2 with
    | true =>
      simp only [Bool.not_true, Bool.false_and]
      go_enter Try.func27, Try.ntmps27
      go_upto_region 1 with fail
      rw [← hW]
      clear hW
      go_wp2_with (first | (go_at_call 28; refine c53.mono ?_; rintro e W2 ⟨rfl, hB2⟩; obtain ⟨z0, z1, z2⟩ := HC.out W2 hB2) | (go_at_call 25; refine (C2.out W2 hB2).mono ?_; rintro e W3 ⟨rfl, hB3⟩))
      go_ret
      exact ⟨rfl, on1K HB.out (on1K hB2 hB3 (Nat.le_refl _)) (Nat.le_refl _)⟩
    | false =>
      simp only [Bool.not_false, Bool.true_and]
      have C3 : Hid (∀ W2, Below W.heap.size W W2 → Calls Try.prog 25 #[.int .i64 tt, .pointer (some ⟨p, 0, none⟩), .pointer (some ⟨q, 0, none⟩)] W2 fun e w' => e = .returned (.bool (goesN N M tt)) ∧ Below W2.heap.size W2 w') := fun W2 hB2 => C50.out W2 hB2 tt HI.out.2
      generalize goesN N M tt = g3 at *
      go_enter Try.func27, Try.ntmps27
      go_upto_region 1 with fail
      rw [← hW]
      clear hW
      go_wp2_with (first | (go_at_call 28; refine c53.mono ?_; rintro e W2 ⟨rfl, hB2⟩; obtain ⟨z0, z1, z2⟩ := HC.out W2 hB2) | (go_at_call 25; first | (refine (C3.out W3 hB23).mono ?_; rintro e W4 ⟨rfl, hB4⟩) | (refine (C2.out W2 hB2).mono ?_; rintro e W3 ⟨rfl, hB3⟩; have hB23 := on1K hB2 hB3 (Nat.le_refl _); obtain ⟨z0', z1', z2'⟩ := HC.out W3 hB23)))
      go_ret
      exact ⟨rfl, on1K HB.out (on1K hB23 hB4 (Nat.le_refl _)) (Nat.le_refl _)⟩

/-- An op without its record's place. -/
def Opx.c (o : Opx) : Opx := ⟨o.wh, o.nd.c, o.pr, o.te⟩
/-- Nothing. -/
def nd0 : Nd := ⟨0, ⟨#[]⟩, .slice none 0 0, []⟩
def pr0 : Pr := ⟨⟨#[]⟩, 0, 0, ⟨#[]⟩⟩
def te0 : Te := ⟨⟨#[]⟩, 0, 0⟩
/-- The op that an op-maker gives. -/
def MkPost (w : World) (o : Opx) (e : Ending) (w' : World) : Prop := ∃ x : Opx, e = .returned x.one ∧ x.c = o.c ∧ OwnRc w' w.heap.size x.nd.rv x.nd.rc ∧ Below w.heap.size w w'
def looseO (t : Te) : Opx := ⟨6, nd0, pr0, t⟩
def bindO (t : Te) : Opx := ⟨5, nd0, pr0, t⟩
def goneO (n : Nd) : Opx := ⟨2, ⟨n.id, ⟨#[]⟩, .slice none 0 0, []⟩, pr0, te0⟩
def newO (n : Nd) : Opx := ⟨1, n, pr0, te0⟩

set_option maxHeartbeats 2000000 in
theorem mkLoose (t : Te) (w : World) : Calls Try.prog 31 #[t.one] w (MkPost w (looseO t)) := by
  obtain ⟨bd, fr, tt⟩ := t
  go_enter Try.func31, Try.ntmps31
  go_wp2
  refine bodyPost_ret (v := (looseO ⟨bd, fr, tt⟩).one) ?_ rfl ⟨looseO ⟨bd, fr, tt⟩, rfl, rfl, World.ownsRow_nil _ _ _ _, b_alloc (b_alloc (Below.refl _ _) _) _⟩
  simp [results, Try.results31, go_sem, looseO, nd0, pr0, te0, Opx.one]
set_option maxHeartbeats 2000000 in
theorem mkBind (t : Te) (w : World) : Calls Try.prog 36 #[t.one] w (MkPost w (bindO t)) := by
  obtain ⟨bd, fr, tt⟩ := t
  go_enter Try.func36, Try.ntmps36
  go_wp2
  refine bodyPost_ret (v := (bindO ⟨bd, fr, tt⟩).one) ?_ rfl ⟨bindO ⟨bd, fr, tt⟩, rfl, rfl, World.ownsRow_nil _ _ _ _, b_alloc (b_alloc (Below.refl _ _) _) _⟩
  simp [results, Try.results36, go_sem, bindO, nd0, pr0, te0, Opx.one]

set_option maxHeartbeats 2000000 in
theorem mkGone (n : Nd) (hr : ∃ a l c, n.rv = .slice a l c) (w : World) : Calls Try.prog 33 #[n.one] w (MkPost w (goneO n)) := by
  obtain ⟨av, lv, cv, hv⟩ := hr
  obtain ⟨id, kd, rv, rc⟩ := n
  simp only at hv
  subst hv
  go_enter Try.func33, Try.ntmps33
  go_wp2
  refine bodyPost_ret (v := (goneO ⟨id, kd, .slice av lv cv, rc⟩).one) ?_ rfl ⟨goneO ⟨id, kd, .slice av lv cv, rc⟩, rfl, rfl, World.ownsRow_nil _ _ _ _, b_alloc (b_alloc (Below.refl _ _) _) _⟩
  simp [results, Try.results33, go_sem, goneO, nd0, pr0, te0, Opx.one]
theorem cell_othN {w : World} {b i j : Nat} {u : Value} (h : i ≠ j) : (w.setCell ⟨b, i, none⟩ u).cell? ⟨b, j, none⟩ = w.cell? ⟨b, j, none⟩ := World.cell?_setCell_other _ _ _ _ (by intro e; exact h (by injection e))
/-- Cells of a block are written one by one. -/
def setN (w : World) (b : Nat) : Nat → List Value → World
  | _, [] => w
  | i, v :: r => setN (w.setCell ⟨b, i, none⟩ v) b (i + 1) r
theorem below_setN {B b : Nat} {a : World} (hb : B ≤ b) : ∀ (vs : List Value) (i : Nat) (w : World), Below B a w → Below B a (setN w b i vs)
  | [], _, _, h => h
  | v :: r, i, w, h => below_setN hb r (i + 1) _ (h.setCell hb v)
theorem setN_out {b : Nat} : ∀ (vs : List Value) (i : Nat) (w : World) (x : Nat), x < i → (setN w b i vs).cell? ⟨b, x, none⟩ = w.cell? ⟨b, x, none⟩
  | [], _, _, _, _ => rfl
  | v :: r, i, w, x, h => (setN_out r (i + 1) _ x (by omega)).trans (cell_othN (by omega))
theorem setN_in {b : Nat} : ∀ (vs : List Value) (i : Nat) (w : World), (∀ j, j < vs.length → (w.cell? ⟨b, i + j, none⟩).isSome = true) → ∀ j v, vs[j]? = some v → (setN w b i vs).cell? ⟨b, i + j, none⟩ = some v
  | [], _, _, _, j, v, h => by simp at h
  | a :: r, i, w, hs, 0, v, h => by
    have e : a = v := by simpa using h
    subst e
    refine (setN_out r (i + 1) _ (i + 0) (by omega)).trans ?_
    exact World.cell?_setCell_same' _ _ _ (hs 0 (by simp))
  | a :: r, i, w, hs, j + 1, v, h => by
    have := setN_in r (i + 1) (w.setCell ⟨b, i, none⟩ a) (fun k hk => by
      rw [cell_othN (by omega)]
      have := hs (k + 1) (by simpa using hk)
      rwa [show i + (k + 1) = i + 1 + k by omega] at this) j v (by simpa using h)
    rw [show i + (j + 1) = i + 1 + j by omega]
    exact this
theorem kt_setN {t t' : TypeId} {b : Nat} {a : World} (hne : t' ≠ t) : ∀ (vs : List Value) (i : Nat) (w : World), Ty w b t' → Kt t a w → Kt t a (setN w b i vs)
  | [], _, _, _, h => h
  | v :: r, i, w, hty, h => kt_setN hne r (i + 1) _ (hty.set b i v) (h.ty hty hne i v)
set_option maxHeartbeats 4000000 in
set_option maxRecDepth 100000 in
theorem mkNew {n : Nd} {w : World} (hR : IsR w n.rv n.rc) (hl : n.rc.length ≤ 1000) : Calls Try.prog 34 #[n.one] w (MkPost w (newO n)) := by
  obtain ⟨W, hW⟩ : ∃ W, W = (w.alloc (.cells #[.int .i64 n.id, .string n.kd, n.rv] 30)).alloc (.cells #[.int .i64 0, .int .i64 0, .string ⟨#[]⟩, .slice none 0 0, .string ⟨#[]⟩, .int .i64 0, .int .i64 0, .string ⟨#[]⟩, .string ⟨#[]⟩, .int .i64 0, .int .i64 0] 42) := ⟨_, rfl⟩
  have hB : Below w.heap.size w W := by rw [hW]; exact b_alloc (b_alloc (Below.refl _ _) _) _
  have m0 : W.heap[w.heap.size]? = some (.cells #[.int .i64 n.id, .string n.kd, n.rv] 30 (0, 0)) := by
    rw [hW]; exact (heap_alloc_old _ _ (by simp)).trans (heap_alloc_new w _)
  have m1 : W.heap[w.heap.size + 1]? = some (.cells #[.int .i64 0, .int .i64 0, .string ⟨#[]⟩, .slice none 0 0, .string ⟨#[]⟩, .int .i64 0, .int .i64 0, .string ⟨#[]⟩, .string ⟨#[]⟩, .int .i64 0, .int .i64 0] 42 (0, 0)) := by
    have := heap_alloc_new (w.alloc (.cells #[.int .i64 n.id, .string n.kd, n.rv] 30)) (.cells #[.int .i64 0, .int .i64 0, .string ⟨#[]⟩, .slice none 0 0, .string ⟨#[]⟩, .int .i64 0, .int .i64 0, .string ⟨#[]⟩, .string ⟨#[]⟩, .int .i64 0, .int .i64 0] 42)
    simp only [World.size_alloc] at this
    rw [hW]; exact this
  have c60 := copiedNode_any n W (hR.on hB) hl
  obtain ⟨av, lv, cv, hv⟩ := hR.sl
  obtain ⟨id, kd, rv, rc⟩ := n
  simp only at hv hl m0 c60 hW
  subst hv
  have x0 : W.cell? ⟨w.heap.size, 0, none⟩ = some (.int .i64 id) := cell_at m0 rfl
  have x1 : W.cell? ⟨w.heap.size, 1, none⟩ = some (.string kd) := cell_at m0 rfl
  have x2 : W.cell? ⟨w.heap.size, 2, none⟩ = some (.slice av lv cv) := cell_at m0 rfl
  have HB := Lib.hid hB
  have HM := Lib.hid m1
  clear hB m0 m1 hR
  go_enter Try.func34, Try.ntmps34
  go_upto_region 1 with fail
  rw [← hW]
  clear hW
  go_wp2_with (go_at_call 23; refine c60.mono ?_; rintro e W2 ⟨v', rfl, hO2, hB2⟩; refine Hid.out ?_)
  refine Lib.hid ?_
  obtain ⟨ao, cp, rfl⟩ := own_slice hO2
  have n1 := (hB2.block _ (Array.getElem?_eq_some_iff.1 HM.out).1).trans HM.out
  have q0 : W2.cell? ⟨w.heap.size + 1, 0, none⟩ = some (.int .i64 0) := cell_at n1 rfl
  have f0 : W2.frozen? ⟨w.heap.size + 1, 0, none⟩ = false := frz_at n1
  have q1 : W2.cell? ⟨w.heap.size + 1, 1, none⟩ = some (.int .i64 0) := cell_at n1 rfl
  have f1 : W2.frozen? ⟨w.heap.size + 1, 1, none⟩ = false := frz_at n1
  have q2 : W2.cell? ⟨w.heap.size + 1, 2, none⟩ = some (.string ⟨#[]⟩) := cell_at n1 rfl
  have f2 : W2.frozen? ⟨w.heap.size + 1, 2, none⟩ = false := frz_at n1
  have q3 : W2.cell? ⟨w.heap.size + 1, 3, none⟩ = some (.slice none 0 0) := cell_at n1 rfl
  have f3 : W2.frozen? ⟨w.heap.size + 1, 3, none⟩ = false := frz_at n1
  have q4 : W2.cell? ⟨w.heap.size + 1, 4, none⟩ = some (.string ⟨#[]⟩) := cell_at n1 rfl
  have f4 : W2.frozen? ⟨w.heap.size + 1, 4, none⟩ = false := frz_at n1
  have q5 : W2.cell? ⟨w.heap.size + 1, 5, none⟩ = some (.int .i64 0) := cell_at n1 rfl
  have f5 : W2.frozen? ⟨w.heap.size + 1, 5, none⟩ = false := frz_at n1
  have q6 : W2.cell? ⟨w.heap.size + 1, 6, none⟩ = some (.int .i64 0) := cell_at n1 rfl
  have f6 : W2.frozen? ⟨w.heap.size + 1, 6, none⟩ = false := frz_at n1
  have q7 : W2.cell? ⟨w.heap.size + 1, 7, none⟩ = some (.string ⟨#[]⟩) := cell_at n1 rfl
  have f7 : W2.frozen? ⟨w.heap.size + 1, 7, none⟩ = false := frz_at n1
  have q8 : W2.cell? ⟨w.heap.size + 1, 8, none⟩ = some (.string ⟨#[]⟩) := cell_at n1 rfl
  have f8 : W2.frozen? ⟨w.heap.size + 1, 8, none⟩ = false := frz_at n1
  have q9 : W2.cell? ⟨w.heap.size + 1, 9, none⟩ = some (.int .i64 0) := cell_at n1 rfl
  have f9 : W2.frozen? ⟨w.heap.size + 1, 9, none⟩ = false := frz_at n1
  have q10 : W2.cell? ⟨w.heap.size + 1, 10, none⟩ = some (.int .i64 0) := cell_at n1 rfl
  have f10 : W2.frozen? ⟨w.heap.size + 1, 10, none⟩ = false := frz_at n1
  have HU : Hid (∀ j v, ([.int .i64 1, .int .i64 id, .string kd, .slice ao rc.length cp, .string ⟨#[]⟩, .int .i64 0, .int .i64 0, .string ⟨#[]⟩, .string ⟨#[]⟩, .int .i64 0, .int .i64 0] : List Value)[j]? = some v → (setN W2 (w.heap.size + 1) 0 [.int .i64 1, .int .i64 id, .string kd, .slice ao rc.length cp, .string ⟨#[]⟩, .int .i64 0, .int .i64 0, .string ⟨#[]⟩, .string ⟨#[]⟩, .int .i64 0, .int .i64 0]).cell? ⟨w.heap.size + 1, 0 + j, none⟩ = some v) := setN_in _ _ _ (fun j hj => by simp [World.cell?, n1]; simpa using hj)
  have HX : Hid (Below w.heap.size w (setN W2 (w.heap.size + 1) 0 [.int .i64 1, .int .i64 id, .string kd, .slice ao rc.length cp, .string ⟨#[]⟩, .int .i64 0, .int .i64 0, .string ⟨#[]⟩, .string ⟨#[]⟩, .int .i64 0, .int .i64 0]) ∧ OwnRc (setN W2 (w.heap.size + 1) 0 [.int .i64 1, .int .i64 id, .string kd, .slice ao rc.length cp, .string ⟨#[]⟩, .int .i64 0, .int .i64 0, .string ⟨#[]⟩, .string ⟨#[]⟩, .int .i64 0, .int .i64 0]) w.heap.size (.slice ao rc.length cp) rc) := ⟨below_setN (by omega) _ _ _ (on1K HB.out hB2 (Nat.le_refl _)), (OwnRc.kt (own_base hO2 HB.out.size) (kt_setN (t' := 42) (by decide) _ _ _ ⟨_, n1⟩ (Kt.refl _ _)))⟩
  clear hO2 hB2 n1 c60 x0 x1 x2
  go_wp2
  have v0 : (((((((((((W2.setCell ⟨w.heap.size + 1, 0, none⟩ (.int .i64 1)).setCell ⟨w.heap.size + 1, 1, none⟩ (.int .i64 id)).setCell ⟨w.heap.size + 1, 2, none⟩ (.string kd)).setCell ⟨w.heap.size + 1, 3, none⟩ (.slice ao rc.length cp)).setCell ⟨w.heap.size + 1, 4, none⟩ (.string ⟨#[]⟩)).setCell ⟨w.heap.size + 1, 5, none⟩ (.int .i64 0)).setCell ⟨w.heap.size + 1, 6, none⟩ (.int .i64 0)).setCell ⟨w.heap.size + 1, 7, none⟩ (.string ⟨#[]⟩)).setCell ⟨w.heap.size + 1, 8, none⟩ (.string ⟨#[]⟩)).setCell ⟨w.heap.size + 1, 9, none⟩ (.int .i64 0)).setCell ⟨w.heap.size + 1, 10, none⟩ (.int .i64 0)).cell? ⟨w.heap.size + 1, 0, none⟩ = some (.int .i64 1) := HU.out 0 _ rfl
  have v1 : (((((((((((W2.setCell ⟨w.heap.size + 1, 0, none⟩ (.int .i64 1)).setCell ⟨w.heap.size + 1, 1, none⟩ (.int .i64 id)).setCell ⟨w.heap.size + 1, 2, none⟩ (.string kd)).setCell ⟨w.heap.size + 1, 3, none⟩ (.slice ao rc.length cp)).setCell ⟨w.heap.size + 1, 4, none⟩ (.string ⟨#[]⟩)).setCell ⟨w.heap.size + 1, 5, none⟩ (.int .i64 0)).setCell ⟨w.heap.size + 1, 6, none⟩ (.int .i64 0)).setCell ⟨w.heap.size + 1, 7, none⟩ (.string ⟨#[]⟩)).setCell ⟨w.heap.size + 1, 8, none⟩ (.string ⟨#[]⟩)).setCell ⟨w.heap.size + 1, 9, none⟩ (.int .i64 0)).setCell ⟨w.heap.size + 1, 10, none⟩ (.int .i64 0)).cell? ⟨w.heap.size + 1, 1, none⟩ = some (.int .i64 id) := HU.out 1 _ rfl
  have v2 : (((((((((((W2.setCell ⟨w.heap.size + 1, 0, none⟩ (.int .i64 1)).setCell ⟨w.heap.size + 1, 1, none⟩ (.int .i64 id)).setCell ⟨w.heap.size + 1, 2, none⟩ (.string kd)).setCell ⟨w.heap.size + 1, 3, none⟩ (.slice ao rc.length cp)).setCell ⟨w.heap.size + 1, 4, none⟩ (.string ⟨#[]⟩)).setCell ⟨w.heap.size + 1, 5, none⟩ (.int .i64 0)).setCell ⟨w.heap.size + 1, 6, none⟩ (.int .i64 0)).setCell ⟨w.heap.size + 1, 7, none⟩ (.string ⟨#[]⟩)).setCell ⟨w.heap.size + 1, 8, none⟩ (.string ⟨#[]⟩)).setCell ⟨w.heap.size + 1, 9, none⟩ (.int .i64 0)).setCell ⟨w.heap.size + 1, 10, none⟩ (.int .i64 0)).cell? ⟨w.heap.size + 1, 2, none⟩ = some (.string kd) := HU.out 2 _ rfl
  have v3 : (((((((((((W2.setCell ⟨w.heap.size + 1, 0, none⟩ (.int .i64 1)).setCell ⟨w.heap.size + 1, 1, none⟩ (.int .i64 id)).setCell ⟨w.heap.size + 1, 2, none⟩ (.string kd)).setCell ⟨w.heap.size + 1, 3, none⟩ (.slice ao rc.length cp)).setCell ⟨w.heap.size + 1, 4, none⟩ (.string ⟨#[]⟩)).setCell ⟨w.heap.size + 1, 5, none⟩ (.int .i64 0)).setCell ⟨w.heap.size + 1, 6, none⟩ (.int .i64 0)).setCell ⟨w.heap.size + 1, 7, none⟩ (.string ⟨#[]⟩)).setCell ⟨w.heap.size + 1, 8, none⟩ (.string ⟨#[]⟩)).setCell ⟨w.heap.size + 1, 9, none⟩ (.int .i64 0)).setCell ⟨w.heap.size + 1, 10, none⟩ (.int .i64 0)).cell? ⟨w.heap.size + 1, 3, none⟩ = some (.slice ao rc.length cp) := HU.out 3 _ rfl
  have v4 : (((((((((((W2.setCell ⟨w.heap.size + 1, 0, none⟩ (.int .i64 1)).setCell ⟨w.heap.size + 1, 1, none⟩ (.int .i64 id)).setCell ⟨w.heap.size + 1, 2, none⟩ (.string kd)).setCell ⟨w.heap.size + 1, 3, none⟩ (.slice ao rc.length cp)).setCell ⟨w.heap.size + 1, 4, none⟩ (.string ⟨#[]⟩)).setCell ⟨w.heap.size + 1, 5, none⟩ (.int .i64 0)).setCell ⟨w.heap.size + 1, 6, none⟩ (.int .i64 0)).setCell ⟨w.heap.size + 1, 7, none⟩ (.string ⟨#[]⟩)).setCell ⟨w.heap.size + 1, 8, none⟩ (.string ⟨#[]⟩)).setCell ⟨w.heap.size + 1, 9, none⟩ (.int .i64 0)).setCell ⟨w.heap.size + 1, 10, none⟩ (.int .i64 0)).cell? ⟨w.heap.size + 1, 4, none⟩ = some (.string ⟨#[]⟩) := HU.out 4 _ rfl
  have v5 : (((((((((((W2.setCell ⟨w.heap.size + 1, 0, none⟩ (.int .i64 1)).setCell ⟨w.heap.size + 1, 1, none⟩ (.int .i64 id)).setCell ⟨w.heap.size + 1, 2, none⟩ (.string kd)).setCell ⟨w.heap.size + 1, 3, none⟩ (.slice ao rc.length cp)).setCell ⟨w.heap.size + 1, 4, none⟩ (.string ⟨#[]⟩)).setCell ⟨w.heap.size + 1, 5, none⟩ (.int .i64 0)).setCell ⟨w.heap.size + 1, 6, none⟩ (.int .i64 0)).setCell ⟨w.heap.size + 1, 7, none⟩ (.string ⟨#[]⟩)).setCell ⟨w.heap.size + 1, 8, none⟩ (.string ⟨#[]⟩)).setCell ⟨w.heap.size + 1, 9, none⟩ (.int .i64 0)).setCell ⟨w.heap.size + 1, 10, none⟩ (.int .i64 0)).cell? ⟨w.heap.size + 1, 5, none⟩ = some (.int .i64 0) := HU.out 5 _ rfl
  have v6 : (((((((((((W2.setCell ⟨w.heap.size + 1, 0, none⟩ (.int .i64 1)).setCell ⟨w.heap.size + 1, 1, none⟩ (.int .i64 id)).setCell ⟨w.heap.size + 1, 2, none⟩ (.string kd)).setCell ⟨w.heap.size + 1, 3, none⟩ (.slice ao rc.length cp)).setCell ⟨w.heap.size + 1, 4, none⟩ (.string ⟨#[]⟩)).setCell ⟨w.heap.size + 1, 5, none⟩ (.int .i64 0)).setCell ⟨w.heap.size + 1, 6, none⟩ (.int .i64 0)).setCell ⟨w.heap.size + 1, 7, none⟩ (.string ⟨#[]⟩)).setCell ⟨w.heap.size + 1, 8, none⟩ (.string ⟨#[]⟩)).setCell ⟨w.heap.size + 1, 9, none⟩ (.int .i64 0)).setCell ⟨w.heap.size + 1, 10, none⟩ (.int .i64 0)).cell? ⟨w.heap.size + 1, 6, none⟩ = some (.int .i64 0) := HU.out 6 _ rfl
  have v7 : (((((((((((W2.setCell ⟨w.heap.size + 1, 0, none⟩ (.int .i64 1)).setCell ⟨w.heap.size + 1, 1, none⟩ (.int .i64 id)).setCell ⟨w.heap.size + 1, 2, none⟩ (.string kd)).setCell ⟨w.heap.size + 1, 3, none⟩ (.slice ao rc.length cp)).setCell ⟨w.heap.size + 1, 4, none⟩ (.string ⟨#[]⟩)).setCell ⟨w.heap.size + 1, 5, none⟩ (.int .i64 0)).setCell ⟨w.heap.size + 1, 6, none⟩ (.int .i64 0)).setCell ⟨w.heap.size + 1, 7, none⟩ (.string ⟨#[]⟩)).setCell ⟨w.heap.size + 1, 8, none⟩ (.string ⟨#[]⟩)).setCell ⟨w.heap.size + 1, 9, none⟩ (.int .i64 0)).setCell ⟨w.heap.size + 1, 10, none⟩ (.int .i64 0)).cell? ⟨w.heap.size + 1, 7, none⟩ = some (.string ⟨#[]⟩) := HU.out 7 _ rfl
  have v8 : (((((((((((W2.setCell ⟨w.heap.size + 1, 0, none⟩ (.int .i64 1)).setCell ⟨w.heap.size + 1, 1, none⟩ (.int .i64 id)).setCell ⟨w.heap.size + 1, 2, none⟩ (.string kd)).setCell ⟨w.heap.size + 1, 3, none⟩ (.slice ao rc.length cp)).setCell ⟨w.heap.size + 1, 4, none⟩ (.string ⟨#[]⟩)).setCell ⟨w.heap.size + 1, 5, none⟩ (.int .i64 0)).setCell ⟨w.heap.size + 1, 6, none⟩ (.int .i64 0)).setCell ⟨w.heap.size + 1, 7, none⟩ (.string ⟨#[]⟩)).setCell ⟨w.heap.size + 1, 8, none⟩ (.string ⟨#[]⟩)).setCell ⟨w.heap.size + 1, 9, none⟩ (.int .i64 0)).setCell ⟨w.heap.size + 1, 10, none⟩ (.int .i64 0)).cell? ⟨w.heap.size + 1, 8, none⟩ = some (.string ⟨#[]⟩) := HU.out 8 _ rfl
  have v9 : (((((((((((W2.setCell ⟨w.heap.size + 1, 0, none⟩ (.int .i64 1)).setCell ⟨w.heap.size + 1, 1, none⟩ (.int .i64 id)).setCell ⟨w.heap.size + 1, 2, none⟩ (.string kd)).setCell ⟨w.heap.size + 1, 3, none⟩ (.slice ao rc.length cp)).setCell ⟨w.heap.size + 1, 4, none⟩ (.string ⟨#[]⟩)).setCell ⟨w.heap.size + 1, 5, none⟩ (.int .i64 0)).setCell ⟨w.heap.size + 1, 6, none⟩ (.int .i64 0)).setCell ⟨w.heap.size + 1, 7, none⟩ (.string ⟨#[]⟩)).setCell ⟨w.heap.size + 1, 8, none⟩ (.string ⟨#[]⟩)).setCell ⟨w.heap.size + 1, 9, none⟩ (.int .i64 0)).setCell ⟨w.heap.size + 1, 10, none⟩ (.int .i64 0)).cell? ⟨w.heap.size + 1, 9, none⟩ = some (.int .i64 0) := HU.out 9 _ rfl
  have v10 : (((((((((((W2.setCell ⟨w.heap.size + 1, 0, none⟩ (.int .i64 1)).setCell ⟨w.heap.size + 1, 1, none⟩ (.int .i64 id)).setCell ⟨w.heap.size + 1, 2, none⟩ (.string kd)).setCell ⟨w.heap.size + 1, 3, none⟩ (.slice ao rc.length cp)).setCell ⟨w.heap.size + 1, 4, none⟩ (.string ⟨#[]⟩)).setCell ⟨w.heap.size + 1, 5, none⟩ (.int .i64 0)).setCell ⟨w.heap.size + 1, 6, none⟩ (.int .i64 0)).setCell ⟨w.heap.size + 1, 7, none⟩ (.string ⟨#[]⟩)).setCell ⟨w.heap.size + 1, 8, none⟩ (.string ⟨#[]⟩)).setCell ⟨w.heap.size + 1, 9, none⟩ (.int .i64 0)).setCell ⟨w.heap.size + 1, 10, none⟩ (.int .i64 0)).cell? ⟨w.heap.size + 1, 10, none⟩ = some (.int .i64 0) := HU.out 10 _ rfl
  refine bodyPost_ret (v := (newO ⟨id, kd, .slice ao rc.length cp, rc⟩).one) ?_ rfl ⟨newO ⟨id, kd, .slice ao rc.length cp, rc⟩, rfl, rfl, HX.out.2, HX.out.1⟩
  simp [results, Try.results34, go_sem, newO, pr0, te0, Opx.one, v0, v1, v2, v3, v4, v5, v6, v7, v8, v9, v10]
end Go.Proofs.Ytidmfdbckpficaa
