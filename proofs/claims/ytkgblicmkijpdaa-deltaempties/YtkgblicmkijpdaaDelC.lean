/-
  The walks of delta.findNode and what it calls: where the node of an id stands, or would stand.
-/
import Derived.Test.YtkgblicmkijpdaaDelA
import Derived.Laws.Externs
import Derived.Deep.QuietTactic
import Derived.BigQuiet
import Derived.BigGuard
import Derived.Deep.RegionWith
namespace Go.Proofs.Ytkgblicmkijpdaa
open Go.RowKit
set_option linter.unusedVariables false
set_option linter.unusedSimpArgs false

/-- Nodes rise by their ids. -/
def SrtN (N : List Nd) : Prop := N.Pairwise fun a b => a.id < b.id
/-- How many are ahead of an id. -/
def loN (id : Int) : List Nd → Nat
  | [] => 0
  | n :: r => if n.id < id then loN id r + 1 else 0
theorem loN_le (id : Int) : ∀ l : List Nd, loN id l ≤ l.length
  | [] => Nat.le_refl _
  | n :: r => by have := loN_le id r; unfold loN; split <;> simp <;> omega
theorem loN_spec (id : Int) : ∀ {l : List Nd}, SrtN l → ∀ (i : Nat) (g : Nd), l[i]? = some g → (i < loN id l ↔ g.id < id)
  | [], _, i, g, hg => by simp at hg
  | x :: r, h, i, g, hg => by
    obtain ⟨h1, h2⟩ := List.pairwise_cons.1 h
    by_cases hx : x.id < id
    · have e : loN id (x :: r) = loN id r + 1 := by simp [loN, hx]
      rw [e]
      cases i with
      | zero => simp at hg; subst hg; simp [hx]
      | succ i =>
        have := loN_spec id h2 i g (by simpa using hg)
        rw [← this]; omega
    · have e : loN id (x :: r) = 0 := by simp [loN, hx]
      rw [e]
      have hge : x.id ≤ g.id := by
        cases i with
        | zero => simp at hg; subst hg; omega
        | succ i => have := h1 g (List.mem_of_getElem? (by simpa using hg)); omega
      constructor
      · intro h; omega
      · intro h; omega
/-- Is an id there, where it would stand? -/
def fndN (id : Int) (N : List Nd) : Bool := match N[loN id N]? with
  | some g => g.id == id
  | none => false
theorem cmpI_lt (x y : Int) : Lib.compareInt x y < 0 ↔ x < y := by unfold Lib.compareInt; split <;> (try split) <;> omega
theorem cmpI_zero (x y : Int) : Lib.compareInt x y = 0 ↔ x = y := by unfold Lib.compareInt; split <;> (try split) <;> omega

set_option maxHeartbeats 1000000 in
theorem byId_any (n : Nd) (id : Int) (w : World) (hv : ∃ a l c, n.rv = .slice a l c) :
    Calls Try.prog 81 #[n.one, .int .i64 id] w fun e w' => e = .returned (.int .i64 (Lib.compareInt n.id id)) ∧ Below w.heap.size w w' := by
  obtain ⟨i, kd, rv, rc⟩ := n
  obtain ⟨a, l, c, rfl⟩ := hv
  have cc := fun w => cmp_any i id w
  simp only
  generalize Lib.compareInt i id = r at cc ⊢
  go_enter Try.func81, Try.ntmps81
  go_wp2_with (go_at_call 71; refine (cc _).mono ?_; rintro e w' ⟨rfl, rfl⟩)
  go_ret
  exact ⟨rfl, b_alloc (Below.refl _ _) _⟩

/-- A region that draws, whose operations read what is the same in every world that comes after this one: walked once. -/
theorem wp_region_after {P : Program} {X : Type} (F : X → World) {id : Nat} {Q : Exit → Act → World → Prop} {a : Act} {w : World} {l : List Oper} (hm : P.follows .mixedOrders = true) (hB : Region.lexB .any l.toArray = true)
    (hC : ∃ x, { w with drawn := w.drawn + 1 } = F x) (h : wpQuiet P l.toArray (fun w' => ∃ x, w' = F x) (fun a' => ∀ w', (∃ x, w' = F x) → Q .normal a' w') l a) : (Code.region id l.toArray true).wp P Q a w :=
  wp_region_quiet (C := fun w' => ∃ x, w' = F x) hm hB hC (by simpa using h)
/-- The worlds after this one, by a name each. -/
theorem after_all (w : World) : ∃ (X : Type) (_ : Nonempty X) (F : X → World), (∀ x, Below w.heap.size w (F x)) ∧ (∀ W, Below w.heap.size w W → ∃ x, W = F x) :=
  ⟨{ W // Below w.heap.size w W }, ⟨⟨w, Below.refl _ _⟩⟩, Subtype.val, fun x => x.2, fun W h => ⟨⟨W, h⟩, rfl⟩⟩

set_option maxHeartbeats 4000000 in
set_option maxRecDepth 100000 in
theorem searchN_some (b off cap : Nat) (L : List Nd) (id : Int) (w : World) (hb : b < w.heap.size) (hL : LiesN w b off L) (hs : SrtN L) (hn : L.length ≤ 96) :
    Calls Try.prog 80 #[.slice (some ⟨b, off, none⟩) L.length cap, .int .i64 id, .func (.func 81) #[] #[]] w fun e w' => e = .returned (.tuple #[.int .i64 (loN id L), .bool (fndN id L)]) ∧ Below w.heap.size w w' := by
  have hlo := loN_le id L
  have HS : Hid (LiesN w b off L ∧ SrtN L) := ⟨hL, hs⟩
  clear hL hs
  go_enter Try.func80, Try.ntmps80
  go_wp2
  go_loopw [9, 10] (fun i j wr => ∃ p q : Nat, p ≤ loN id L ∧ loN id L ≤ q ∧ q ≤ L.length ∧ i = .int .i64 p ∧ j = .int .i64 q ∧ Below w.heap.size w wr) (fun i j _ => (intOf j).toNat - (intOf i).toNat)
  case atStart => exact ⟨0, L.length, Nat.zero_le _, hlo, Nat.le_refl _, rfl, rfl, Below.refl _ _⟩
  case round =>
    obtain ⟨p, q, h1, h2, h3, rfl, rfl, hBw⟩ := hrel
    have HR : Hid (p ≤ loN id L ∧ loN id L ≤ q ∧ Below w.heap.size w wr) := ⟨h1, h2, hBw⟩
    by_cases hlt : p < q
    · obtain ⟨m, hm⟩ : ∃ m, m = (p + q) / 2 := ⟨_, rfl⟩
      have hml : m < L.length := by omega
      have hmq : m < q := by omega
      have hpm : p ≤ m := by omega
      have hdiv : ((p : Int) + (q : Int)) / 2 = (m : Int) := by omega
      obtain ⟨x, hx⟩ : ∃ x, L[m]? = some x := ⟨L[m], by simp [hml]⟩
      obtain ⟨c0, c1, c2, c3⟩ := HS.out.1 m x hx
      have d0 := (hBw.cell (p := ⟨b, off + m * 3, none⟩) hb).trans c0
      have d1 := (hBw.cell (p := ⟨b, off + m * 3 + 1, none⟩) hb).trans c1
      have d2 := (hBw.cell (p := ⟨b, off + m * 3 + 2, none⟩) hb).trans c2
      have hsp := loN_spec id HS.out.2 m x hx
      rw [← cmpI_lt] at hsp
      have cb := fun W => byId_any x id W c3.sl
      obtain ⟨av, lv, cv, hv⟩ := c3.sl
      obtain ⟨r, hr⟩ : ∃ r, Lib.compareInt x.id id = r := ⟨_, rfl⟩
      rw [hr] at cb hsp
      obtain ⟨xi, xk, xv, xr⟩ := x
      simp only at hv d0 d1 d2 cb
      subst hv
      clear c0 c1 c2 c3 hr hx hm
      by_cases hr0 : r < 0
      · have HM : Hid (m + 1 ≤ loN id L) := hsp.2 hr0
        clear hsp h1 h2
        go_wp2_with fail
        try rw [hdiv]
        clear hdiv
        go_wp2_with (go_at_call 81; refine (cb _).mono ?_; rintro e W2 ⟨rfl, hB2⟩)
        go_roundw
        case rel => exact ⟨m + 1, q, HM.out, HR.out.2.1, h3, by go_num, rfl, on1K HR.out.2.2 hB2 (Nat.le_refl _)⟩
        case measure => simp [intOf]; omega
      · have HM : Hid (loN id L ≤ m) := by
          show _ ≤ _
          have : ¬ m < loN id L := fun h => hr0 (hsp.1 h)
          omega
        clear hsp h1 h2
        go_wp2_with fail
        try rw [hdiv]
        clear hdiv
        go_wp2_with (go_at_call 81; refine (cb _).mono ?_; rintro e W2 ⟨rfl, hB2⟩)
        go_roundw
        case rel => exact ⟨p, m, HR.out.1, HM.out, by omega, rfl, by go_num, on1K HR.out.2.2 hB2 (Nat.le_refl _)⟩
        case measure => simp [intOf]; omega
    · have hpl : p = loN id L := by omega
      by_cases hl : p < L.length
      · obtain ⟨x, hx⟩ : ∃ x, L[p]? = some x := ⟨L[p], by simp [hl]⟩
        obtain ⟨c0, c1, c2, c3⟩ := HS.out.1 p x hx
        have d0 := (hBw.cell (p := ⟨b, off + p * 3, none⟩) hb).trans c0
        have d1 := (hBw.cell (p := ⟨b, off + p * 3 + 1, none⟩) hb).trans c1
        have d2 := (hBw.cell (p := ⟨b, off + p * 3 + 2, none⟩) hb).trans c2
        have cb := fun W => byId_any x id W c3.sl
        obtain ⟨av, lv, cv, hv⟩ := c3.sl
        have hfnd : fndN id L = (Lib.compareInt x.id id == 0) := by
          unfold fndN; rw [← hpl, hx]; simp only
          rw [Bool.eq_iff_iff, beq_iff_eq, beq_iff_eq]; exact (cmpI_zero x.id id).symm
        obtain ⟨r, hr⟩ : ∃ r, Lib.compareInt x.id id = r := ⟨_, rfl⟩
        rw [hr] at cb hfnd
        have HF : Hid (fndN id L = (r == 0) ∧ p = loN id L) := ⟨hfnd, hpl⟩
        have hpi : (p : Int) < (L.length : Int) := by omega
        have hpd : decide ((p : Int) < (L.length : Int)) = true := by simpa using hpi
        obtain ⟨xi, xk, xv, xr⟩ := x
        simp only at hv d0 d1 d2 cb
        subst hv
        clear c0 c1 c2 c3 hr hx hfnd hpl h1 h2
        go_wp2_with (go_at_call 81; refine (cb _).mono ?_; rintro e W2 ⟨rfl, hB2⟩)
        go_ret2
        exact ⟨ret_v (by rw [HF.out.1, ← HF.out.2]; rfl), on1K HR.out.2.2 hB2 (Nat.le_refl _)⟩
      · have hfnd : fndN id L = false := by
          unfold fndN; rw [← hpl, List.getElem?_eq_none (by omega)]
        have HF : Hid (fndN id L = false ∧ p = loN id L) := ⟨hfnd, hpl⟩
        have hpi : ¬ (p : Int) < (L.length : Int) := by omega
        have hpd : decide ((p : Int) < (L.length : Int)) = false := by simpa using hpi
        clear hfnd hpl h1 h2
        go_wp2
        go_ret2
        exact ⟨ret_v (by rw [HF.out.1, ← HF.out.2]; rfl), HR.out.2.2⟩
set_option maxHeartbeats 4000000 in
theorem searchN_nil (ao : Option Addr) (c : Nat) (id : Int) (w : World) :
    Calls Try.prog 80 #[.slice ao 0 c, .int .i64 id, .func (.func 81) #[] #[]] w fun e w' => e = .returned (.tuple #[.int .i64 0, .bool false]) ∧ Below w.heap.size w w' := by
  go_enter Try.func80, Try.ntmps80
  go_wp2
  go_loopw [9, 10] (fun i j wr => i = .int .i64 0 ∧ j = .int .i64 0 ∧ wr = w) (fun i j _ => 0)
  case atStart => exact ⟨rfl, rfl, rfl⟩
  case round =>
    obtain ⟨rfl, rfl, rfl⟩ := hrel
    go_wp2
    go_ret2
    exact ⟨rfl, Below.refl _ _⟩
theorem searchN_any {v : Value} {L : List Nd} {w : World} (h : IsN w v L) (hs : SrtN L) (hn : L.length ≤ 96) (id : Int) :
    Calls Try.prog 80 #[v, .int .i64 id, .func (.func 81) #[] #[]] w fun e w' => e = .returned (.tuple #[.int .i64 (loN id L), .bool (fndN id L)]) ∧ Below w.heap.size w w' := by
  obtain ⟨ao, c, rfl, hc, rfl | ⟨b, off, rfl, hb, hl⟩⟩ := h
  · exact searchN_nil ao c id w
  · exact searchN_some b off c L id w hb hl hs hn
set_option maxHeartbeats 1000000 in
theorem findNode_any {v : Value} {L : List Nd} {w : World} (h : IsN w v L) (hs : SrtN L) (hn : L.length ≤ 96) (id : Int) :
    Calls Try.prog 55 #[v, .int .i64 id] w fun e w' => e = .returned (.tuple #[.int .i64 (loN id L), .bool (fndN id L)]) ∧ Below w.heap.size w w' := by
  have cs := searchN_any h hs hn id
  obtain ⟨ao, c, rfl, _⟩ := h
  generalize loN id L = lo at cs ⊢
  generalize fndN id L = f at cs ⊢
  go_enter Try.func55, Try.ntmps55
  go_wp2_with (go_at_call 80; refine cs.mono ?_; rintro e W2 ⟨rfl, hB2⟩)
  go_ret2
  exact ⟨rfl, hB2⟩
end Go.Proofs.Ytkgblicmkijpdaa
