/-
  Steps and tests in memory; the walks of Plain.
-/
import Derived.Test.YtmgkdghkenpmbaaGreatDoorAskL
import Derived.Test.YtmgkdghkenpmbaaGreatDoorBackD
namespace Go.Proofs.YtmgkdghkenpmbaaGreatDoor
open Go.RowKit
set_option linter.unusedVariables false
set_option linter.unusedSimpArgs false

def LiesTs (w : World) (b off : Nat) (L : List Tst) : Prop := ∀ k x, L[k]? = some x →
  w.cell? ⟨b, off + k * 5, none⟩ = some (.string (bs x.nm)) ∧ w.cell? ⟨b, off + k * 5 + 1, none⟩ = some (.int .i64 x.hw) ∧ w.cell? ⟨b, off + k * 5 + 2, none⟩ = some (.int .i64 x.t) ∧ w.cell? ⟨b, off + k * 5 + 3, none⟩ = some (.int .i64 x.n) ∧ w.cell? ⟨b, off + k * 5 + 4, none⟩ = some (.string (bs x.s))
def IsTs (w : World) (v : Value) (L : List Tst) : Prop :=
  ∃ ao c, v = .slice ao L.length c ∧ (L = [] ∨ ∃ b off, ao = some ⟨b, off, none⟩ ∧ b < w.heap.size ∧ LiesTs w b off L)
def LiesSp (w : World) (b off : Nat) (L : List Sp) : Prop := ∀ k p, L[k]? = some p →
  (w.cell? ⟨b, off + k * 4, none⟩ = some (.string (bs p.st.bd)) ∧ w.cell? ⟨b, off + k * 4 + 1, none⟩ = some (.bool p.st.back) ∧ w.cell? ⟨b, off + k * 4 + 2, none⟩ = some (.string (bs p.st.kd)) ∧ w.cell? ⟨b, off + k * 4 + 3, none⟩ = some p.vt) ∧ IsTs w p.vt p.st.ts
def IsSp (w : World) (v : Value) (L : List Sp) : Prop :=
  ∃ ao c, v = .slice ao L.length c ∧ (L = [] ∨ ∃ b off, ao = some ⟨b, off, none⟩ ∧ b < w.heap.size ∧ LiesSp w b off L)
theorem LiesTs.on {w w' : World} {b off : Nat} {L : List Tst} (h : LiesTs w b off L) (hb : b < w.heap.size) (hB : Below w.heap.size w w') : LiesTs w' b off L := fun k x hx => by
  obtain ⟨c0, c1, c2, c3, c4⟩ := h k x hx
  exact ⟨(hB.cell hb).trans c0, (hB.cell hb).trans c1, (hB.cell hb).trans c2, (hB.cell hb).trans c3, (hB.cell hb).trans c4⟩
theorem IsTs.on {w w' : World} {v : Value} {L : List Tst} (h : IsTs w v L) (hB : Below w.heap.size w w') : IsTs w' v L := by
  obtain ⟨ao, c, rfl, h0 | ⟨b, off, rfl, hb, hL⟩⟩ := h
  · exact ⟨ao, c, rfl, .inl h0⟩
  · exact ⟨_, c, rfl, .inr ⟨b, off, rfl, Nat.lt_of_lt_of_le hb hB.size, hL.on hb hB⟩⟩
theorem LiesSp.on {w w' : World} {b off : Nat} {L : List Sp} (h : LiesSp w b off L) (hb : b < w.heap.size) (hB : Below w.heap.size w w') : LiesSp w' b off L := fun k x hx => by
  obtain ⟨⟨c0, c1, c2, c3⟩, c4⟩ := h k x hx
  exact ⟨⟨(hB.cell hb).trans c0, (hB.cell hb).trans c1, (hB.cell hb).trans c2, (hB.cell hb).trans c3⟩, c4.on hB⟩
theorem IsSp.on {w w' : World} {v : Value} {L : List Sp} (h : IsSp w v L) (hB : Below w.heap.size w w') : IsSp w' v L := by
  obtain ⟨ao, c, rfl, h0 | ⟨b, off, rfl, hb, hL⟩⟩ := h
  · exact ⟨ao, c, rfl, .inl h0⟩
  · exact ⟨_, c, rfl, .inr ⟨b, off, rfl, Nat.lt_of_lt_of_le hb hB.size, hL.on hb hB⟩⟩
theorem IsTs.sl {w : World} {v : Value} {L : List Tst} (h : IsTs w v L) : ∃ ao c, v = .slice ao L.length c := by
  obtain ⟨ao, c, rfl, _⟩ := h
  exact ⟨_, _, rfl⟩
/-- Texts are not too long for memory. -/
def TsSz (x : Tst) : Prop := x.nm.length ≤ maxLen ∧ x.s.length ≤ maxLen
def SpSz (p : St) : Prop := p.bd.length ≤ maxLen ∧ p.kd.length ≤ maxLen ∧ p.ts.length ≤ maxLen ∧ ∀ x ∈ p.ts, TsSz x

theorem b_alloc {w0 w : World} (h : Below w0.heap.size w0 w) (o : Obj) : Below w0.heap.size w0 (w.alloc o) := h.alloc h.size o
theorem nameB (l : Nm) (hl : l.length ≤ maxLen) (w : World) : Calls Tryz.prog 33 #[.string (bs l)] w fun e w' => e = .returned (errV (nErr l)) ∧ w' = w := by
  have := name_any (bs l) w (by rw [bs_size]; exact hl)
  rw [bs_data] at this
  exact this
theorem checkB (t n : Int) (l : Nm) (hl : l.length ≤ maxLen) (w : World) : Calls Tryz.prog 62 #[.agg #[.int .i64 t, .int .i64 n, .string (bs l)]] w fun e w' => e = .returned (errV (vErr t n l)) ∧ w' = w.alloc (.cells #[.int .i64 t, .int .i64 n, .string (bs l)] 31) := by
  have := check_any t n (bs l) w (by rw [bs_size]; exact hl)
  rw [bs_data] at this
  exact this
theorem strV : Tryz.prog.underlying 31 = some (.struct (Tryz.prog.fieldsOf 31)) := by kernel_rfl
theorem hpV : Tryz.prog.stoodInHeld 31 = false := by kernel_rfl
theorem egV31 : Tryz.prog.eqGuardType Tryz.prog.depth 31 = false := by kernel_rfl
/-- Are two values the same? -/
def eqB (t n : Int) (s : ByteArray) (t' n' : Int) (s' : ByteArray) : Bool := (t == t') && (n == n') && (s.toList == s'.toList)
theorem eqV_any (t n t' n' : Int) (s s' : ByteArray) (d : Nat) (w : World) : (Op.equalIn (d + 1 + 1) 31 (.agg #[.int .i64 t, .int .i64 n, .string s]) (.agg #[.int .i64 t', .int .i64 n', .string s'])).run Tryz.prog w = .ok (eqB t n s t' n' s') w := by
  have u3 := Tryz.underlying3
  have a3 := Tryz.isAgg3
  have z3 := Tryz.sizeOf3
  have u9 := Tryz.underlying9
  have a9 := Tryz.isAgg9
  have z9 := Tryz.sizeOf9
  rw [run_equalIn_agg w (d + 1) 31 _ _ strV hpV]
  simp only [Program.fieldsOf, Tryz.underlying31]
  unfold eqB
  go_simp
  by_cases h1 : t = t' <;> by_cases h2 : n = n' <;> by_cases h3 : s.toList = s'.toList <;> simp [h1, h2, h3]
theorem neqV_any (t n t' n' : Int) (s s' : ByteArray) (w : World) : (binOp .neq 31 (.agg #[.int .i64 t, .int .i64 n, .string s]) (.agg #[.int .i64 t', .int .i64 n', .string s'])).run Tryz.prog w = .ok (.bool (!eqB t n s t' n' s')) w := by
  rw [run_neq_struct, show (10000 : Nat) = 9998 + 1 + 1 from rfl, eqV_any]; rfl
theorem egVV (op : BinOp) (x y : Operand) (u v : Array Value) (w : World) : (eqGuard op 31 x y (.agg u) (.agg v)).run Tryz.prog w = .ok () w := run_eqGuard_agg w op 31 x y _ _ egV31
theorem eqB_zero (t n : Int) (l : Nm) : eqB t n (bs l) 0 0 ⟨#[]⟩ = decide (t = 0 ∧ n = 0 ∧ l = []) := by
  unfold eqB
  have e : (⟨#[]⟩ : ByteArray).toList = [] := by rw [Lib.toList_data]
  rw [e, bs_toList]
  by_cases h1 : t = 0 <;> by_cases h2 : n = 0 <;> by_cases h3 : l = [] <;> simp [h1, h2, h3]

set_option maxHeartbeats 2000000 in
set_option maxRecDepth 100000 in
theorem checkHow_any (x : Tst) (w : World) (hs : x.s.length ≤ maxLen) :
    Calls Tryz.prog 54 #[x.one] w fun e w' => e = .returned (errV (howE x)) ∧ Below w.heap.size w w' := by
  obtain ⟨nm, hw, t, n, s⟩ := x
  have hc := fun w => checkB t n s hs w
  by_cases h1 : hw = 1 ∨ hw = 2 ∨ hw = 3
  · have he : howE ⟨nm, hw, t, n, s⟩ = vErr t n s := by unfold howE; rw [if_pos h1]
    rw [he]
    generalize vErr t n s = r at hc ⊢
    clear he
    rcases h1 with rfl | rfl | rfl
    all_goals
      go_enter Tryz.func54, Tryz.ntmps54
      go_wp2_with (go_at_call 62; refine (hc _).mono ?_; rintro e w' ⟨rfl, rfl⟩)
      go_ret
      exact ⟨rfl, b_alloc (b_alloc (Below.refl _ _) _) _⟩
  · obtain ⟨q1, q2⟩ := not_or.1 h1
    obtain ⟨q2, q3⟩ := not_or.1 q2
    have b1 : (hw == 1) = false := by simpa using q1
    have b2 : (hw == 2) = false := by simpa using q2
    have b3 : (hw == 3) = false := by simpa using q3
    by_cases h4 : hw = 4
    · subst h4
      have hne := neqV_any t n 0 0 (bs s) ⟨#[]⟩
      have hgd := fun op a b => egVV op a b #[.int .i64 t, .int .i64 n, .string (bs s)] #[.int .i64 0, .int .i64 0, .string ⟨#[]⟩]
      rw [eqB_zero] at hne
      by_cases hz : t = 0 ∧ n = 0 ∧ s = []
      · have he : howE ⟨nm, 4, t, n, s⟩ = 0 := by unfold howE; rw [if_neg h1, if_pos rfl, if_pos hz]
        rw [he, errV_0]
        rw [decide_eq_true hz] at hne
        clear he hz h1 hc
        go_enter Tryz.func54, Tryz.ntmps54
        go_wp2
        go_ret
        exact ⟨rfl, b_alloc (Below.refl _ _) _⟩
      · have he : howE ⟨nm, 4, t, n, s⟩ = 3 := by unfold howE; rw [if_neg h1, if_pos rfl, if_neg hz]
        rw [he]
        rw [decide_eq_false hz] at hne
        clear he hz h1 hc
        go_enter Tryz.func54, Tryz.ntmps54
        go_wp2
        go_ret
        exact ⟨rfl, b_alloc (Below.refl _ _) _⟩
    · have he : howE ⟨nm, hw, t, n, s⟩ = 1 := by unfold howE; rw [if_neg h1, if_neg h4]
      rw [he]
      have b4 : (hw == 4) = false := by simpa using h4
      clear he h1 h4 hc q1 q2 q3
      go_enter Tryz.func54, Tryz.ntmps54
      go_wp2
      go_ret
      exact ⟨rfl, b_alloc (Below.refl _ _) _⟩

set_option maxHeartbeats 2000000 in
set_option maxRecDepth 100000 in
theorem passesN_any (x : Tst) (w : World) (hx : TsSz x) :
    Calls Tryz.prog 35 #[.slice none 0 0, x.one] w fun e w' => e = .returned (.tuple #[.bool false, errV (tstP x)]) ∧ Below w.heap.size w w' := by
  have c1 := fun W => nameB x.nm hx.1 W
  have c2 := fun W => checkHow_any x W hx.2
  have HB0 : Hid (Below w.heap.size w (w.alloc (boxT x))) := (Below.refl _ w).alloc (Nat.le_refl _) _
  have HS : Hid (∀ W, Below (w.alloc (boxT x)).heap.size (w.alloc (boxT x)) W → Below w.heap.size w W ∧ W.cell? ⟨w.heap.size, 0, none⟩ = some (.string (bs x.nm)) ∧ W.cell? ⟨w.heap.size, 1, none⟩ = some (.int .i64 x.hw) ∧ W.cell? ⟨w.heap.size, 2, none⟩ = some (.int .i64 x.t) ∧ W.cell? ⟨w.heap.size, 3, none⟩ = some (.int .i64 x.n) ∧ W.cell? ⟨w.heap.size, 4, none⟩ = some (.string (bs x.s))) := fun W hW => by
    have hp := (hW.block w.heap.size (by simp)).trans (new_block w _ 33)
    exact ⟨on1 HB0.out hW, cell_at hp rfl, cell_at hp rfl, cell_at hp rfl, cell_at hp rfl, cell_at hp rfl⟩
  by_cases h1 : nErr x.nm = 0
  · by_cases h2 : howE x = 0
    · have he : tstP x = 0 := by unfold tstP; rw [if_pos h1]; exact h2
      rw [he, errV_0]
      rw [h1, errV_0] at c1
      rw [h2, errV_0] at c2
      clear h1 h2 he hx
      go_enter Tryz.func35, Tryz.ntmps35
      go_wp2_with (first | (go_at_call 53; refine (rcheck_nil _).mono ?_; rintro e w' ⟨rfl, rfl⟩) | (go_at_call 33; refine (c1 _).mono ?_; rintro e w' ⟨rfl, rfl⟩) | (go_at_call 54; refine (c2 _).mono ?_; rintro e W1 ⟨rfl, hB1⟩; obtain ⟨hb1, p0, p1, p2, p3, p4⟩ := HS.out W1 hB1; have HB1 := Lib.hid hb1; clear hB1 hb1) | (go_at_call 55; refine (passes_nil x _).mono ?_; rintro e W2 ⟨rfl, hB2⟩))
      go_ret2
      exact ⟨rfl, on1 HB1.out hB2⟩
    · have he : tstP x = howE x := by unfold tstP; rw [if_pos h1]
      rw [he, errV_ne h2]
      rw [h1, errV_0] at c1
      rw [errV_ne h2] at c2
      generalize howE x = z at c2 ⊢
      clear h1 h2 he hx
      go_enter Tryz.func35, Tryz.ntmps35
      go_wp2_with (first | (go_at_call 53; refine (rcheck_nil _).mono ?_; rintro e w' ⟨rfl, rfl⟩) | (go_at_call 33; refine (c1 _).mono ?_; rintro e w' ⟨rfl, rfl⟩) | (go_at_call 54; refine (c2 _).mono ?_; rintro e W1 ⟨rfl, hB1⟩))
      go_ret2
      exact ⟨rfl, on1 HB0.out hB1⟩
  · have he : tstP x = nErr x.nm := by unfold tstP; rw [if_neg h1]
    rw [he, errV_ne h1]
    rw [errV_ne h1] at c1
    generalize nErr x.nm = z at c1 ⊢
    clear h1 he c2 hx
    go_enter Tryz.func35, Tryz.ntmps35
    go_wp2_with (first | (go_at_call 53; refine (rcheck_nil _).mono ?_; rintro e w' ⟨rfl, rfl⟩) | (go_at_call 33; refine (c1 _).mono ?_; rintro e w' ⟨rfl, rfl⟩))
    go_ret2
    exact ⟨rfl, HB0.out⟩
end Go.Proofs.YtmgkdghkenpmbaaGreatDoor
