/-
  Steps and tests in memory; what package path tells of them, in plain words.
-/
import Derived.Test.YtifcpjimhhpcpaaGreatDoorM20
import Derived.Test.YtifcpjimhhpcpaaGreatDoorM21
import Derived.Test.YtifcpjimhhpcpaaGreatDoorM24
import Derived.Test.YtifcpjimhhpcpaaGreatDoorM25
import Derived.Laws.StructEq
namespace Go.Proofs.YtifcpjimhhpcpaaGreatDoor
open Go.RowKit
set_option linter.unusedVariables false
set_option linter.unusedSimpArgs false

/-- A test. -/
structure Tst where
  nm : ByteArray
  hw : Int
  t : Int
  n : Int
  s : ByteArray
/-- A step. -/
structure Sp where
  bd : Nm
  back : Bool
  kd : Nm
  vt : Value
  ts : List Tst
abbrev Tst.one (x : Tst) : Value := .agg #[.string x.nm, .int .i64 x.hw, .int .i64 x.t, .int .i64 x.n, .string x.s]
abbrev Sp.one (p : Sp) : Value := .agg #[.string (bs p.bd), .bool p.back, .string (bs p.kd), p.vt]
def LiesTs (w : World) (b off : Nat) (L : List Tst) : Prop := ∀ k x, L[k]? = some x →
  w.cell? ⟨b, off + k * 5, none⟩ = some (.string x.nm) ∧ w.cell? ⟨b, off + k * 5 + 1, none⟩ = some (.int .i64 x.hw) ∧ w.cell? ⟨b, off + k * 5 + 2, none⟩ = some (.int .i64 x.t) ∧ w.cell? ⟨b, off + k * 5 + 3, none⟩ = some (.int .i64 x.n) ∧ w.cell? ⟨b, off + k * 5 + 4, none⟩ = some (.string x.s)
def IsTs (w : World) (v : Value) (L : List Tst) : Prop :=
  ∃ ao c, v = .slice ao L.length c ∧ (L = [] ∨ ∃ b off, ao = some ⟨b, off, none⟩ ∧ b < w.heap.size ∧ LiesTs w b off L)
def LiesSp (w : World) (b off : Nat) (L : List Sp) : Prop := ∀ k p, L[k]? = some p →
  (w.cell? ⟨b, off + k * 4, none⟩ = some (.string (bs p.bd)) ∧ w.cell? ⟨b, off + k * 4 + 1, none⟩ = some (.bool p.back) ∧ w.cell? ⟨b, off + k * 4 + 2, none⟩ = some (.string (bs p.kd)) ∧ w.cell? ⟨b, off + k * 4 + 3, none⟩ = some p.vt) ∧ IsTs w p.vt p.ts
def IsSp (w : World) (v : Value) (L : List Sp) : Prop :=
  ∃ ao c, v = .slice ao L.length c ∧ L.length ≤ c ∧ c ≤ maxLen ∧ (L = [] ∨ ∃ b off, ao = some ⟨b, off, none⟩ ∧ b < w.heap.size ∧ LiesSp w b off L)
theorem LiesTs.on {w w' : World} {b off : Nat} {L : List Tst} (h : LiesTs w b off L) (hb : b < w.heap.size) (hB : Below w.heap.size w w') : LiesTs w' b off L := fun k x hx => by
  obtain ⟨c0, c1, c2, c3, c4⟩ := h k x hx
  exact ⟨(hB.cell hb).trans c0, (hB.cell hb).trans c1, (hB.cell hb).trans c2, (hB.cell hb).trans c3, (hB.cell hb).trans c4⟩
theorem IsTs.on {w w' : World} {v : Value} {L : List Tst} (h : IsTs w v L) (hB : Below w.heap.size w w') : IsTs w' v L := by
  obtain ⟨ao, c, rfl, h0 | ⟨b, off, rfl, hb, hL⟩⟩ := h
  · exact ⟨ao, c, rfl, .inl h0⟩
  · exact ⟨_, c, rfl, .inr ⟨b, off, rfl, Nat.lt_of_lt_of_le hb hB.size, hL.on hb hB⟩⟩
theorem LiesSp.on {w w' : World} {b off : Nat} {L : List Sp} (h : LiesSp w b off L) (hb : b < w.heap.size) (hB : Below w.heap.size w w') : LiesSp w' b off L := fun k x hx => by
  obtain ⟨⟨c0, c1, c2, c3⟩, c4⟩ := h k x hx
  exact ⟨⟨(hB.cell hb).trans c0, (hB.cell hb).trans c1, (hB.cell hb).trans c2, (hB.cell hb).trans c3⟩, c4.on hB⟩
theorem IsSp.on {w w' : World} {v : Value} {L : List Sp} (h : IsSp w v L) (hB : Below w.heap.size w w') : IsSp w' v L := by
  obtain ⟨ao, c, rfl, h1, h2, h0 | ⟨b, off, rfl, hb, hL⟩⟩ := h
  · exact ⟨ao, c, rfl, h1, h2, .inl h0⟩
  · exact ⟨_, c, rfl, h1, h2, .inr ⟨b, off, rfl, Nat.lt_of_lt_of_le hb hB.size, hL.on hb hB⟩⟩
theorem LiesSp.take {w : World} {b off : Nat} {L : List Sp} (h : LiesSp w b off L) (i : Nat) : LiesSp w b off (L.take i) := fun k p hp => by
  rw [List.getElem?_take] at hp
  split at hp
  · exact h k p hp
  · cases hp
theorem IsTs.sl {w : World} {v : Value} {L : List Tst} (h : IsTs w v L) : ∃ ao c, v = .slice ao L.length c := by
  obtain ⟨ao, c, rfl, _⟩ := h
  exact ⟨_, _, rfl⟩
/-- Texts are not too long for memory. -/
def TsSz (x : Tst) : Prop := x.nm.size ≤ maxLen ∧ x.s.size ≤ maxLen
def SpSz (p : Sp) : Prop := p.ts.length ≤ maxLen ∧ ∀ x ∈ p.ts, TsSz x

/-- What is wrong with how a test asks. -/
def howE (x : Tst) : Int := if x.hw = 1 ∨ x.hw = 2 ∨ x.hw = 3 then vErr x.t x.n x.s.data.toList else if x.hw = 4 then (if x.t = 0 ∧ x.n = 0 ∧ x.s.data.toList = [] then 0 else 3) else 1
/-- Where the field of a name stands. -/
def idxFd (nm : Nm) : List Fd → Nat → Int
  | [], _ => -1
  | f :: r, k => if (f.nm == nm) = true then (k : Int) else idxFd nm r (k + 1)
theorem idxFd_spec (nm : Nm) (L : List Fd) : ∀ k, idxFd nm L k = -1 ∨ ∃ j q, idxFd nm L k = ((k + j : Nat) : Int) ∧ L[j]? = some q ∧ q.nm = nm := by
  induction L with
  | nil => intro k; exact .inl rfl
  | cons f r ih =>
    intro k
    unfold idxFd
    by_cases h : (f.nm == nm) = true
    · rw [if_pos h]; exact .inr ⟨0, f, rfl, rfl, by simpa using h⟩
    · rw [if_neg h]
      rcases ih (k + 1) with h | ⟨j, q, h1, h2, h3⟩
      · exact .inl h
      · exact .inr ⟨j + 1, q, by rw [h1]; congr 1; omega, by simpa using h2, h3⟩
/-- The field of a name. -/
def fdOf (F : List Fd) (nm : Nm) : Option Fd := if idxFd nm F 0 = -1 then none else F[(idxFd nm F 0).toNat]?
/-- What is wrong with a test of nodes that have those fields. -/
def tstE (F : List Fd) (x : Tst) : Int :=
  if nErr x.nm.data.toList = 0 then (match fdOf F x.nm.toList with
    | none => 5
    | some f => if howE x = 0 then (if x.hw ≠ 4 ∧ x.t ≠ f.t then 8 else 0) else howE x) else nErr x.nm.data.toList
def tsE (F : List Fd) : List Tst → Int
  | [] => 0
  | x :: r => if tstE F x = 0 then tsE F r else tstE F x
/-- The ends of a bond as a step goes over them. -/
def endA {α : Type} (back : Bool) (a b : α) : α := if back = true then b else a
/-- What is wrong with how a step comes from the one ahead. -/
def wayE (L : List Kd) (B : List Bd) (o : Option Sp) (p : Sp) : Int := match o with
  | none => if p.bd = [] ∧ p.back = false then 0 else 3
  | some q => if (bdTell L B p.bd).2 = 0 then (if (isKin L q.kd (endA p.back (bdTell L B p.bd).1.fr (bdTell L B p.bd).1.tt) && isKin L p.kd (endA p.back (bdTell L B p.bd).1.tt (bdTell L B p.bd).1.fr)) = true then 0 else 8) else (bdTell L B p.bd).2
/-- What is wrong with a step. -/
def spE (L : List Kd) (B : List Bd) (o : Option Sp) (p : Sp) : Int :=
  if nmErr L p.kd = 0 then (if wayE L B o p = 0 then (if 8 < p.ts.length then 4 else tsE (fields L p.kd) p.ts) else wayE L B o p) else nmErr L p.kd
def spsE (L : List Kd) (B : List Bd) : Option Sp → List Sp → Nat → Nat × Int
  | _, [], _ => (0, 0)
  | o, p :: r, k => if spE L B o p = 0 then spsE L B (some p) r (k + 1) else (k, spE L B o p)
/-- What is wrong with a path. -/
def ptE (L : List Kd) (B : List Bd) (l : List Sp) : Nat × Int :=
  if (sErr L B).2 = 0 then (if l = [] then (0, 5) else if 6 < l.length then (0, 4) else spsE L B none l 0) else (0, (sErr L B).2)

/-- How two values stand to one another. -/
def cErr (ta na : Int) (la : List UInt8) (tb nb : Int) (lb : List UInt8) : Int :=
  if vErr ta na la = 0 then (if vErr tb nb lb = 0 then (if ta = tb then 0 else 8) else vErr tb nb lb) else vErr ta na la
def cVal (ta na : Int) (la : List UInt8) (tb nb : Int) (lb : List UInt8) : Int :=
  if cErr ta na la tb nb lb = 0 then (if ta = 3 then Lib.compareBytes la lb else Lib.compareInt na nb) else 0
/-- Passes a value a test? -/
def passV (t n : Int) (s : ByteArray) (x : Tst) : Bool :=
  if x.hw = 1 then ((t == x.t) && (n == x.n) && (s.toList == x.s.toList))
  else if x.hw = 2 then !((t == x.t) && (n == x.n) && (s.toList == x.s.toList))
  else if x.hw = 3 then (decide (cErr t n s.data.toList x.t x.n x.s.data.toList = 0) && decide (cVal t n s.data.toList x.t x.n x.s.data.toList < 0))
  else true
/-- Passes a record a test? -/
def pass (rc : List Pr) (x : Tst) : Bool :=
  if rfErr x.nm.toList rc = 0 then (match rc[(idxP x.nm.toList rc 0).toNat]? with
    | some q => passV q.t q.n q.s x
    | none => passV 0 0 ⟨#[]⟩ x) else false
/-- The ids of nodes that fit. -/
def fitB (L : List Kd) (p : Sp) (n : Nd) : Bool := hasN (under L p.kd) n.kd.toList && p.ts.all (pass n.rc)
def fitI (L : List Kd) (N : List Nd) (p : Sp) : List Int := (N.filter (fitB L p)).map (·.id)
/-- Leads a step from one node to another one? -/
def tiedB (T : List Te) (p : Sp) (a b : Int) : Bool := fndT ⟨bs p.bd, endA p.back a b, endA p.back b a⟩ T
def lastI (r : List Int) : Int := r.getLast?.getD 0
/-- One step more. -/
def leadB (T : List Te) (p : Sp) (r : List Int) (i : Int) : Bool := r.isEmpty || tiedB T p (lastI r) i
def lngr (T : List Te) (p : Sp) (ids : List Int) (rows : List (List Int)) : List (List Int) := rows.flatMap fun r => (ids.filter (leadB T p r)).map fun i => r ++ [i]
/-- The rows, or none if there are too many. -/
def walkR (L : List Kd) (N : List Nd) (T : List Te) : List Sp → List (List Int) → Option (List (List Int))
  | [], rows => some rows
  | p :: r, rows => if 200 < (lngr T p (fitI L N p) rows).length then none else walkR L N T r (lngr T p (fitI L N p) rows)
/-- What Walk tells. -/
def walkE (L : List Kd) (B : List Bd) (N : List Nd) (T : List Te) (l : List Sp) : Int :=
  if (ptE L B l).2 = 0 then (if inE L B N T = 0 then (if confB L B N T = true then (match walkR L N T l [[]] with | none => 4 | some _ => 0) else 9) else inE L B N T) else (ptE L B l).2
end Go.Proofs.YtifcpjimhhpcpaaGreatDoor

/-
  The walks of value.Compare, path.checkHow, turned, isKin, and of the equality of values.
-/
namespace Go.Proofs.YtifcpjimhhpcpaaGreatDoor
open Go.RowKit
set_option linter.unusedVariables false
set_option linter.unusedSimpArgs false

set_option maxHeartbeats 1000000 in
set_option maxRecDepth 100000 in
theorem vcompare_any (ta na : Int) (sa : ByteArray) (tb nb : Int) (sb : ByteArray) (w : World) (ha : sa.size ≤ maxLen) (hb : sb.size ≤ maxLen) :
    Calls Tryz.prog 51 #[val ta na sa, val tb nb sb] w fun e w' => e = .returned (.tuple #[.int .i64 (cVal ta na sa.data.toList tb nb sb.data.toList), errV (cErr ta na sa.data.toList tb nb sb.data.toList)]) ∧ Below w.heap.size w w' := by
  have hca := fun w => check_any ta na sa w ha
  have hcb := fun w => check_any tb nb sb w hb
  unfold val at *
  unfold cVal
  by_cases h1 : vErr ta na sa.data.toList = 0
  · by_cases h2 : vErr tb nb sb.data.toList = 0
    · rw [h1, errV_0] at hca
      rw [h2, errV_0] at hcb
      by_cases h3 : ta = tb
      · have hce : cErr ta na sa.data.toList tb nb sb.data.toList = 0 := by unfold cErr; rw [if_pos h1, if_pos h2, if_pos h3]
        rw [hce]
        subst h3
        by_cases h4 : ta = 3
        · subst h4
          rw [if_pos rfl, if_pos rfl, errV_0]
          clear h1 h2 hce
          go_enter Tryz.func51, Tryz.ntmps51
          go_wp2_with (go_at_call 47; refine (hca _).mono ?_; rintro e w' ⟨rfl, rfl⟩; refine Hid.out ?_)
          refine Lib.hid ?_
          go_wp2_with (first | (go_at_call 47; refine (hcb _).mono ?_; rintro e w' ⟨rfl, rfl⟩) | (go_at_call 64; refine (scmp_any _ _ _).mono ?_; rintro e w' ⟨rfl, rfl⟩))
          go_ret2
          exact ⟨rfl, ((((Below.refl _ _).alloc (Nat.le_refl _) _).alloc (by simp) _).alloc (by simp; omega) _).alloc (by simp; omega) _⟩
        · rw [if_pos rfl, if_neg h4, errV_0]
          clear h1 h2 hce
          go_enter Tryz.func51, Tryz.ntmps51
          go_wp2_with (go_at_call 47; refine (hca _).mono ?_; rintro e w' ⟨rfl, rfl⟩; refine Hid.out ?_)
          refine Lib.hid ?_
          go_wp2_with (first | (go_at_call 47; refine (hcb _).mono ?_; rintro e w' ⟨rfl, rfl⟩) | (go_at_call 65; refine (cmp_any _ _ _).mono ?_; rintro e w' ⟨rfl, rfl⟩))
          go_ret2
          exact ⟨rfl, ((((Below.refl _ _).alloc (Nat.le_refl _) _).alloc (by simp) _).alloc (by simp; omega) _).alloc (by simp; omega) _⟩
      · have hce : cErr ta na sa.data.toList tb nb sb.data.toList = 8 := by unfold cErr; rw [if_pos h1, if_pos h2, if_neg h3]
        rw [hce, if_neg (by decide), errV_8]
        clear h1 h2 hce
        go_enter Tryz.func51, Tryz.ntmps51
        go_wp2_with (go_at_call 47; refine (hca _).mono ?_; rintro e w' ⟨rfl, rfl⟩; refine Hid.out ?_)
        refine Lib.hid ?_
        go_wp2_with (first | (go_at_call 47; refine (hcb _).mono ?_; rintro e w' ⟨rfl, rfl⟩))
        go_ret2
        exact ⟨rfl, ((((Below.refl _ _).alloc (Nat.le_refl _) _).alloc (by simp) _).alloc (by simp; omega) _).alloc (by simp; omega) _⟩
    · have hce : cErr ta na sa.data.toList tb nb sb.data.toList = vErr tb nb sb.data.toList := by unfold cErr; rw [if_pos h1, if_neg h2]
      rw [hce, if_neg h2]
      rw [h1, errV_0] at hca
      rw [errV_ne h2] at hcb ⊢
      generalize vErr tb nb sb.data.toList = x at hcb ⊢
      clear h1 h2 hce
      go_enter Tryz.func51, Tryz.ntmps51
      go_wp2_with (go_at_call 47; refine (hca _).mono ?_; rintro e w' ⟨rfl, rfl⟩; refine Hid.out ?_)
      refine Lib.hid ?_
      go_wp2_with (first | (go_at_call 47; refine (hcb _).mono ?_; rintro e w' ⟨rfl, rfl⟩))
      go_ret2
      exact ⟨rfl, ((((Below.refl _ _).alloc (Nat.le_refl _) _).alloc (by simp) _).alloc (by simp; omega) _).alloc (by simp; omega) _⟩
  · have hce : cErr ta na sa.data.toList tb nb sb.data.toList = vErr ta na sa.data.toList := by unfold cErr; rw [if_neg h1]
    rw [hce, if_neg h1]
    rw [errV_ne h1] at hca ⊢
    generalize vErr ta na sa.data.toList = x at hca ⊢
    clear h1 hce hcb
    go_enter Tryz.func51, Tryz.ntmps51
    go_wp2_with (first | (go_at_call 47; refine (hca _).mono ?_; rintro e w' ⟨rfl, rfl⟩))
    go_ret2
    exact ⟨rfl, (((Below.refl _ _).alloc (Nat.le_refl _) _).alloc (by simp) _).alloc (by simp; omega) _⟩

theorem strV : Tryz.prog.underlying 54 = some (.struct (Tryz.prog.fieldsOf 54)) := by kernel_rfl
theorem hpV : Tryz.prog.stoodInHeld 54 = false := by kernel_rfl
theorem egV54 : Tryz.prog.eqGuardType Tryz.prog.depth 54 = false := by kernel_rfl
/-- Are two values the same? -/
def eqB (t n : Int) (s : ByteArray) (t' n' : Int) (s' : ByteArray) : Bool := (t == t') && (n == n') && (s.toList == s'.toList)
theorem eqV_any (t n t' n' : Int) (s s' : ByteArray) (d : Nat) (w : World) : (Op.equalIn (d + 1 + 1) 54 (.agg #[.int .i64 t, .int .i64 n, .string s]) (.agg #[.int .i64 t', .int .i64 n', .string s'])).run Tryz.prog w = .ok (eqB t n s t' n' s') w := by
  have u3 := Tryz.underlying3
  have a3 := Tryz.isAgg3
  have z3 := Tryz.sizeOf3
  have u9 := Tryz.underlying9
  have a9 := Tryz.isAgg9
  have z9 := Tryz.sizeOf9
  rw [run_equalIn_agg w (d + 1) 54 _ _ strV hpV]
  simp only [Program.fieldsOf, Tryz.underlying54]
  unfold eqB
  go_simp
  by_cases h1 : t = t' <;> by_cases h2 : n = n' <;> by_cases h3 : s.toList = s'.toList <;> simp [h1, h2, h3]
theorem neqV_any (t n t' n' : Int) (s s' : ByteArray) (w : World) : (binOp .neq 54 (.agg #[.int .i64 t, .int .i64 n, .string s]) (.agg #[.int .i64 t', .int .i64 n', .string s'])).run Tryz.prog w = .ok (.bool (!eqB t n s t' n' s')) w := by
  rw [run_neq_struct, show (10000 : Nat) = 9998 + 1 + 1 from rfl, eqV_any]; rfl
theorem eqlV_any (t n t' n' : Int) (s s' : ByteArray) (w : World) : (binOp .eql 54 (.agg #[.int .i64 t, .int .i64 n, .string s]) (.agg #[.int .i64 t', .int .i64 n', .string s'])).run Tryz.prog w = .ok (.bool (eqB t n s t' n' s')) w := by
  rw [run_eql_struct, show (10000 : Nat) = 9998 + 1 + 1 from rfl, eqV_any]; rfl
theorem egVV (op : BinOp) (x y : Operand) (u v : Array Value) (w : World) : (eqGuard op 54 x y (.agg u) (.agg v)).run Tryz.prog w = .ok () w := run_eqGuard_agg w op 54 x y _ _ egV54
theorem eqB_zero (t n : Int) (s : ByteArray) : eqB t n s 0 0 ⟨#[]⟩ = decide (t = 0 ∧ n = 0 ∧ s.data.toList = []) := by
  unfold eqB
  have e : (⟨#[]⟩ : ByteArray).toList = [] := by rw [Lib.toList_data]
  rw [e, Lib.toList_data]
  generalize s.data.toList = l
  by_cases h1 : t = 0 <;> by_cases h2 : n = 0 <;> by_cases h3 : l = [] <;> simp [h1, h2, h3]

set_option maxHeartbeats 2000000 in
set_option maxRecDepth 100000 in
theorem how_any (x : Tst) (w : World) (hs : x.s.size ≤ maxLen) :
    Calls Tryz.prog 26 #[x.one] w fun e w' => e = .returned (errV (howE x)) ∧ Below w.heap.size w w' := by
  obtain ⟨nm, hw, t, n, s⟩ := x
  have hc := fun w => check_any t n s w hs
  unfold val at hc
  by_cases h1 : hw = 1 ∨ hw = 2 ∨ hw = 3
  · have he : howE ⟨nm, hw, t, n, s⟩ = vErr t n s.data.toList := by unfold howE; rw [if_pos h1]
    rw [he]
    generalize vErr t n s.data.toList = r at hc ⊢
    clear he
    rcases h1 with rfl | rfl | rfl
    all_goals
      go_enter Tryz.func26, Tryz.ntmps26
      go_wp2_with (go_at_call 47; refine (hc _).mono ?_; rintro e w' ⟨rfl, rfl⟩)
      go_ret
      exact ⟨rfl, b_alloc (b_alloc (Below.refl _ _) _) _⟩
  · obtain ⟨q1, q2⟩ := not_or.1 h1
    obtain ⟨q2, q3⟩ := not_or.1 q2
    have b1 : (hw == 1) = false := by simpa using q1
    have b2 : (hw == 2) = false := by simpa using q2
    have b3 : (hw == 3) = false := by simpa using q3
    by_cases h4 : hw = 4
    · subst h4
      have hne := neqV_any t n 0 0 s ⟨#[]⟩
      have hgd := fun op a b => egVV op a b #[.int .i64 t, .int .i64 n, .string s] #[.int .i64 0, .int .i64 0, .string ⟨#[]⟩]
      rw [eqB_zero] at hne
      by_cases hz : t = 0 ∧ n = 0 ∧ s.data.toList = []
      · have he : howE ⟨nm, 4, t, n, s⟩ = 0 := by unfold howE; rw [if_neg h1, if_pos rfl, if_pos hz]
        rw [he, errV_0]
        rw [decide_eq_true hz] at hne
        clear he hz h1 hc
        go_enter Tryz.func26, Tryz.ntmps26
        go_wp2
        go_ret
        exact ⟨rfl, b_alloc (Below.refl _ _) _⟩
      · have he : howE ⟨nm, 4, t, n, s⟩ = 3 := by unfold howE; rw [if_neg h1, if_pos rfl, if_neg hz]
        rw [he]
        rw [decide_eq_false hz] at hne
        clear he hz h1 hc
        go_enter Tryz.func26, Tryz.ntmps26
        go_wp2
        go_ret
        exact ⟨rfl, b_alloc (Below.refl _ _) _⟩
    · have he : howE ⟨nm, hw, t, n, s⟩ = 1 := by unfold howE; rw [if_neg h1, if_neg h4]
      rw [he]
      have b4 : (hw == 4) = false := by simpa using h4
      clear he h1 h4 hc q1 q2 q3
      go_enter Tryz.func26, Tryz.ntmps26
      go_wp2
      go_ret
      exact ⟨rfl, b_alloc (Below.refl _ _) _⟩

set_option maxHeartbeats 1000000 in
theorem turnS_any (b : Bool) (x y : ByteArray) (w : World) : Calls Tryz.prog 82 #[.bool b, .string x, .string y] w fun e w' => e = .returned (.tuple #[.string (endA b x y), .string (endA b y x)]) ∧ w' = w := by
  cases b
  all_goals
    go_enter Tryz.func82, Tryz.ntmps82
    go_wp2
    go_ret2
    exact ⟨rfl, rfl⟩
set_option maxHeartbeats 1000000 in
theorem turnI_any (b : Bool) (x y : Int) (w : World) : Calls Tryz.prog 36 #[.bool b, .int .i64 x, .int .i64 y] w fun e w' => e = .returned (.tuple #[.int .i64 (endA b x y), .int .i64 (endA b y x)]) ∧ w' = w := by
  cases b
  all_goals
    go_enter Tryz.func36, Tryz.ntmps36
    go_wp2
    go_ret2
    exact ⟨rfl, rfl⟩
set_option maxHeartbeats 1000000 in
theorem isKin_any {v : Value} {L : List Kd} {w : World} (h : IsK w v L) (hP : Parts w L) (hz : SzK L) (a c : Nm) :
    Calls Tryz.prog 83 #[v, .string (bs a), .string (bs c)] w fun e w' => e = .returned (.bool (isKin L a c)) ∧ Below w.heap.size w w' := by
  have cc := kis_any h hP hz a c
  obtain ⟨ak, ck, rfl, _⟩ := h.sln
  generalize isKin L a c = r at cc ⊢
  generalize errV (isErr L a c) = er at cc
  go_enter Tryz.func83, Tryz.ntmps83
  go_wp2_with (go_at_call 6; refine cc.mono ?_; rintro e w' ⟨rfl, hB⟩)
  go_ret
  exact ⟨rfl, hB⟩
end Go.Proofs.YtifcpjimhhpcpaaGreatDoor

/-
  The walks of path.checkTest and what it calls.
-/
namespace Go.Proofs.YtifcpjimhhpcpaaGreatDoor
open Go.RowKit
set_option linter.unusedVariables false
set_option linter.unusedSimpArgs false

set_option maxHeartbeats 1000000 in
theorem isFd_any (f : Fd) (b : Nat) (nm : ByteArray) (w : World) (c0 : w.cell? ⟨b, 0, none⟩ = some (.string nm)) (hb : b < w.heap.size) :
    Calls Tryz.prog 85 #[f.one, .pointer (some ⟨b, 0, none⟩)] w fun e w' => e = .returned (.bool (f.nm == nm.toList)) ∧ w' = w.alloc (.cells #[.string (bs f.nm), .int .i64 f.t, .bool f.must, .bool f.key] 164) := by
  have hbn : ¬ b = w.heap.size := by omega
  obtain ⟨fn, t, mu, ky⟩ := f
  simp only
  generalize hq : (fn == nm.toList) = r
  go_enter Tryz.func85, Tryz.ntmps85
  go_wp2
  go_ret
  exact ⟨ret_v (by rw [← hq]; simp), rfl⟩
set_option maxHeartbeats 4000000 in
set_option maxRecDepth 100000 in
theorem idxFd_some (b off cap : Nat) (L : List Fd) (bn : Nat) (nm : ByteArray) (w : World) (hb : b < w.heap.size) (hL : LiesF w b off L) (hn : L.length ≤ 8) (hbn : bn < w.heap.size) (c0 : w.cell? ⟨bn, 0, none⟩ = some (.string nm)) :
    Calls Tryz.prog 84 #[.slice (some ⟨b, off, none⟩) L.length cap, .func (.func 85) #[] #[.pointer (some ⟨bn, 0, none⟩)]] w fun e w' => e = .returned (.int .i64 (idxFd nm.toList L 0)) ∧ Below w.heap.size w w' := by
  go_enter Tryz.func84, Tryz.ntmps84
  go_wp2
  go_loopw [8] (fun i wr => ∃ k : Nat, k ≤ L.length ∧ i = .int .i64 k ∧ idxFd nm.toList L 0 = idxFd nm.toList (L.drop k) k ∧ Below w.heap.size w wr) (fun i _ => L.length - (intOf i).toNat)
  case atStart => exact ⟨0, Nat.zero_le _, rfl, rfl, Below.refl _ _⟩
  case round =>
    obtain ⟨k, hk, rfl, hi, hB⟩ := hrel
    have HI : Hid (idxFd nm.toList L 0 = idxFd nm.toList (L.drop k) k) := hi
    clear hi
    by_cases hlt : k < L.length
    · obtain ⟨f, hf⟩ : ∃ f, L[k]? = some f := ⟨L[k], by simp [hlt]⟩
      obtain ⟨e0, e1, e2, e3⟩ := hL k f hf
      have d0 := (hB.cell (p := ⟨b, off + k * 4, none⟩) hb).trans e0
      have d1 := (hB.cell (p := ⟨b, off + k * 4 + 1, none⟩) hb).trans e1
      have d2 := (hB.cell (p := ⟨b, off + k * 4 + 2, none⟩) hb).trans e2
      have d3 := (hB.cell (p := ⟨b, off + k * 4 + 3, none⟩) hb).trans e3
      have HD : Hid (L.drop k = f :: L.drop (k + 1)) := dropK hf
      have cn := isFd_any f bn nm wr ((hB.cell (p := ⟨bn, 0, none⟩) hbn).trans c0) (Nat.lt_of_lt_of_le hbn hB.size)
      clear e0 e1 e2 e3 hf hL c0
      by_cases hq : (f.nm == nm.toList) = true
      · have H : Hid (idxFd nm.toList L 0 = k) := by
          show _ = _
          rw [HI.out, HD.out]; unfold idxFd; rw [if_pos hq]
        rw [hq] at cn
        clear HI HD hq
        go_wp2_with (go_at_call 85; refine cn.mono ?_; rintro e w' ⟨rfl, rfl⟩)
        go_ret
        exact ⟨ret_v (by rw [H.out]; rfl), b_allocKC hB (Nat.le_refl _) _⟩
      · have H : Hid (idxFd nm.toList L 0 = idxFd nm.toList (L.drop (k + 1)) (k + 1)) := by
          show _ = _
          rw [HI.out, HD.out]; conv => lhs; unfold idxFd
          rw [if_neg hq]
        have hq' : (f.nm == nm.toList) = false := by simpa using hq
        rw [hq'] at cn
        clear HI HD hq hq'
        go_wp2_with (go_at_call 85; refine cn.mono ?_; rintro e w' ⟨rfl, rfl⟩)
        go_roundw
        case rel => exact ⟨k + 1, by omega, by go_num, H.out, b_allocKC hB (Nat.le_refl _) _⟩
        case measure => simp [intOf]; omega
    · have hd : L.drop k = [] := List.drop_eq_nil_of_le (by omega)
      have H : Hid (idxFd nm.toList L 0 = -1) := by
        show _ = _
        rw [HI.out, hd]; rfl
      clear HI hd hL c0
      go_wp2
      go_ret
      exact ⟨ret_v (by rw [H.out]; rfl), hB⟩
theorem idxFd_any {v : Value} {L : List Fd} {w : World} (h : IsF w v L) (hn : L.length ≤ 8) (bn : Nat) (nm : ByteArray) (hbn : bn < w.heap.size) (c0 : w.cell? ⟨bn, 0, none⟩ = some (.string nm)) :
    Calls Tryz.prog 84 #[v, .func (.func 85) #[] #[.pointer (some ⟨bn, 0, none⟩)]] w fun e w' => e = .returned (.int .i64 (idxFd nm.toList L 0)) ∧ Below w.heap.size w w' := by
  rcases h with ⟨ao, c, rfl, rfl, _⟩ | ⟨b, off, cap, rfl, hcap, hm, hb, hl⟩
  · exact idxT_nil _ _ _ w
  · exact idxFd_some b off cap L bn nm w hb hl hn hbn c0

set_option maxHeartbeats 4000000 in
set_option maxRecDepth 100000 in
theorem ctest_any {v : Value} {F : List Fd} {w : World} (h : IsF w v F) (hn : F.length ≤ 8) (x : Tst) (hx : TsSz x) :
    Calls Tryz.prog 57 #[v, x.one] w fun e w' => e = .returned (errV (tstE F x)) ∧ Below w.heap.size w w' := by
  obtain ⟨W0, hW0⟩ : ∃ W0, W0 = w.alloc (.cells #[.string x.nm, .int .i64 x.hw, .int .i64 x.t, .int .i64 x.n, .string x.s] 56) := ⟨_, rfl⟩
  have hB0 : Below w.heap.size w W0 := by rw [hW0]; exact b_alloc (Below.refl _ _) _
  have n0 : W0.heap[w.heap.size]? = some (.cells #[.string x.nm, .int .i64 x.hw, .int .i64 x.t, .int .i64 x.n, .string x.s] 56 (0, 0)) := by rw [hW0]; exact heap_alloc_new w _
  have hz0 : w.heap.size < W0.heap.size := by rw [hW0]; simp
  have HK : Hid (∀ W, Below W0.heap.size W0 W → Below w.heap.size w W ∧ (W.cell? ⟨w.heap.size, 0, none⟩ = some (.string x.nm) ∧ W.cell? ⟨w.heap.size, 1, none⟩ = some (.int .i64 x.hw) ∧ W.cell? ⟨w.heap.size, 2, none⟩ = some (.int .i64 x.t) ∧ W.cell? ⟨w.heap.size, 3, none⟩ = some (.int .i64 x.n) ∧ W.cell? ⟨w.heap.size, 4, none⟩ = some (.string x.s))) := fun W hW =>
    ⟨on1 hB0 hW, ⟨(hW.cell (p := ⟨w.heap.size, 0, none⟩) hz0).trans (cell_at n0 rfl), (hW.cell (p := ⟨w.heap.size, 1, none⟩) hz0).trans (cell_at n0 rfl), (hW.cell (p := ⟨w.heap.size, 2, none⟩) hz0).trans (cell_at n0 rfl), (hW.cell (p := ⟨w.heap.size, 3, none⟩) hz0).trans (cell_at n0 rfl), (hW.cell (p := ⟨w.heap.size, 4, none⟩) hz0).trans (cell_at n0 rfl)⟩⟩
  obtain ⟨_, k0, k1, k2, k3, k4⟩ := HK.out W0 (Below.refl _ _)
  have c1 := fun W => name_any x.nm W hx.1
  have c2 := idxFd_any (h.on hB0) hn w.heap.size x.nm hz0 k0
  have c3 := fun W => how_any x W hx.2
  have HF : Hid (IsF w v F) := h
  have HB0 := Lib.hid hB0
  obtain ⟨af, cf, rfl, _⟩ := h.sln
  clear h hx n0 hB0
  by_cases h1 : nErr x.nm.data.toList = 0
  · rw [h1, errV_0] at c1
    rcases idxFd_spec x.nm.toList F 0 with hi | ⟨j, f, hi, hf, hfn⟩
    · have he : tstE F x = 5 := by
        unfold tstE fdOf; rw [if_pos h1, if_pos hi]
      rw [he]
      rw [hi] at c2
      clear he h1 hi c3
      go_enter Tryz.func57, Tryz.ntmps57
      go_upto_region 1 with fail
      rw [← hW0]
      clear hW0
      go_wp2_with (first | (go_at_call 25; refine (c1 _).mono ?_; rintro e W1 ⟨rfl, hW1⟩; subst hW1) | (go_at_call 84; refine c2.mono ?_; rintro e W2 ⟨rfl, hB2⟩))
      go_ret
      exact ⟨rfl, on1 HB0.out hB2⟩
    · have hne : ¬ idxFd x.nm.toList F 0 = -1 := by omega
      rw [Nat.zero_add] at hi
      have hfd : fdOf F x.nm.toList = some f := by
        unfold fdOf; rw [if_neg hne, hi, Int.toNat_natCast]; exact hf
      rw [hi] at c2
      have hjl : j < F.length := (List.getElem?_eq_some_iff.1 hf).1
      have hj0 : ¬ ((j : Int) < 0) := by omega
      by_cases h2 : howE x = 0
      · rw [h2, errV_0] at c3
        have HFL : Hid (∃ b off, af = some ⟨b, off, none⟩ ∧ b < w.heap.size ∧ LiesF w b off F) := by
          rcases HF.out with ⟨ao, c, e, e', _⟩ | ⟨b, off, cap, e, hcap, hm, hb, hl⟩
          · rw [e'] at hjl; exact absurd hjl (by simp)
          · injection e with q1 _ _
            exact ⟨b, off, q1, hb, hl⟩
        obtain ⟨b, off, rfl, hb, hl⟩ := HFL.out
        obtain ⟨e0, e1, e2, e3⟩ := hl j f hf
        have HC : Hid (∀ W, Below W0.heap.size W0 W → W.cell? ⟨b, off + j * 4 + 1, none⟩ = some (.int .i64 f.t)) := fun W hW => ((on1K HB0.out hW (Nat.le_refl _)).cell (p := ⟨b, off + j * 4 + 1, none⟩) hb).trans e1
        clear e0 e1 e2 e3 hl hf hfn hi hne HFL
        by_cases h3 : x.hw = 4
        · have he : tstE F x = 0 := by unfold tstE; rw [if_pos h1, hfd]; simp only; rw [if_pos h2, if_neg (by simp [h3])]
          rw [he, errV_0]
          have hb4 : (x.hw != 4) = false := by simp [h3]
          have H3 := Lib.hid h3
          clear he h1 h2 hfd h3
          go_enter Tryz.func57, Tryz.ntmps57
          go_upto_region 1 with fail
          rw [← hW0]
          clear hW0
          go_wp2_with (first | (go_at_call 25; refine (c1 _).mono ?_; rintro e W1 ⟨rfl, hW1⟩; subst hW1) | (go_at_call 84; refine c2.mono ?_; rintro e W2 ⟨rfl, hB2⟩; obtain ⟨_, p0, p1, p2, p3, p4⟩ := HK.out W2 hB2; have HB2 := Lib.hid hB2; clear hB2) | (go_at_call 26; refine (c3 _).mono ?_; rintro e W3 ⟨rfl, hB3⟩; have hB03 := on1K HB2.out hB3 (Nat.le_refl _); obtain ⟨hb3, m0, m1, m2, m3, m4⟩ := HK.out W3 hB03; have q1 := HC.out W3 hB03; have HB3 := Lib.hid hb3; clear hb3 hB3 hB03))
          rw [H3.out] at m1
          go_quiet (fail)
          go_wp2
          go_ret
          exact ⟨rfl, b_drewK HB3.out _⟩
        · have hb4 : (x.hw != 4) = true := by simpa using h3
          by_cases h4 : x.t = f.t
          · have he : tstE F x = 0 := by unfold tstE; rw [if_pos h1, hfd]; simp only; rw [if_pos h2, if_neg (by simp [h4])]
            rw [he, errV_0]
            have H4 := Lib.hid h4
            clear he h1 h2 hfd h4
            go_enter Tryz.func57, Tryz.ntmps57
            go_upto_region 1 with fail
            rw [← hW0]
            clear hW0
            go_wp2_with (first | (go_at_call 25; refine (c1 _).mono ?_; rintro e W1 ⟨rfl, hW1⟩; subst hW1) | (go_at_call 84; refine c2.mono ?_; rintro e W2 ⟨rfl, hB2⟩; obtain ⟨_, p0, p1, p2, p3, p4⟩ := HK.out W2 hB2; have HB2 := Lib.hid hB2; clear hB2) | (go_at_call 26; refine (c3 _).mono ?_; rintro e W3 ⟨rfl, hB3⟩; have hB03 := on1K HB2.out hB3 (Nat.le_refl _); obtain ⟨hb3, m0, m1, m2, m3, m4⟩ := HK.out W3 hB03; have q1 := HC.out W3 hB03; have HB3 := Lib.hid hb3; clear hb3 hB3 hB03))
            rw [H4.out] at m2
            go_quiet (fail)
            go_wp2
            go_ret
            exact ⟨rfl, b_drewK HB3.out _⟩
          · have he : tstE F x = 8 := by unfold tstE; rw [if_pos h1, hfd]; simp only; rw [if_pos h2, if_pos ⟨h3, h4⟩]
            rw [he]
            have hb5 : (x.t != f.t) = true := by simpa using h4
            clear he h1 h2 hfd
            go_enter Tryz.func57, Tryz.ntmps57
            go_upto_region 1 with fail
            rw [← hW0]
            clear hW0
            go_wp2_with (first | (go_at_call 25; refine (c1 _).mono ?_; rintro e W1 ⟨rfl, hW1⟩; subst hW1) | (go_at_call 84; refine c2.mono ?_; rintro e W2 ⟨rfl, hB2⟩; obtain ⟨_, p0, p1, p2, p3, p4⟩ := HK.out W2 hB2; have HB2 := Lib.hid hB2; clear hB2) | (go_at_call 26; refine (c3 _).mono ?_; rintro e W3 ⟨rfl, hB3⟩; have hB03 := on1K HB2.out hB3 (Nat.le_refl _); obtain ⟨hb3, m0, m1, m2, m3, m4⟩ := HK.out W3 hB03; have q1 := HC.out W3 hB03; have HB3 := Lib.hid hb3; clear hb3 hB3 hB03))
            go_quiet (fail)
            go_wp2
            go_ret
            exact ⟨rfl, b_drewK HB3.out _⟩
      · have he : tstE F x = howE x := by unfold tstE; rw [if_pos h1, hfd]; simp only; rw [if_neg h2]
        rw [he, errV_ne h2]
        rw [errV_ne h2] at c3
        generalize howE x = z at c3
        clear he h1 h2 hfd hf hfn hi hne
        go_enter Tryz.func57, Tryz.ntmps57
        go_upto_region 1 with fail
        rw [← hW0]
        clear hW0
        go_wp2_with (first | (go_at_call 25; refine (c1 _).mono ?_; rintro e W1 ⟨rfl, hW1⟩; subst hW1) | (go_at_call 84; refine c2.mono ?_; rintro e W2 ⟨rfl, hB2⟩; obtain ⟨_, p0, p1, p2, p3, p4⟩ := HK.out W2 hB2; have HB2 := Lib.hid hB2; clear hB2) | (go_at_call 26; refine (c3 _).mono ?_; rintro e W3 ⟨rfl, hB3⟩; have hB03 := on1K HB2.out hB3 (Nat.le_refl _); obtain ⟨hb3, _⟩ := HK.out W3 hB03; have HB3 := Lib.hid hb3; clear hb3 hB3 hB03))
        go_ret
        exact ⟨rfl, HB3.out⟩
  · have he : tstE F x = nErr x.nm.data.toList := by unfold tstE; rw [if_neg h1]
    rw [he, errV_ne h1]
    rw [errV_ne h1] at c1
    generalize nErr x.nm.data.toList = z at c1
    clear he h1 c2 c3
    go_enter Tryz.func57, Tryz.ntmps57
    go_upto_region 1 with fail
    rw [← hW0]
    clear hW0
    go_wp2_with (first | (go_at_call 25; refine (c1 _).mono ?_; rintro e W1 ⟨rfl, hW1⟩; subst hW1))
    go_ret
    exact ⟨rfl, HB0.out⟩
end Go.Proofs.YtifcpjimhhpcpaaGreatDoor
