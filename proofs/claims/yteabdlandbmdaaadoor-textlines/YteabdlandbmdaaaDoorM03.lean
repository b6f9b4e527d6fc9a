/-
  Plain mathematics of chapter 1: what is printed is read again, what is read is printed again, and how values stand to one another.
-/
import Derived.Test.YteabdlandbmdaaaDoorM02
import Derived.Deep.QuietTactic
import Derived.BigQuiet
import Derived.Laws.Cover1
import Derived.Deep.RegionLaw
import Derived.Lib.Small
import Derived.Lib.Slices
import Derived.Lib.Walk
import Derived.Lib.Bytealg
namespace Go.Proofs.YteabdlandbmdaaaDoor
open Go.RowKit
set_option linter.unusedVariables false
set_option linter.unusedSimpArgs false

theorem digit_of (k : Nat) (h : k < 10) : Lib.digitVal (UInt8.ofNat (48 + k)) = some k ∧ noDig (UInt8.ofNat (48 + k)) = false ∧ ((UInt8.ofNat (48 + k) = 48) ↔ k = 0) := by
  have hk : k = 0 ∨ k = 1 ∨ k = 2 ∨ k = 3 ∨ k = 4 ∨ k = 5 ∨ k = 6 ∨ k = 7 ∨ k = 8 ∨ k = 9 := by omega
  rcases hk with rfl | rfl | rfl | rfl | rfl | rfl | rfl | rfl | rfl | rfl <;> decide

theorem hasP_append (p : UInt8 → Bool) (a b : List UInt8) : hasP p (a ++ b) = (hasP p a || hasP p b) := by unfold hasP; rw [List.any_append]
theorem dd_dig (u : Nat) : hasP noDig (Lib.decDigits u) = false := by
  induction u using Nat.strongRecOn with
  | _ u ih =>
    by_cases h : u < 10
    · rw [Lib.decDigits, dif_pos h]
      simp only [hasP, List.any_cons, List.any_nil, (digit_of u h).2.1, Bool.or_false]
    · rw [Lib.decDigits, dif_neg h, hasP_append, ih _ (by omega)]
      simp only [hasP, List.any_cons, List.any_nil, (digit_of (u % 10) (by omega)).2.1, Bool.or_false]
end Go.Proofs.YteabdlandbmdaaaDoor

/-
  What the walk of the law ValueBack says of its calls and of memory.
-/
namespace Go.Proofs.YteabdlandbmdaaaDoor
open Go.RowKit
set_option linter.unusedVariables false
set_option linter.unusedSimpArgs false

abbrev agg (t n : Int) (s : ByteArray) : Value := .agg #[.int .i64 t, .int .i64 n, .string s]

theorem tabOn {w w' : World} (hT : Tab w) (hb : Below w.heap.size w w') : Tab w' := Lib.tabBelow_of_tabIs hT w' hb
theorem on1B {W0 W W' : World} (hK : Below W0.heap.size W0 W) (hb : Below W.heap.size W W') : Below W0.heap.size W0 W' := hK.trans (hb.mono hK.size)
end Go.Proofs.YteabdlandbmdaaaDoor

/-
  What package record says, in plain functions: the fault of a record, two records joined; and how a record lies in memory.
-/
namespace Go.Proofs.YteabdlandbmdaaaDoor
open Go.RowKit
set_option linter.unusedVariables false
set_option linter.unusedSimpArgs false

structure Pr where
  nm : ByteArray
  t : Int
  n : Int
  s : ByteArray

def Pr.cells (p : Pr) : List Value := [.string p.nm, .int .i64 p.t, .int .i64 p.n, .string p.s]
abbrev Pr.one (p : Pr) : Value := .agg #[.string p.nm, .int .i64 p.t, .int .i64 p.n, .string p.s]
def Pr.l (p : Pr) : List UInt8 := p.nm.data.toList
def Pr.bad (p : Pr) : Int := vErr p.t p.n p.s.data.toList
def Pr.lt (p q : Pr) : Bool := Op.bytesLess p.nm.toList q.nm.toList
def Pr.low (p q : Pr) : Bool := Op.bytesLess p.nm.toList q.nm.toList || p.nm.toList == q.nm.toList

def chk : Option Pr → List Pr → Int
  | _, [] => 0
  | none, p :: r => if nErr p.l = 0 then (if p.bad = 0 then chk (some p) r else p.bad) else nErr p.l
  | some q, p :: r => if nErr p.l = 0 then (if p.bad = 0 then (if p.low q = true then 7 else chk (some p) r) else p.bad) else nErr p.l
def rErr (L : List Pr) : Int := if 8 < L.length then 4 else chk none L

def prv (L : List Pr) (k : Nat) : Option Pr := if k = 0 then none else L[k - 1]?

def Sz (L : List Pr) : Prop := ∀ p ∈ L, p.nm.size ≤ maxLen ∧ p.s.size ≤ maxLen

def Lies (w : World) (b off : Nat) (L : List Pr) : Prop :=
  ∀ k p, L[k]? = some p → w.cell? ⟨b, off + k * 4, none⟩ = some (.string p.nm) ∧ w.cell? ⟨b, off + k * 4 + 1, none⟩ = some (.int .i64 p.t) ∧ w.cell? ⟨b, off + k * 4 + 2, none⟩ = some (.int .i64 p.n) ∧ w.cell? ⟨b, off + k * 4 + 3, none⟩ = some (.string p.s)

theorem chk_end (o : Option Pr) : chk o [] = 0 := by cases o <;> rfl
theorem drop_at {L : List Pr} {k : Nat} {p : Pr} (h : L[k]? = some p) : L.drop k = p :: L.drop (k + 1) := by
  obtain ⟨hk, rfl⟩ := List.getElem?_eq_some_iff.1 h
  exact List.drop_eq_getElem_cons hk
theorem chk_name {o : Option Pr} {p : Pr} {r : List Pr} (h : ¬ nErr p.l = 0) : chk o (p :: r) = nErr p.l := by cases o <;> simp [chk, h]
theorem chk_bad {o : Option Pr} {p : Pr} {r : List Pr} (h : nErr p.l = 0) (h2 : ¬ p.bad = 0) : chk o (p :: r) = p.bad := by cases o <;> simp [chk, h, h2]
theorem chk_first {p : Pr} {r : List Pr} (h : nErr p.l = 0) (h2 : p.bad = 0) : chk none (p :: r) = chk (some p) r := by simp [chk, h, h2]
theorem chk_low {q p : Pr} {r : List Pr} (h : nErr p.l = 0) (h2 : p.bad = 0) (h3 : p.low q = true) : chk (some q) (p :: r) = 7 := by simp [chk, h, h2, h3]
theorem chk_up {q p : Pr} {r : List Pr} (h : nErr p.l = 0) (h2 : p.bad = 0) (h3 : p.low q = false) : chk (some q) (p :: r) = chk (some p) r := by simp [chk, h, h2, h3]
theorem low_parts {p q : Pr} (h : p.low q = true) : Op.bytesLess p.nm.toList q.nm.toList = true ∨ (Op.bytesLess p.nm.toList q.nm.toList = false ∧ (p.nm.toList == q.nm.toList) = true) := by
  unfold Pr.low at h
  cases h1 : Op.bytesLess p.nm.toList q.nm.toList
  · right; rw [h1, Bool.false_or] at h; exact ⟨rfl, h⟩
  · left; rfl
theorem up_parts {p q : Pr} (h : ¬ p.low q = true) : Op.bytesLess p.nm.toList q.nm.toList = false ∧ (p.nm.toList == q.nm.toList) = false := by
  unfold Pr.low at h
  cases h1 : Op.bytesLess p.nm.toList q.nm.toList
  · refine ⟨rfl, ?_⟩
    cases h2 : (p.nm.toList == q.nm.toList)
    · rfl
    · rw [h1, h2] at h; exact absurd rfl h
  · rw [h1] at h; exact absurd rfl h
end Go.Proofs.YteabdlandbmdaaaDoor

/-
  The walk of record.Check.
-/
namespace Go.Proofs.YteabdlandbmdaaaDoor
open Go.RowKit
set_option linter.unusedVariables false
set_option linter.unusedSimpArgs false

theorem errV_7 : errV 7 = .iface 54 (.int .i64 7) := rfl
theorem prv_0 (L : List Pr) : prv L 0 = none := rfl
theorem prv_s {L : List Pr} {k : Nat} {q : Pr} (h : L[k]? = some q) : prv L (k + 1) = some q := by unfold prv; rw [if_neg (by omega)]; simpa using h
theorem b_alloc {w wr : World} (h : Below w.heap.size w wr) (o : Obj) : Below w.heap.size w (wr.alloc o) := h.alloc h.size _
theorem b_drewN {B : Nat} {a w : World} (h : Below B a w) : ∀ n, Below B a (w.drewN n) := fun n => ⟨h.os, h.tape, h.output, h.size, h.block⟩

set_option maxHeartbeats 4000000 in
set_option maxRecDepth 100000 in
theorem rcheck_some (b off cap : Nat) (L : List Pr) (w : World) (hb : b < w.heap.size) (hL : Lies w b off L) (hs : Sz L) (hn : L.length ≤ 8) :
    Calls Tryd.prog 15 #[.slice (some ⟨b, off, none⟩) L.length cap] w fun e w' => e = .returned (errV (chk none L)) ∧ Below w.heap.size w w' := by
  go_enter Tryd.func15, Tryd.ntmps15
  go_wp2
  go_loopw [13] (fun i wr => ∃ k : Nat, k ≤ L.length ∧ i = .int .i64 k ∧ chk none L = chk (prv L k) (L.drop k) ∧ Below w.heap.size w wr) (fun i _ => L.length - (intOf i).toNat)
  case atStart => exact ⟨0, Nat.zero_le _, rfl, rfl, Below.refl _ _⟩
  case round =>
    obtain ⟨k, hk, rfl, hc, hB⟩ := hrel
    have HC : Hid (chk none L = chk (prv L k) (L.drop k)) := hc
    clear hc
    by_cases hlt : k < L.length
    · obtain ⟨p, hp⟩ : ∃ p, L[k]? = some p := ⟨L[k], by simp [hlt]⟩
      obtain ⟨c0, c1, c2, c3⟩ := hL k p hp
      have d0 := (hB.cell (p := ⟨b, off + k * 4, none⟩) hb).trans c0
      have d1 := (hB.cell (p := ⟨b, off + k * 4 + 1, none⟩) hb).trans c1
      have d2 := (hB.cell (p := ⟨b, off + k * 4 + 2, none⟩) hb).trans c2
      have d3 := (hB.cell (p := ⟨b, off + k * 4 + 3, none⟩) hb).trans c3
      have HP : Hid (L[k]? = some p) := hp
      have HD : Hid (L.drop k = p :: L.drop (k + 1)) := drop_at hp
      obtain ⟨z1, z2⟩ := hs p (List.mem_of_getElem? hp)
      have hbr : b < wr.heap.size := Nat.lt_of_lt_of_le hb hB.size
      have hbn : ¬ b = wr.heap.size := by omega
      have nm := fun w => name_any p.nm w z1
      have cm := fun w => check_any p.t p.n p.s w z2
      have HZ : Hid (L.length ≤ 8 ∧ Sz L ∧ Lies w b off L) := ⟨hn, hs, hL⟩
      clear c0 c1 c2 c3 hp hs hL
      by_cases h1 : nErr p.l = 0
      · by_cases h2 : p.bad = 0
        · have nm' : ∀ w, Calls Tryd.prog 21 #[.string p.nm] w fun e w' => e = .returned .nilIface ∧ w' = w := fun w => by
            have := nm w; rw [show nErr p.nm.data.toList = 0 from h1] at this; exact this
          have cm' : ∀ w, Calls Tryd.prog 23 #[val p.t p.n p.s] w fun e w' => e = .returned .nilIface ∧ w' = w.alloc (.cells #[.int .i64 p.t, .int .i64 p.n, .string p.s] 50) := fun w => by
            have := cm w; rw [show vErr p.t p.n p.s.data.toList = 0 from h2] at this; exact this
          clear nm cm
          have H12 : Hid (nErr p.l = 0 ∧ p.bad = 0) := ⟨h1, h2⟩
          clear h1 h2
          by_cases hk0 : k = 0
          · subst hk0
            have hstep : Hid (chk none L = chk (prv L (0 + 1)) (L.drop (0 + 1))) := by
              show _ = _
              have := HC.out; rw [HD.out, prv_0, chk_first H12.out.1 H12.out.2] at this
              rw [this, prv_s HP.out]
            clear HC HD H12
            simp only [Nat.zero_mul, Nat.add_zero] at d0 d1 d2 d3
            go_wp2_with (first | (go_at_call 21; refine (nm' _).mono ?_; rintro e w' ⟨rfl, rfl⟩) | (go_at_call 23; refine (cm' _).mono ?_; rintro e w' ⟨rfl, rfl⟩))
            go_quiet (fail)
            go_wp2
            go_roundw
            case rel => exact ⟨0 + 1, by omega, by go_num, hstep.out, b_drewN (b_alloc (b_alloc hB _) _) _⟩
            case measure => simp [intOf]; omega
          · obtain ⟨q, hq⟩ : ∃ q, L[k - 1]? = some q := ⟨L[k - 1], by simp⟩
            have hprv : prv L k = some q := by unfold prv; rw [if_neg hk0]; exact hq
            obtain ⟨c0, _⟩ := HZ.out.2.2 (k - 1) q hq
            have e0 := (hB.cell (p := ⟨b, off + (k - 1) * 4, none⟩) hb).trans c0
            have hw1 : IntKind.i64.wrap ((k - 1 : Nat) : Int) = ((k - 1 : Nat) : Int) := by rw [IntKind.wrap_i64]; omega
            have hb1 : ((k - 1 : Nat) : Int) < (L.length : Int) := by omega
            have hg : 0 < k := by omega
            have hcast : (k : Int) - 1 = ((k - 1 : Nat) : Int) := by omega
            clear c0 hq
            by_cases h3 : p.low q = true
            · have H : Hid (errV (chk none L) = .iface 54 (.int .i64 7)) := by
                show _ = _
                rw [HC.out, HD.out, hprv, chk_low H12.out.1 H12.out.2 h3, errV_7]
              clear HC HD H12 hprv
              rcases low_parts h3 with h3' | ⟨h3', h4'⟩
              all_goals
                clear h3
                go_wp2_with (first | (go_at_call 21; refine (nm' _).mono ?_; rintro e w' ⟨rfl, rfl⟩) | (go_at_call 23; refine (cm' _).mono ?_; rintro e w' ⟨rfl, rfl⟩))
                go_quiet (fail)
                go_wp2
                go_ret
                exact ⟨ret_v H.out.symm, b_drewN (b_alloc (b_alloc hB _) _) _⟩
            · have hstep : Hid (chk none L = chk (prv L (k + 1)) (L.drop (k + 1))) := by
                show _ = _
                have := HC.out; rw [HD.out, hprv, chk_up H12.out.1 H12.out.2 (by simpa using h3)] at this
                rw [this, prv_s HP.out]
              clear HC HD H12 hprv
              obtain ⟨h3', h4'⟩ := up_parts h3
              clear h3
              go_wp2_with (first | (go_at_call 21; refine (nm' _).mono ?_; rintro e w' ⟨rfl, rfl⟩) | (go_at_call 23; refine (cm' _).mono ?_; rintro e w' ⟨rfl, rfl⟩))
              go_quiet (fail)
              go_wp2
              go_roundw
              case rel => exact ⟨k + 1, by omega, by go_num, hstep.out, b_drewN (b_alloc (b_alloc hB _) _) _⟩
              case measure => simp [intOf]; omega
        · have cm' : ∀ w, Calls Tryd.prog 23 #[val p.t p.n p.s] w fun e w' => e = .returned (.iface 54 (.int .i64 p.bad)) ∧ w' = w.alloc (.cells #[.int .i64 p.t, .int .i64 p.n, .string p.s] 50) := fun w => by
            have := cm w; rw [show vErr p.t p.n p.s.data.toList = p.bad from rfl, errV_ne h2] at this; exact this
          have nm' : ∀ w, Calls Tryd.prog 21 #[.string p.nm] w fun e w' => e = .returned .nilIface ∧ w' = w := fun w => by
            have := nm w; rw [show nErr p.nm.data.toList = 0 from h1] at this; exact this
          have H : Hid (errV (chk none L) = .iface 54 (.int .i64 p.bad)) := by
            show _ = _
            rw [HC.out, HD.out, chk_bad h1 h2, errV_ne h2]
          clear HC HD nm cm h1 h2
          go_wp2_with (first | (go_at_call 21; refine (nm' _).mono ?_; rintro e w' ⟨rfl, rfl⟩) | (go_at_call 23; refine (cm' _).mono ?_; rintro e w' ⟨rfl, rfl⟩))
          go_ret
          exact ⟨ret_v H.out.symm, b_alloc (b_alloc hB _) _⟩
      · have nm' : ∀ w, Calls Tryd.prog 21 #[.string p.nm] w fun e w' => e = .returned (.iface 54 (.int .i64 (nErr p.l))) ∧ w' = w := fun w => by
          have := nm w; rw [show nErr p.nm.data.toList = nErr p.l from rfl, errV_ne h1] at this; exact this
        have H : Hid (errV (chk none L) = .iface 54 (.int .i64 (nErr p.l))) := by
          show _ = _
          rw [HC.out, HD.out, chk_name h1, errV_ne h1]
        clear HC HD nm cm h1
        go_wp2_with (first | (go_at_call 21; refine (nm' _).mono ?_; rintro e w' ⟨rfl, rfl⟩))
        go_ret
        exact ⟨ret_v H.out.symm, b_alloc hB _⟩
    · have hd : L.drop k = [] := List.drop_eq_nil_of_le (by omega)
      have H : Hid (errV (chk none L) = .nilIface) := by
        show _ = _
        rw [HC.out, hd, chk_end]; rfl
      clear HC hd
      go_wp2
      go_ret
      exact ⟨ret_v H.out.symm, hB⟩
end Go.Proofs.YteabdlandbmdaaaDoor

/-
  The walks of record.Check at every record, and of record.merged with one property.
-/
namespace Go.Proofs.YteabdlandbmdaaaDoor
open Go.RowKit
set_option linter.unusedVariables false
set_option linter.unusedSimpArgs false

def IsRec (w : World) (v : Value) (L : List Pr) : Prop :=
  (v = .slice none 0 0 ∧ L = []) ∨ ∃ b off cap, v = .slice (some ⟨b, off, none⟩) L.length cap ∧ L.length ≤ cap ∧ b < w.heap.size ∧ Lies w b off L

theorem Lies.on {w w' : World} {b off : Nat} {L : List Pr} (h : Lies w b off L) (hb : b < w.heap.size) (hB : Below w.heap.size w w') : Lies w' b off L := fun k p hp => by
  obtain ⟨c0, c1, c2, c3⟩ := h k p hp
  exact ⟨(hB.cell hb).trans c0, (hB.cell hb).trans c1, (hB.cell hb).trans c2, (hB.cell hb).trans c3⟩
theorem IsRec.on {w w' : World} {v : Value} {L : List Pr} (h : IsRec w v L) (hB : Below w.heap.size w w') : IsRec w' v L := by
  rcases h with h | ⟨b, off, cap, hv, hc, hb, hl⟩
  · exact .inl h
  · exact .inr ⟨b, off, cap, hv, hc, Nat.lt_of_lt_of_le hb hB.size, hl.on hb hB⟩

set_option maxHeartbeats 1000000 in
theorem rcheck_nil (ao : Option Addr) (c : Nat) (w : World) : Calls Tryd.prog 15 #[.slice ao 0 c] w fun e w' => e = .returned (errV (rErr [])) ∧ Below w.heap.size w w' := by
  go_enter Tryd.func15, Tryd.ntmps15
  go_wp2
  go_loopw [13] (fun i wr => i = .int .i64 0 ∧ wr = w) (fun i _ => 0)
  case atStart => exact ⟨rfl, rfl⟩
  case round =>
    obtain ⟨rfl, rfl⟩ := hrel
    go_wp2
    go_ret
    exact ⟨rfl, Below.refl _ _⟩
set_option maxHeartbeats 1000000 in
theorem rcheck_many (ao : Option Addr) (n cap : Nat) (w : World) (h : 8 < n) (hm : n ≤ maxLen) : Calls Tryd.prog 15 #[.slice ao n cap] w fun e w' => e = .returned (.iface 54 (.int .i64 4)) ∧ Below w.heap.size w w' := by
  unfold maxLen at hm
  go_enter Tryd.func15, Tryd.ntmps15
  go_wp2
  go_ret
  exact ⟨rfl, Below.refl _ _⟩
def cellsOf (L : List Pr) : List Value := L.flatMap Pr.cells

end Go.Proofs.YteabdlandbmdaaaDoor

/-
  What package graph says, in plain functions: the fault of a graph, the ends of ties at a node; and how a graph lies in memory.
-/
namespace Go.Proofs.YteabdlandbmdaaaDoor
open Go.RowKit
set_option linter.unusedVariables false
set_option linter.unusedSimpArgs false

structure Nd where
  id : Int
  kd : ByteArray
  rv : Value
  rc : List Pr
structure Te where
  bd : ByteArray
  fr : Int
  tt : Int
abbrev Nd.one (n : Nd) : Value := .agg #[.int .i64 n.id, .string n.kd, n.rv]
abbrev Te.one (t : Te) : Value := .agg #[.string t.bd, .int .i64 t.fr, .int .i64 t.tt]

def idOk (i : Int) : Bool := decide (1 ≤ i) && decide (i ≤ 1000)
def Nd.low (n : Nd) (o : Option Nd) : Bool := match o with | none => false | some q => decide (n.id ≤ q.id)
def ndE (o : Option Nd) (n : Nd) : Int :=
  if idOk n.id = true then (if n.low o = true then 7 else if nErr n.kd.data.toList = 0 then rErr n.rc else nErr n.kd.data.toList) else 1
def chkN : Option Nd → List Nd → Int
  | _, [] => 0
  | o, n :: r => if ndE o n = 0 then chkN (some n) r else ndE o n
def or3 (a b c : Int) : Int := if a = 0 then (if b = 0 then c else b) else a
def tCmp (a b : Te) : Int := or3 (Lib.compareBytes a.bd.data.toList b.bd.data.toList) (Lib.compareInt a.fr b.fr) (Lib.compareInt a.tt b.tt)
def Te.low (t : Te) (o : Option Te) : Bool := match o with | none => false | some q => decide (tCmp t q ≤ 0)
def teE (o : Option Te) (t : Te) : Int :=
  if nErr t.bd.data.toList = 0 then (if (idOk t.fr && idOk t.tt) = true then (if t.low o = true then 7 else 0) else 1) else nErr t.bd.data.toList
def chkT : Option Te → List Te → Int
  | _, [] => 0
  | o, t :: r => if teE o t = 0 then chkT (some t) r else teE o t
def gErr (N : List Nd) (T : List Te) : Int :=
  if 60 < N.length ∨ 120 < T.length then 4 else if chkN none N = 0 then chkT none T else chkN none N

def prvN (L : List Nd) (k : Nat) : Option Nd := if k = 0 then none else L[k - 1]?
def prvT (L : List Te) (k : Nat) : Option Te := if k = 0 then none else L[k - 1]?

def IsR (w : World) (v : Value) (L : List Pr) : Prop :=
  ∃ ao c, v = .slice ao L.length c ∧ (L = [] ∨ ∃ b off, ao = some ⟨b, off, none⟩ ∧ b < w.heap.size ∧ Lies w b off L)
theorem IsR.on {w w' : World} {v : Value} {L : List Pr} (h : IsR w v L) (hB : Below w.heap.size w w') : IsR w' v L := by
  obtain ⟨ao, c, rfl, h0 | ⟨b, off, rfl, hb, hL⟩⟩ := h
  · exact ⟨ao, c, rfl, .inl h0⟩
  · refine ⟨_, c, rfl, .inr ⟨b, off, rfl, Nat.lt_of_lt_of_le hb hB.size, fun k p hp => ?_⟩⟩
    obtain ⟨c0, c1, c2, c3⟩ := hL k p hp
    exact ⟨(hB.cell hb).trans c0, (hB.cell hb).trans c1, (hB.cell hb).trans c2, (hB.cell hb).trans c3⟩

theorem rcheck_r {v : Value} {L : List Pr} {w : World} (h : IsR w v L) (hs : Sz L) (hm : L.length ≤ maxLen) : Calls Tryd.prog 15 #[v] w fun e w' => e = .returned (errV (rErr L)) ∧ Below w.heap.size w w' := by
  obtain ⟨ao, c, rfl, rfl | ⟨b, off, rfl, hb, hl⟩⟩ := h
  · exact rcheck_nil _ _ w
  · by_cases h8 : 8 < L.length
    · have e : rErr L = 4 := by unfold rErr; rw [if_pos h8]
      rw [e]; exact rcheck_many _ _ _ _ h8 hm
    · have e : rErr L = chk none L := by unfold rErr; rw [if_neg h8]
      rw [e]; exact rcheck_some b off c L w hb hl hs (by omega)

def LiesN (w : World) (b off : Nat) (N : List Nd) : Prop :=
  ∀ k n, N[k]? = some n → w.cell? ⟨b, off + k * 3, none⟩ = some (.int .i64 n.id) ∧ w.cell? ⟨b, off + k * 3 + 1, none⟩ = some (.string n.kd) ∧ w.cell? ⟨b, off + k * 3 + 2, none⟩ = some n.rv ∧ IsR w n.rv n.rc
def LiesT (w : World) (b off : Nat) (T : List Te) : Prop :=
  ∀ k t, T[k]? = some t → w.cell? ⟨b, off + k * 3, none⟩ = some (.string t.bd) ∧ w.cell? ⟨b, off + k * 3 + 1, none⟩ = some (.int .i64 t.fr) ∧ w.cell? ⟨b, off + k * 3 + 2, none⟩ = some (.int .i64 t.tt)
def IsN (w : World) (v : Value) (N : List Nd) : Prop :=
  ∃ ao c, v = .slice ao N.length c ∧ N.length ≤ c ∧ (N = [] ∨ ∃ b off, ao = some ⟨b, off, none⟩ ∧ b < w.heap.size ∧ LiesN w b off N)
def IsT (w : World) (v : Value) (T : List Te) : Prop :=
  ∃ ao c, v = .slice ao T.length c ∧ T.length ≤ c ∧ (T = [] ∨ ∃ b off, ao = some ⟨b, off, none⟩ ∧ b < w.heap.size ∧ LiesT w b off T)
theorem LiesN.on {w w' : World} {b off : Nat} {N : List Nd} (h : LiesN w b off N) (hb : b < w.heap.size) (hB : Below w.heap.size w w') : LiesN w' b off N := fun k n hn => by
  obtain ⟨c0, c1, c2, c3⟩ := h k n hn
  exact ⟨(hB.cell hb).trans c0, (hB.cell hb).trans c1, (hB.cell hb).trans c2, c3.on hB⟩
theorem LiesT.on {w w' : World} {b off : Nat} {T : List Te} (h : LiesT w b off T) (hb : b < w.heap.size) (hB : Below w.heap.size w w') : LiesT w' b off T := fun k n hn => by
  obtain ⟨c0, c1, c2⟩ := h k n hn
  exact ⟨(hB.cell hb).trans c0, (hB.cell hb).trans c1, (hB.cell hb).trans c2⟩
theorem IsN.on {w w' : World} {v : Value} {N : List Nd} (h : IsN w v N) (hB : Below w.heap.size w w') : IsN w' v N := by
  obtain ⟨ao, c, rfl, hc, h0 | ⟨b, off, rfl, hb, hL⟩⟩ := h
  · exact ⟨ao, c, rfl, hc, .inl h0⟩
  · exact ⟨_, c, rfl, hc, .inr ⟨b, off, rfl, Nat.lt_of_lt_of_le hb hB.size, hL.on hb hB⟩⟩
theorem IsT.on {w w' : World} {v : Value} {T : List Te} (h : IsT w v T) (hB : Below w.heap.size w w') : IsT w' v T := by
  obtain ⟨ao, c, rfl, hc, h0 | ⟨b, off, rfl, hb, hL⟩⟩ := h
  · exact ⟨ao, c, rfl, hc, .inl h0⟩
  · exact ⟨_, c, rfl, hc, .inr ⟨b, off, rfl, Nat.lt_of_lt_of_le hb hB.size, hL.on hb hB⟩⟩
def SzN (N : List Nd) : Prop := ∀ n ∈ N, n.kd.size ≤ maxLen ∧ Sz n.rc ∧ n.rc.length ≤ maxLen
def SzT (T : List Te) : Prop := ∀ t ∈ T, t.bd.size ≤ maxLen

theorem dropN {α : Type} {L : List α} {k : Nat} {p : α} (h : L[k]? = some p) : L.drop k = p :: L.drop (k + 1) := by
  obtain ⟨hk, rfl⟩ := List.getElem?_eq_some_iff.1 h
  exact List.drop_eq_getElem_cons hk
theorem prvN_s {L : List Nd} {k : Nat} {q : Nd} (h : L[k]? = some q) : prvN L (k + 1) = some q := by unfold prvN; rw [if_neg (by omega)]; simpa using h
theorem prvT_s {L : List Te} {k : Nat} {q : Te} (h : L[k]? = some q) : prvT L (k + 1) = some q := by unfold prvT; rw [if_neg (by omega)]; simpa using h
theorem chkN_end (o : Option Nd) : chkN o [] = 0 := by cases o <;> rfl
theorem chkT_end (o : Option Te) : chkT o [] = 0 := by cases o <;> rfl
theorem chkN_ok {o : Option Nd} {n : Nd} {r : List Nd} (h : ndE o n = 0) : chkN o (n :: r) = chkN (some n) r := by simp [chkN, h]
theorem chkN_bad {o : Option Nd} {n : Nd} {r : List Nd} (h : ¬ ndE o n = 0) : chkN o (n :: r) = ndE o n := by simp [chkN, h]
theorem chkT_ok {o : Option Te} {n : Te} {r : List Te} (h : teE o n = 0) : chkT o (n :: r) = chkT (some n) r := by simp [chkT, h]
theorem chkT_bad {o : Option Te} {n : Te} {r : List Te} (h : ¬ teE o n = 0) : chkT o (n :: r) = teE o n := by simp [chkT, h]
end Go.Proofs.YteabdlandbmdaaaDoor
