/-
  The small walks of package value: its three tests of one byte, and whether one of them holds of a byte of a text.
-/
import Derived.Test.YtifhigajonafdaaGreatProg
import Derived.WalkKit
import Derived.BigCall
import Derived.Lib.Strings
import Derived.Deep.QuietTactic
import Derived.BigQuiet
import Derived.Laws.Cover1
import Derived.Deep.RegionLaw
namespace Go.Proofs.YtifhigajonafdaaGreat
open Go.RowKit
set_option linter.unusedVariables false
set_option linter.unusedSimpArgs false

def badB (c : UInt8) : Bool := decide ((c.toNat : Int) < 32) || decide (126 < (c.toNat : Int))
def noLet (c : UInt8) : Bool := decide ((c.toNat : Int) < 97) || decide (122 < (c.toNat : Int))

def hasP (p : UInt8 → Bool) (l : List UInt8) : Bool := l.any p

theorem ret_bool {a b : Bool} (h : a = b) : Ending.returned (.bool a) = .returned (.bool b) := by rw [h]

theorem take_snoc (s : ByteArray) (k : Nat) (h : k < s.size) : s.data.toList.take (k + 1) = s.data.toList.take k ++ [s[k]] := by
  rw [List.take_succ_eq_append_getElem (by simpa using h)]; rfl
theorem any_snoc (p : UInt8 → Bool) (s : ByteArray) (k : Nat) (h : k < s.size) (h1 : (s.data.toList.take k).any p = false) (h2 : p s[k] = false) : (s.data.toList.take (k + 1)).any p = false := by
  rw [take_snoc s k h, List.any_append, h1]; simp [h2]
theorem any_hit (p : UInt8 → Bool) (s : ByteArray) (k : Nat) (h : k < s.size) (h2 : p s[k] = true) : true = hasP p s.data.toList := by
  symm; unfold hasP; rw [List.any_eq_true]; exact ⟨s[k], by simp [ByteArray.getElem_eq_getElem_data], h2⟩
theorem any_end (p : UInt8 → Bool) (s : ByteArray) (k : Nat) (h : ¬ k < s.size) (h1 : (s.data.toList.take k).any p = false) : false = hasP p s.data.toList := by
  unfold hasP; rw [List.take_of_length_le (by simp; omega)] at h1; exact h1.symm

theorem bad_any (c : UInt8) (w : World) : Calls Tryz.prog 166 #[.int .u8 c.toNat] w fun e w' => e = .returned (.bool (badB c)) ∧ w' = w := by
  go_enter Tryz.func166, Tryz.ntmps166
  go_wp2
  all_goals
    go_ret
    exact ⟨ret_bool (by unfold badB; simp [*]), rfl⟩
set_option maxHeartbeats 1000000 in
theorem anyBad (s : ByteArray) (w : World) (hs : s.size ≤ maxLen) :
    Calls Tryz.prog 123 #[.string s, .func (.func 166) #[] #[]] w fun e w' => e = .returned (.bool (hasP badB s.data.toList)) ∧ w' = w := by
  unfold maxLen at hs
  go_enter Tryz.func123, Tryz.ntmps123
  go_wp2
  go_loop [8] (fun i => ∃ k : Nat, k ≤ s.size ∧ i = .int .i64 k ∧ (s.data.toList.take k).any badB = false) (fun i => s.size - (intOf i).toNat)
  case atStart => exact ⟨0, Nat.zero_le _, rfl, rfl⟩
  case round =>
    obtain ⟨k, hk, rfl, hno⟩ := hrel
    have HN : Hid ((s.data.toList.take k).any badB = false) := hno
    clear hno
    by_cases hlt : k < s.size
    · by_cases hb : badB s[k] = true
      · go_wp2_with (go_at_call 166; refine (bad_any _ _).mono ?_; rintro e w' ⟨rfl, rfl⟩)
        go_ret
        exact ⟨ret_bool (any_hit _ s k hlt hb), rfl⟩
      · have hb' : badB s[k] = false := by simpa using hb
        clear hb
        go_wp2_with (go_at_call 166; refine (bad_any _ _).mono ?_; rintro e w' ⟨rfl, rfl⟩)
        go_round
        case rel => exact ⟨k + 1, by omega, by go_num, any_snoc _ s k hlt HN.out hb'⟩
        case measure => simp [intOf]; omega
    · go_wp2
      go_ret
      exact ⟨ret_bool (any_end _ s k hlt HN.out), rfl⟩

theorem let_any (c : UInt8) (w : World) : Calls Tryz.prog 122 #[.int .u8 c.toNat] w fun e w' => e = .returned (.bool (noLet c)) ∧ w' = w := by
  go_enter Tryz.func122, Tryz.ntmps122
  go_wp2
  all_goals
    go_ret
    exact ⟨ret_bool (by unfold noLet; simp [*]), rfl⟩
set_option maxHeartbeats 1000000 in
theorem anyLet (s : ByteArray) (w : World) (hs : s.size ≤ maxLen) :
    Calls Tryz.prog 123 #[.string s, .func (.func 122) #[] #[]] w fun e w' => e = .returned (.bool (hasP noLet s.data.toList)) ∧ w' = w := by
  unfold maxLen at hs
  go_enter Tryz.func123, Tryz.ntmps123
  go_wp2
  go_loop [8] (fun i => ∃ k : Nat, k ≤ s.size ∧ i = .int .i64 k ∧ (s.data.toList.take k).any noLet = false) (fun i => s.size - (intOf i).toNat)
  case atStart => exact ⟨0, Nat.zero_le _, rfl, rfl⟩
  case round =>
    obtain ⟨k, hk, rfl, hno⟩ := hrel
    have HN : Hid ((s.data.toList.take k).any noLet = false) := hno
    clear hno
    by_cases hlt : k < s.size
    · by_cases hb : noLet s[k] = true
      · go_wp2_with (go_at_call 122; refine (let_any _ _).mono ?_; rintro e w' ⟨rfl, rfl⟩)
        go_ret
        exact ⟨ret_bool (any_hit _ s k hlt hb), rfl⟩
      · have hb' : noLet s[k] = false := by simpa using hb
        clear hb
        go_wp2_with (go_at_call 122; refine (let_any _ _).mono ?_; rintro e w' ⟨rfl, rfl⟩)
        go_round
        case rel => exact ⟨k + 1, by omega, by go_num, any_snoc _ s k hlt HN.out hb'⟩
        case measure => simp [intOf]; omega
    · go_wp2
      go_ret
      exact ⟨ret_bool (any_end _ s k hlt HN.out), rfl⟩

theorem isPrintable_any (s : ByteArray) (w : World) (hs : s.size ≤ maxLen) :
    Calls Tryz.prog 162 #[.string s] w fun e w' => e = .returned (.bool (!hasP badB s.data.toList)) ∧ w' = w := by
  go_enter Tryz.func162, Tryz.ntmps162
  go_wp2_with (go_at_call 123; refine (anyBad s _ hs).mono ?_; rintro e w' ⟨rfl, rfl⟩)
  go_ret
  exact ⟨rfl, rfl⟩
end Go.Proofs.YtifhigajonafdaaGreat

/-
  What package value says, in plain functions of lists of bytes and integers: the fault of a value, a text in quotes, and back.
-/
namespace Go.Proofs.YtifhigajonafdaaGreat
open Go.RowKit
set_option linter.unusedVariables false
set_option linter.unusedSimpArgs false

def inR (t n : Int) : Bool := if t = 1 then decide (-1000000 ≤ n) && decide (n ≤ 1000000) else if t = 2 then decide (n = 0) || decide (n = 1) else decide (n = 0)
def tErr (l : List UInt8) : Int := if 20 < l.length then 4 else if hasP badB l = true then 2 else 0
def vErr (t n : Int) (l : List UInt8) : Int := if t = 1 ∨ t = 2 ∨ t = 3 then (if inR t n = true then (if t = 3 then tErr l else if l = [] then 0 else 2) else 1) else 8
def errV (e : Int) : Value := if e = 0 then .nilIface else .iface 74 (.int .i64 e)
def val (t n : Int) (s : ByteArray) : Value := .agg #[.int .i64 t, .int .i64 n, .string s]

theorem errV_0 : errV 0 = .nilIface := rfl
theorem errV_1 : errV 1 = .iface 74 (.int .i64 1) := rfl
theorem errV_2 : errV 2 = .iface 74 (.int .i64 2) := rfl
theorem errV_4 : errV 4 = .iface 74 (.int .i64 4) := rfl
theorem errV_8 : errV 8 = .iface 74 (.int .i64 8) := rfl
theorem ret_v {a b : Value} (h : a = b) : Ending.returned a = .returned b := by rw [h]

theorem size_len (s : ByteArray) : s.size = s.data.toList.length := by rw [Array.length_toList]; rfl
theorem nil_of_empty (s : ByteArray) (h : s.data.toList = []) : s = ⟨#[]⟩ := by
  cases s with | mk d => congr 1; simpa using h

theorem inRange_any (t n : Int) (w : World) : Calls Tryz.prog 155 #[.int .i64 t, .int .i64 n] w fun e w' => e = .returned (.bool (inR t n)) ∧ w' = w := by
  by_cases h1 : t = 1
  · subst h1
    go_enter Tryz.func155, Tryz.ntmps155
    go_wp2
    all_goals
      go_ret
      exact ⟨ret_bool (by unfold inR; rw [Bool.eq_iff_iff]; simp <;> (try simp_all) <;> omega), rfl⟩
  by_cases h2 : t = 2
  · subst h2
    go_enter Tryz.func155, Tryz.ntmps155
    go_wp2
    all_goals
      go_ret
      exact ⟨ret_bool (by unfold inR; rw [Bool.eq_iff_iff]; simp <;> (try simp_all) <;> omega), rfl⟩
  go_enter Tryz.func155, Tryz.ntmps155
  go_wp2
  all_goals
    go_ret
    exact ⟨ret_bool (by unfold inR; rw [Bool.eq_iff_iff]; simp <;> (try simp_all) <;> omega), rfl⟩

theorem checkText_any (s : ByteArray) (w : World) (hs : s.size ≤ maxLen) : Calls Tryz.prog 156 #[.string s] w fun e w' => e = .returned (errV (tErr s.data.toList)) ∧ w' = w := by
  have hl := size_len s
  by_cases h1 : 20 < s.size
  · have e1 : tErr s.data.toList = 4 := by unfold tErr; rw [if_pos (by omega)]
    have H1 : Hid (tErr s.data.toList = 4) := e1
    clear e1 hl
    unfold maxLen at hs
    go_enter Tryz.func156, Tryz.ntmps156
    go_wp2
    go_ret
    exact ⟨ret_v (by rw [H1.out, errV_4]; rfl), rfl⟩
  · by_cases h2 : hasP badB s.data.toList = true
    · have e1 : tErr s.data.toList = 2 := by unfold tErr; rw [if_neg (by omega), if_pos h2]
      have H1 : Hid (tErr s.data.toList = 2) := e1
      clear e1 hl
      go_enter Tryz.func156, Tryz.ntmps156
      go_wp2_with (go_at_call 162; refine (isPrintable_any s _ hs).mono ?_; rintro e w' ⟨rfl, rfl⟩)
      go_ret
      exact ⟨ret_v (by rw [H1.out, errV_2]; rfl), rfl⟩
    · have h2' : hasP badB s.data.toList = false := by simpa using h2
      have e1 : tErr s.data.toList = 0 := by unfold tErr; rw [if_neg (by omega), if_neg h2]
      have H1 : Hid (tErr s.data.toList = 0) := e1
      clear e1 hl h2
      go_enter Tryz.func156, Tryz.ntmps156
      go_wp2_with (go_at_call 162; refine (isPrintable_any s _ hs).mono ?_; rintro e w' ⟨rfl, rfl⟩)
      go_ret
      exact ⟨ret_v (by rw [H1.out, errV_0]; rfl), rfl⟩
end Go.Proofs.YtifhigajonafdaaGreat

/-
  The walks of package value: Check, checked, a text in quotes and back.
-/
namespace Go.Proofs.YtifhigajonafdaaGreat
open Go.RowKit
set_option linter.unusedVariables false
set_option linter.unusedSimpArgs false

theorem nonE (s : ByteArray) (h : ¬ s.data.toList = []) : s.toList.isEmpty = false := by
  rw [← decide_eq_emptyBytes, decide_eq_false_iff_not]
  intro e; apply h; rw [e]; rfl
set_option maxHeartbeats 1000000 in
theorem check_any (t n : Int) (s : ByteArray) (w : World) (hs : s.size ≤ maxLen) :
    Calls Tryz.prog 124 #[val t n s] w fun e w' => e = .returned (errV (vErr t n s.data.toList)) ∧ w' = w.alloc (.cells #[.int .i64 t, .int .i64 n, .string s] 50) := by
  unfold val
  by_cases ht : t = 1 ∨ t = 2 ∨ t = 3
  · by_cases hr : inR t n = true
    · by_cases h3 : t = 3
      · subst h3
        have e1 : vErr 3 n s.data.toList = tErr s.data.toList := by unfold vErr; rw [if_pos ht, if_pos hr, if_pos rfl]
        have H1 : Hid (vErr 3 n s.data.toList = tErr s.data.toList) := e1
        clear e1 ht
        go_enter Tryz.func124, Tryz.ntmps124
        go_wp2_with (first | (go_at_call 155; refine (inRange_any _ _ _).mono ?_; rintro e w' ⟨rfl, rfl⟩) | (go_at_call 156; refine (checkText_any s _ hs).mono ?_; rintro e w' ⟨rfl, rfl⟩))
        go_ret
        exact ⟨ret_v (by rw [H1.out]; rfl), rfl⟩
      · by_cases hl : s.data.toList = []
        · have e1 : vErr t n s.data.toList = 0 := by unfold vErr; rw [if_pos ht, if_pos hr, if_neg h3, if_pos hl]
          have H1 : Hid (vErr t n s.data.toList = 0) := e1
          obtain rfl := nil_of_empty s hl
          clear e1 hl
          have ht' : t = 1 ∨ t = 2 := by omega
          clear ht
          rcases ht' with rfl | rfl
          all_goals
            go_enter Tryz.func124, Tryz.ntmps124
            go_wp2_with (first | (go_at_call 155; refine (inRange_any _ _ _).mono ?_; rintro e w' ⟨rfl, rfl⟩))
            go_ret
            exact ⟨ret_v (by rw [H1.out, errV_0]; rfl), rfl⟩
        · have e1 : vErr t n s.data.toList = 2 := by unfold vErr; rw [if_pos ht, if_pos hr, if_neg h3, if_neg hl]
          have H1 : Hid (vErr t n s.data.toList = 2) := e1
          have hE : s.toList.isEmpty = false := nonE s hl
          clear e1 hl
          have ht' : t = 1 ∨ t = 2 := by omega
          clear ht
          rcases ht' with rfl | rfl
          all_goals
            go_enter Tryz.func124, Tryz.ntmps124
            go_wp2_with (first | (go_at_call 155; refine (inRange_any _ _ _).mono ?_; rintro e w' ⟨rfl, rfl⟩))
            go_ret
            exact ⟨ret_v (by rw [H1.out, errV_2]; rfl), rfl⟩
    · have hr' : inR t n = false := by simpa using hr
      have e1 : vErr t n s.data.toList = 1 := by unfold vErr; rw [if_pos ht, if_neg hr]
      have H1 : Hid (vErr t n s.data.toList = 1) := e1
      clear e1 hr
      rcases ht with rfl | rfl | rfl
      all_goals
        go_enter Tryz.func124, Tryz.ntmps124
        go_wp2_with (first | (go_at_call 155; refine (inRange_any _ _ _).mono ?_; rintro e w' ⟨rfl, rfl⟩))
        go_ret
        exact ⟨ret_v (by rw [H1.out, errV_1]; rfl), rfl⟩
  · have e1 : vErr t n s.data.toList = 8 := by unfold vErr; rw [if_neg ht]
    have H1 : Hid (vErr t n s.data.toList = 8) := e1
    have h1 : ¬ t = 1 := by omega
    have h2 : ¬ t = 2 := by omega
    have h3 : ¬ t = 3 := by omega
    have b1 : (t != 1) = true := by simpa using h1
    have b2 : (t != 2) = true := by simpa using h2
    have b3 : (t != 3) = true := by simpa using h3
    clear e1 ht h1 h2 h3
    go_enter Tryz.func124, Tryz.ntmps124
    go_wp2
    go_ret
    exact ⟨ret_v (by rw [H1.out, errV_8]; rfl), rfl⟩

end Go.Proofs.YtifhigajonafdaaGreat

/-
  The walks of package value: Name.
-/
namespace Go.Proofs.YtifhigajonafdaaGreat
open Go.RowKit
set_option linter.unusedVariables false
set_option linter.unusedSimpArgs false

theorem errV_ne {e : Int} (h : ¬ e = 0) : errV e = .iface 74 (.int .i64 e) := by unfold errV; rw [if_neg h]
theorem list_eq {s : ByteArray} {l : List UInt8} (h : s.data.toList = l) : s = ⟨l.toArray⟩ := by
  cases s with | mk d => congr 1; rw [← h]

def nErr (l : List UInt8) : Int := if l = [] then 2 else if 8 < l.length then 2 else if hasP noLet l = true then 2 else 0

set_option maxHeartbeats 2000000 in
set_option maxRecDepth 100000 in
theorem name_any (s : ByteArray) (w : World) (hs : s.size ≤ maxLen) :
    Calls Tryz.prog 89 #[.string s] w fun e w' => e = .returned (errV (nErr s.data.toList)) ∧ w' = w := by
  by_cases hE : s.data.toList = []
  · obtain rfl := list_eq hE
    go_enter Tryz.func89, Tryz.ntmps89
    go_wp2
    go_ret
    exact ⟨rfl, rfl⟩
  · have bE : s.toList.isEmpty = false := nonE s hE
    have bN : ¬ s.toList = [] := by rw [Lib.toList_data]; exact hE
    have hsz := size_len s
    by_cases h8 : 8 < s.size
    · have H1 : Hid (nErr s.data.toList = 2) := by
        show _ = _
        unfold nErr; rw [if_neg hE, if_pos (by omega)]
      clear hE hsz
      unfold maxLen at hs
      go_enter Tryz.func89, Tryz.ntmps89
      go_wp2
      go_ret
      exact ⟨ret_v (by rw [H1.out]; rfl), rfl⟩
    · by_cases hb : hasP noLet s.data.toList = true
      · have H1 : Hid (nErr s.data.toList = 2) := by
          show _ = _
          unfold nErr; rw [if_neg hE, if_neg (by omega), if_pos hb]
        clear hE hsz
        go_enter Tryz.func89, Tryz.ntmps89
        go_wp2_with (go_at_call 123; refine (anyLet s _ hs).mono ?_; rintro e w' ⟨rfl, rfl⟩)
        go_ret
        exact ⟨ret_v (by rw [H1.out]; rfl), rfl⟩
      · have hb' : hasP noLet s.data.toList = false := by simpa using hb
        have H1 : Hid (nErr s.data.toList = 0) := by
          show _ = _
          unfold nErr; rw [if_neg hE, if_neg (by omega), if_neg hb]
        clear hE hsz hb
        go_enter Tryz.func89, Tryz.ntmps89
        go_wp2_with (go_at_call 123; refine (anyLet s _ hs).mono ?_; rintro e w' ⟨rfl, rfl⟩)
        go_ret
        exact ⟨ret_v (by rw [H1.out]; rfl), rfl⟩

end Go.Proofs.YtifhigajonafdaaGreat

/-
  What package record says, in plain functions: the fault of a record, two records joined; and how a record lies in memory.
-/
namespace Go.Proofs.YtifhigajonafdaaGreat
open Go.RowKit
set_option linter.unusedVariables false
set_option linter.unusedSimpArgs false

structure Pr where
  nm : ByteArray
  t : Int
  n : Int
  s : ByteArray

def Pr.cells (p : Pr) : List Value := [.string p.nm, .int .i64 p.t, .int .i64 p.n, .string p.s]
abbrev Pr.one (p : Pr) : Value := .agg #[.string p.nm, .int .i64 p.t, .int .i64 p.n, .string p.s]
def Pr.l (p : Pr) : List UInt8 := p.nm.data.toList
def Pr.bad (p : Pr) : Int := vErr p.t p.n p.s.data.toList
def Pr.lt (p q : Pr) : Bool := Op.bytesLess p.nm.toList q.nm.toList
def Pr.low (p q : Pr) : Bool := Op.bytesLess p.nm.toList q.nm.toList || p.nm.toList == q.nm.toList

def chk : Option Pr → List Pr → Int
  | _, [] => 0
  | none, p :: r => if nErr p.l = 0 then (if p.bad = 0 then chk (some p) r else p.bad) else nErr p.l
  | some q, p :: r => if nErr p.l = 0 then (if p.bad = 0 then (if p.low q = true then 7 else chk (some p) r) else p.bad) else nErr p.l
def rErr (L : List Pr) : Int := if 8 < L.length then 4 else chk none L

def prv (L : List Pr) (k : Nat) : Option Pr := if k = 0 then none else L[k - 1]?

def Sz (L : List Pr) : Prop := ∀ p ∈ L, p.nm.size ≤ maxLen ∧ p.s.size ≤ maxLen

def Lies (w : World) (b off : Nat) (L : List Pr) : Prop :=
  ∀ k p, L[k]? = some p → w.cell? ⟨b, off + k * 4, none⟩ = some (.string p.nm) ∧ w.cell? ⟨b, off + k * 4 + 1, none⟩ = some (.int .i64 p.t) ∧ w.cell? ⟨b, off + k * 4 + 2, none⟩ = some (.int .i64 p.n) ∧ w.cell? ⟨b, off + k * 4 + 3, none⟩ = some (.string p.s)

theorem chk_end (o : Option Pr) : chk o [] = 0 := by cases o <;> rfl
theorem drop_at {L : List Pr} {k : Nat} {p : Pr} (h : L[k]? = some p) : L.drop k = p :: L.drop (k + 1) := by
  obtain ⟨hk, rfl⟩ := List.getElem?_eq_some_iff.1 h
  exact List.drop_eq_getElem_cons hk
theorem chk_name {o : Option Pr} {p : Pr} {r : List Pr} (h : ¬ nErr p.l = 0) : chk o (p :: r) = nErr p.l := by cases o <;> simp [chk, h]
theorem chk_bad {o : Option Pr} {p : Pr} {r : List Pr} (h : nErr p.l = 0) (h2 : ¬ p.bad = 0) : chk o (p :: r) = p.bad := by cases o <;> simp [chk, h, h2]
theorem chk_first {p : Pr} {r : List Pr} (h : nErr p.l = 0) (h2 : p.bad = 0) : chk none (p :: r) = chk (some p) r := by simp [chk, h, h2]
theorem chk_low {q p : Pr} {r : List Pr} (h : nErr p.l = 0) (h2 : p.bad = 0) (h3 : p.low q = true) : chk (some q) (p :: r) = 7 := by simp [chk, h, h2, h3]
theorem chk_up {q p : Pr} {r : List Pr} (h : nErr p.l = 0) (h2 : p.bad = 0) (h3 : p.low q = false) : chk (some q) (p :: r) = chk (some p) r := by simp [chk, h, h2, h3]
theorem low_parts {p q : Pr} (h : p.low q = true) : Op.bytesLess p.nm.toList q.nm.toList = true ∨ (Op.bytesLess p.nm.toList q.nm.toList = false ∧ (p.nm.toList == q.nm.toList) = true) := by
  unfold Pr.low at h
  cases h1 : Op.bytesLess p.nm.toList q.nm.toList
  · right; rw [h1, Bool.false_or] at h; exact ⟨rfl, h⟩
  · left; rfl
theorem up_parts {p q : Pr} (h : ¬ p.low q = true) : Op.bytesLess p.nm.toList q.nm.toList = false ∧ (p.nm.toList == q.nm.toList) = false := by
  unfold Pr.low at h
  cases h1 : Op.bytesLess p.nm.toList q.nm.toList
  · refine ⟨rfl, ?_⟩
    cases h2 : (p.nm.toList == q.nm.toList)
    · rfl
    · rw [h1, h2] at h; exact absurd rfl h
  · rw [h1] at h; exact absurd rfl h
end Go.Proofs.YtifhigajonafdaaGreat

/-
  The walk of record.Check.
-/
namespace Go.Proofs.YtifhigajonafdaaGreat
open Go.RowKit
set_option linter.unusedVariables false
set_option linter.unusedSimpArgs false

theorem errV_7 : errV 7 = .iface 74 (.int .i64 7) := rfl
theorem prv_0 (L : List Pr) : prv L 0 = none := rfl
theorem prv_s {L : List Pr} {k : Nat} {q : Pr} (h : L[k]? = some q) : prv L (k + 1) = some q := by unfold prv; rw [if_neg (by omega)]; simpa using h
theorem b_alloc {w wr : World} (h : Below w.heap.size w wr) (o : Obj) : Below w.heap.size w (wr.alloc o) := h.alloc h.size _
theorem b_drewN {B : Nat} {a w : World} (h : Below B a w) : ∀ n, Below B a (w.drewN n) := fun n => ⟨h.os, h.tape, h.output, h.size, h.block⟩

set_option maxHeartbeats 4000000 in
set_option maxRecDepth 100000 in
theorem rcheck_some (b off cap : Nat) (L : List Pr) (w : World) (hb : b < w.heap.size) (hL : Lies w b off L) (hs : Sz L) (hn : L.length ≤ 8) :
    Calls Tryz.prog 90 #[.slice (some ⟨b, off, none⟩) L.length cap] w fun e w' => e = .returned (errV (chk none L)) ∧ Below w.heap.size w w' := by
  go_enter Tryz.func90, Tryz.ntmps90
  go_wp2
  go_loopw [13] (fun i wr => ∃ k : Nat, k ≤ L.length ∧ i = .int .i64 k ∧ chk none L = chk (prv L k) (L.drop k) ∧ Below w.heap.size w wr) (fun i _ => L.length - (intOf i).toNat)
  case atStart => exact ⟨0, Nat.zero_le _, rfl, rfl, Below.refl _ _⟩
  case round =>
    obtain ⟨k, hk, rfl, hc, hB⟩ := hrel
    have HC : Hid (chk none L = chk (prv L k) (L.drop k)) := hc
    clear hc
    by_cases hlt : k < L.length
    · obtain ⟨p, hp⟩ : ∃ p, L[k]? = some p := ⟨L[k], by simp [hlt]⟩
      obtain ⟨c0, c1, c2, c3⟩ := hL k p hp
      have d0 := (hB.cell (p := ⟨b, off + k * 4, none⟩) hb).trans c0
      have d1 := (hB.cell (p := ⟨b, off + k * 4 + 1, none⟩) hb).trans c1
      have d2 := (hB.cell (p := ⟨b, off + k * 4 + 2, none⟩) hb).trans c2
      have d3 := (hB.cell (p := ⟨b, off + k * 4 + 3, none⟩) hb).trans c3
      have HP : Hid (L[k]? = some p) := hp
      have HD : Hid (L.drop k = p :: L.drop (k + 1)) := drop_at hp
      obtain ⟨z1, z2⟩ := hs p (List.mem_of_getElem? hp)
      have hbr : b < wr.heap.size := Nat.lt_of_lt_of_le hb hB.size
      have hbn : ¬ b = wr.heap.size := by omega
      have nm := fun w => name_any p.nm w z1
      have cm := fun w => check_any p.t p.n p.s w z2
      have HZ : Hid (L.length ≤ 8 ∧ Sz L ∧ Lies w b off L) := ⟨hn, hs, hL⟩
      clear c0 c1 c2 c3 hp hs hL
      by_cases h1 : nErr p.l = 0
      · by_cases h2 : p.bad = 0
        · have nm' : ∀ w, Calls Tryz.prog 89 #[.string p.nm] w fun e w' => e = .returned .nilIface ∧ w' = w := fun w => by
            have := nm w; rw [show nErr p.nm.data.toList = 0 from h1] at this; exact this
          have cm' : ∀ w, Calls Tryz.prog 124 #[val p.t p.n p.s] w fun e w' => e = .returned .nilIface ∧ w' = w.alloc (.cells #[.int .i64 p.t, .int .i64 p.n, .string p.s] 50) := fun w => by
            have := cm w; rw [show vErr p.t p.n p.s.data.toList = 0 from h2] at this; exact this
          clear nm cm
          have H12 : Hid (nErr p.l = 0 ∧ p.bad = 0) := ⟨h1, h2⟩
          clear h1 h2
          by_cases hk0 : k = 0
          · subst hk0
            have hstep : Hid (chk none L = chk (prv L (0 + 1)) (L.drop (0 + 1))) := by
              show _ = _
              have := HC.out; rw [HD.out, prv_0, chk_first H12.out.1 H12.out.2] at this
              rw [this, prv_s HP.out]
            clear HC HD H12
            simp only [Nat.zero_mul, Nat.add_zero] at d0 d1 d2 d3
            go_wp2_with (first | (go_at_call 89; refine (nm' _).mono ?_; rintro e w' ⟨rfl, rfl⟩) | (go_at_call 124; refine (cm' _).mono ?_; rintro e w' ⟨rfl, rfl⟩))
            go_quiet (fail)
            go_wp2
            go_roundw
            case rel => exact ⟨0 + 1, by omega, by go_num, hstep.out, b_drewN (b_alloc (b_alloc hB _) _) _⟩
            case measure => simp [intOf]; omega
          · obtain ⟨q, hq⟩ : ∃ q, L[k - 1]? = some q := ⟨L[k - 1], by simp⟩
            have hprv : prv L k = some q := by unfold prv; rw [if_neg hk0]; exact hq
            obtain ⟨c0, _⟩ := HZ.out.2.2 (k - 1) q hq
            have e0 := (hB.cell (p := ⟨b, off + (k - 1) * 4, none⟩) hb).trans c0
            have hw1 : IntKind.i64.wrap ((k - 1 : Nat) : Int) = ((k - 1 : Nat) : Int) := by rw [IntKind.wrap_i64]; omega
            have hb1 : ((k - 1 : Nat) : Int) < (L.length : Int) := by omega
            have hg : 0 < k := by omega
            have hcast : (k : Int) - 1 = ((k - 1 : Nat) : Int) := by omega
            clear c0 hq
            by_cases h3 : p.low q = true
            · have H : Hid (errV (chk none L) = .iface 74 (.int .i64 7)) := by
                show _ = _
                rw [HC.out, HD.out, hprv, chk_low H12.out.1 H12.out.2 h3, errV_7]
              clear HC HD H12 hprv
              rcases low_parts h3 with h3' | ⟨h3', h4'⟩
              all_goals
                clear h3
                go_wp2_with (first | (go_at_call 89; refine (nm' _).mono ?_; rintro e w' ⟨rfl, rfl⟩) | (go_at_call 124; refine (cm' _).mono ?_; rintro e w' ⟨rfl, rfl⟩))
                go_quiet (fail)
                go_wp2
                go_ret
                exact ⟨ret_v H.out.symm, b_drewN (b_alloc (b_alloc hB _) _) _⟩
            · have hstep : Hid (chk none L = chk (prv L (k + 1)) (L.drop (k + 1))) := by
                show _ = _
                have := HC.out; rw [HD.out, hprv, chk_up H12.out.1 H12.out.2 (by simpa using h3)] at this
                rw [this, prv_s HP.out]
              clear HC HD H12 hprv
              obtain ⟨h3', h4'⟩ := up_parts h3
              clear h3
              go_wp2_with (first | (go_at_call 89; refine (nm' _).mono ?_; rintro e w' ⟨rfl, rfl⟩) | (go_at_call 124; refine (cm' _).mono ?_; rintro e w' ⟨rfl, rfl⟩))
              go_quiet (fail)
              go_wp2
              go_roundw
              case rel => exact ⟨k + 1, by omega, by go_num, hstep.out, b_drewN (b_alloc (b_alloc hB _) _) _⟩
              case measure => simp [intOf]; omega
        · have cm' : ∀ w, Calls Tryz.prog 124 #[val p.t p.n p.s] w fun e w' => e = .returned (.iface 74 (.int .i64 p.bad)) ∧ w' = w.alloc (.cells #[.int .i64 p.t, .int .i64 p.n, .string p.s] 50) := fun w => by
            have := cm w; rw [show vErr p.t p.n p.s.data.toList = p.bad from rfl, errV_ne h2] at this; exact this
          have nm' : ∀ w, Calls Tryz.prog 89 #[.string p.nm] w fun e w' => e = .returned .nilIface ∧ w' = w := fun w => by
            have := nm w; rw [show nErr p.nm.data.toList = 0 from h1] at this; exact this
          have H : Hid (errV (chk none L) = .iface 74 (.int .i64 p.bad)) := by
            show _ = _
            rw [HC.out, HD.out, chk_bad h1 h2, errV_ne h2]
          clear HC HD nm cm h1 h2
          go_wp2_with (first | (go_at_call 89; refine (nm' _).mono ?_; rintro e w' ⟨rfl, rfl⟩) | (go_at_call 124; refine (cm' _).mono ?_; rintro e w' ⟨rfl, rfl⟩))
          go_ret
          exact ⟨ret_v H.out.symm, b_alloc (b_alloc hB _) _⟩
      · have nm' : ∀ w, Calls Tryz.prog 89 #[.string p.nm] w fun e w' => e = .returned (.iface 74 (.int .i64 (nErr p.l))) ∧ w' = w := fun w => by
          have := nm w; rw [show nErr p.nm.data.toList = nErr p.l from rfl, errV_ne h1] at this; exact this
        have H : Hid (errV (chk none L) = .iface 74 (.int .i64 (nErr p.l))) := by
          show _ = _
          rw [HC.out, HD.out, chk_name h1, errV_ne h1]
        clear HC HD nm cm h1
        go_wp2_with (first | (go_at_call 89; refine (nm' _).mono ?_; rintro e w' ⟨rfl, rfl⟩))
        go_ret
        exact ⟨ret_v H.out.symm, b_alloc hB _⟩
    · have hd : L.drop k = [] := List.drop_eq_nil_of_le (by omega)
      have H : Hid (errV (chk none L) = .nilIface) := by
        show _ = _
        rw [HC.out, hd, chk_end]; rfl
      clear HC hd
      go_wp2
      go_ret
      exact ⟨ret_v H.out.symm, hB⟩
end Go.Proofs.YtifhigajonafdaaGreat

/-
  The walk of record.Check at every record.
-/
namespace Go.Proofs.YtifhigajonafdaaGreat
open Go.RowKit
set_option linter.unusedVariables false
set_option linter.unusedSimpArgs false

def IsRec (w : World) (v : Value) (L : List Pr) : Prop :=
  (v = .slice none 0 0 ∧ L = []) ∨ ∃ b off cap, v = .slice (some ⟨b, off, none⟩) L.length cap ∧ L.length ≤ cap ∧ b < w.heap.size ∧ Lies w b off L

theorem Lies.on {w w' : World} {b off : Nat} {L : List Pr} (h : Lies w b off L) (hb : b < w.heap.size) (hB : Below w.heap.size w w') : Lies w' b off L := fun k p hp => by
  obtain ⟨c0, c1, c2, c3⟩ := h k p hp
  exact ⟨(hB.cell hb).trans c0, (hB.cell hb).trans c1, (hB.cell hb).trans c2, (hB.cell hb).trans c3⟩
theorem IsRec.on {w w' : World} {v : Value} {L : List Pr} (h : IsRec w v L) (hB : Below w.heap.size w w') : IsRec w' v L := by
  rcases h with h | ⟨b, off, cap, hv, hc, hb, hl⟩
  · exact .inl h
  · exact .inr ⟨b, off, cap, hv, hc, Nat.lt_of_lt_of_le hb hB.size, hl.on hb hB⟩

set_option maxHeartbeats 1000000 in
theorem rcheck_nil (ao : Option Addr) (c : Nat) (w : World) : Calls Tryz.prog 90 #[.slice ao 0 c] w fun e w' => e = .returned (errV (rErr [])) ∧ Below w.heap.size w w' := by
  go_enter Tryz.func90, Tryz.ntmps90
  go_wp2
  go_loopw [13] (fun i wr => i = .int .i64 0 ∧ wr = w) (fun i _ => 0)
  case atStart => exact ⟨rfl, rfl⟩
  case round =>
    obtain ⟨rfl, rfl⟩ := hrel
    go_wp2
    go_ret
    exact ⟨rfl, Below.refl _ _⟩
set_option maxHeartbeats 1000000 in
theorem rcheck_many (ao : Option Addr) (n cap : Nat) (w : World) (h : 8 < n) (hm : n ≤ maxLen) : Calls Tryz.prog 90 #[.slice ao n cap] w fun e w' => e = .returned (.iface 74 (.int .i64 4)) ∧ Below w.heap.size w w' := by
  unfold maxLen at hm
  go_enter Tryz.func90, Tryz.ntmps90
  go_wp2
  go_ret
  exact ⟨rfl, Below.refl _ _⟩
theorem rcheck_any {v : Value} {L : List Pr} {w : World} (h : IsRec w v L) (hs : Sz L) (hm : L.length ≤ maxLen) : Calls Tryz.prog 90 #[v] w fun e w' => e = .returned (errV (rErr L)) ∧ Below w.heap.size w w' := by
  rcases h with ⟨rfl, rfl⟩ | ⟨b, off, cap, rfl, hc, hb, hl⟩
  · exact rcheck_nil _ _ w
  · by_cases h8 : 8 < L.length
    · have e : rErr L = 4 := by unfold rErr; rw [if_pos h8]
      rw [e]; exact rcheck_many _ _ _ _ h8 hm
    · have e : rErr L = chk none L := by unfold rErr; rw [if_neg h8]
      rw [e]; exact rcheck_some b off cap L w hb hl hs (by omega)

end Go.Proofs.YtifhigajonafdaaGreat
