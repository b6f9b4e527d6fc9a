/-
  The walk of value.Name, and what stands beneath it.
-/
import Derived.Test.YtgjlonilbhlneaaGreatDoorProg
import Derived.WalkKit
import Derived.BigCall
import Derived.Lib.Strings
import Derived.Laws.Cover1
namespace Go.Proofs.YtgjlonilbhlneaaGreatDoor
open Go.RowKit
set_option linter.unusedVariables false
set_option linter.unusedSimpArgs false

def noLet (c : UInt8) : Bool := decide ((c.toNat : Int) < 97) || decide (122 < (c.toNat : Int))

def hasP (p : UInt8 → Bool) (l : List UInt8) : Bool := l.any p

theorem ret_bool {a b : Bool} (h : a = b) : Ending.returned (.bool a) = .returned (.bool b) := by rw [h]

theorem take_snoc (s : ByteArray) (k : Nat) (h : k < s.size) : s.data.toList.take (k + 1) = s.data.toList.take k ++ [s[k]] := by
  rw [List.take_succ_eq_append_getElem (by simpa using h)]; rfl
theorem any_snoc (p : UInt8 → Bool) (s : ByteArray) (k : Nat) (h : k < s.size) (h1 : (s.data.toList.take k).any p = false) (h2 : p s[k] = false) : (s.data.toList.take (k + 1)).any p = false := by
  rw [take_snoc s k h, List.any_append, h1]; simp [h2]
theorem any_hit (p : UInt8 → Bool) (s : ByteArray) (k : Nat) (h : k < s.size) (h2 : p s[k] = true) : true = hasP p s.data.toList := by
  symm; unfold hasP; rw [List.any_eq_true]; exact ⟨s[k], by simp [ByteArray.getElem_eq_getElem_data], h2⟩
theorem any_end (p : UInt8 → Bool) (s : ByteArray) (k : Nat) (h : ¬ k < s.size) (h1 : (s.data.toList.take k).any p = false) : false = hasP p s.data.toList := by
  unfold hasP; rw [List.take_of_length_le (by simp; omega)] at h1; exact h1.symm

theorem let_any (c : UInt8) (w : World) : Calls Tryz.prog 71 #[.int .u8 c.toNat] w fun e w' => e = .returned (.bool (noLet c)) ∧ w' = w := by
  go_enter Tryz.func71, Tryz.ntmps71
  go_wp2
  all_goals
    go_ret
    exact ⟨ret_bool (by unfold noLet; simp [*]), rfl⟩
set_option maxHeartbeats 1000000 in
theorem anyLet (s : ByteArray) (w : World) (hs : s.size ≤ maxLen) :
    Calls Tryz.prog 72 #[.string s, .func (.func 71) #[] #[]] w fun e w' => e = .returned (.bool (hasP noLet s.data.toList)) ∧ w' = w := by
  unfold maxLen at hs
  go_enter Tryz.func72, Tryz.ntmps72
  go_wp2
  go_loop [8] (fun i => ∃ k : Nat, k ≤ s.size ∧ i = .int .i64 k ∧ (s.data.toList.take k).any noLet = false) (fun i => s.size - (intOf i).toNat)
  case atStart => exact ⟨0, Nat.zero_le _, rfl, rfl⟩
  case round =>
    obtain ⟨k, hk, rfl, hno⟩ := hrel
    have HN : Hid ((s.data.toList.take k).any noLet = false) := hno
    clear hno
    by_cases hlt : k < s.size
    · by_cases hb : noLet s[k] = true
      · go_wp2_with (go_at_call 71; refine (let_any _ _).mono ?_; rintro e w' ⟨rfl, rfl⟩)
        go_ret
        exact ⟨ret_bool (any_hit _ s k hlt hb), rfl⟩
      · have hb' : noLet s[k] = false := by simpa using hb
        clear hb
        go_wp2_with (go_at_call 71; refine (let_any _ _).mono ?_; rintro e w' ⟨rfl, rfl⟩)
        go_round
        case rel => exact ⟨k + 1, by omega, by go_num, any_snoc _ s k hlt HN.out hb'⟩
        case measure => simp [intOf]; omega
    · go_wp2
      go_ret
      exact ⟨ret_bool (any_end _ s k hlt HN.out), rfl⟩

def errV (e : Int) : Value := if e = 0 then .nilIface else .iface 60 (.int .i64 e)
theorem errV_0 : errV 0 = .nilIface := rfl
theorem ret_v {a b : Value} (h : a = b) : Ending.returned a = .returned b := by rw [h]

theorem size_len (s : ByteArray) : s.size = s.data.toList.length := by rw [Array.length_toList]; rfl
theorem nonE (s : ByteArray) (h : ¬ s.data.toList = []) : s.toList.isEmpty = false := by
  rw [← decide_eq_emptyBytes, decide_eq_false_iff_not]
  intro e; apply h; rw [e]; rfl
theorem errV_ne {e : Int} (h : ¬ e = 0) : errV e = .iface 60 (.int .i64 e) := by unfold errV; rw [if_neg h]
theorem list_eq {s : ByteArray} {l : List UInt8} (h : s.data.toList = l) : s = ⟨l.toArray⟩ := by
  cases s with | mk d => congr 1; rw [← h]

def nErr (l : List UInt8) : Int := if l = [] then 2 else if 8 < l.length then 2 else if hasP noLet l = true then 2 else 0

set_option maxHeartbeats 2000000 in
set_option maxRecDepth 100000 in
theorem name_any (s : ByteArray) (w : World) (hs : s.size ≤ maxLen) :
    Calls Tryz.prog 45 #[.string s] w fun e w' => e = .returned (errV (nErr s.data.toList)) ∧ w' = w := by
  by_cases hE : s.data.toList = []
  · obtain rfl := list_eq hE
    go_enter Tryz.func45, Tryz.ntmps45
    go_wp2
    go_ret
    exact ⟨rfl, rfl⟩
  · have bE : s.toList.isEmpty = false := nonE s hE
    have bN : ¬ s.toList = [] := by rw [Lib.toList_data]; exact hE
    have hsz := size_len s
    by_cases h8 : 8 < s.size
    · have H1 : Hid (nErr s.data.toList = 2) := by
        show _ = _
        unfold nErr; rw [if_neg hE, if_pos (by omega)]
      clear hE hsz
      unfold maxLen at hs
      go_enter Tryz.func45, Tryz.ntmps45
      go_wp2
      go_ret
      exact ⟨ret_v (by rw [H1.out]; rfl), rfl⟩
    · by_cases hb : hasP noLet s.data.toList = true
      · have H1 : Hid (nErr s.data.toList = 2) := by
          show _ = _
          unfold nErr; rw [if_neg hE, if_neg (by omega), if_pos hb]
        clear hE hsz
        go_enter Tryz.func45, Tryz.ntmps45
        go_wp2_with (go_at_call 72; refine (anyLet s _ hs).mono ?_; rintro e w' ⟨rfl, rfl⟩)
        go_ret
        exact ⟨ret_v (by rw [H1.out]; rfl), rfl⟩
      · have hb' : hasP noLet s.data.toList = false := by simpa using hb
        have H1 : Hid (nErr s.data.toList = 0) := by
          show _ = _
          unfold nErr; rw [if_neg hE, if_neg (by omega), if_neg hb]
        clear hE hsz hb
        go_enter Tryz.func45, Tryz.ntmps45
        go_wp2_with (go_at_call 72; refine (anyLet s _ hs).mono ?_; rintro e w' ⟨rfl, rfl⟩)
        go_ret
        exact ⟨ret_v (by rw [H1.out]; rfl), rfl⟩

end Go.Proofs.YtgjlonilbhlneaaGreatDoor

/-
  What package kind says, in plain functions: the fault of kinds, what one comes of, the fields of all of them; and how kinds lie in memory.
-/
namespace Go.Proofs.YtgjlonilbhlneaaGreatDoor
open Go.RowKit
set_option linter.unusedVariables false
set_option linter.unusedSimpArgs false

abbrev Nm := List UInt8
def bs (l : Nm) : ByteArray := ⟨l.toArray⟩
theorem bs_toList (l : Nm) : (bs l).toList = l := by rw [Lib.toList_data]; simp [bs]
theorem bs_data (l : Nm) : (bs l).data.toList = l := by simp [bs]
theorem bs_self (s : ByteArray) : bs s.toList = s := by rw [Lib.toList_data]; cases s; simp [bs]
theorem bs_size (l : Nm) : (bs l).size = l.length := by simp [bs, ByteArray.size]
attribute [simp, go_sem] bs_toList bs_data

structure Fd where
  nm : Nm
  t : Int
  must : Bool
  key : Bool
structure Kd where
  nm : Nm
  of : List Nm
  fs : List Fd
  vo : Value
  vf : Value
def Fd.cells (f : Fd) : List Value := [.string (bs f.nm), .int .i64 f.t, .bool f.must, .bool f.key]
abbrev Fd.one (f : Fd) : Value := .agg #[.string (bs f.nm), .int .i64 f.t, .bool f.must, .bool f.key]
def Kd.cells (k : Kd) : List Value := [.string (bs k.nm), k.vo, k.vf]
abbrev Kd.one (k : Kd) : Value := .agg #[.string (bs k.nm), k.vo, k.vf]

def feq (a b : Fd) : Bool := a.nm == b.nm && a.t == b.t && a.must == b.must && a.key == b.key
theorem feq_iff (a b : Fd) : feq a b = true ↔ a = b := by
  cases a; cases b
  simp [feq, and_assoc]

def idxK (nm : Nm) : List Kd → Nat → Int
  | [], _ => -1
  | p :: r, k => if (p.nm == nm) = true then k else idxK nm r (k + 1)
def hasN (l : List Nm) (nm : Nm) : Bool := l.contains nm
def back : List Kd → List Nm → List Kd
  | [], _ => []
  | k :: r, ns => if hasN ns k.nm = true then k :: back r (ns ++ k.of) else back r ns
def kinOf (L : List Kd) : List Kd := match L.getLast? with
  | none => []
  | some k => (back L.reverse [k.nm]).reverse
def lo (nm : Nm) : List Fd → Nat
  | [] => 0
  | g :: r => if Op.bytesLess g.nm nm = true then lo nm r + 1 else 0
def insF (all : List Fd) (f : Fd) : Option (List Fd) := match all[lo f.nm all]? with
  | some g => if (g.nm == f.nm) = true then (if feq g f = true then some all else none) else some (all.take (lo f.nm all) ++ f :: all.drop (lo f.nm all))
  | none => some (all.take (lo f.nm all) ++ f :: all.drop (lo f.nm all))
def fOf : List Fd → List Fd → Option (List Fd)
  | all, [] => some all
  | all, f :: r => match insF all f with
    | some a => fOf a r
    | none => none
def fieldsOf (K : List Kd) : Option (List Fd) := fOf [] (K.flatMap Kd.fs)
def fBad (o : Option Fd) (f : Fd) : Int :=
  if nErr f.nm = 0 then (if f.t = 1 ∨ f.t = 2 ∨ f.t = 3 then (if (f.key && !f.must) = true then 3 else (match o with
    | none => 0
    | some q => if (Op.bytesLess f.nm q.nm || f.nm == q.nm) = true then 7 else 0)) else 8) else nErr f.nm
def fChk : Option Fd → List Fd → Int
  | _, [] => 0
  | o, f :: r => if fBad o f = 0 then fChk (some f) r else fBad o f
def oChk (A : List Kd) : List Nm → List Nm → Int
  | _, [] => 0
  | seen, n :: r => if idxK n A 0 = -1 then 5 else if hasN seen n = true then 7 else oChk A (seen ++ [n]) r
def aErr (o : Option (List Fd)) : Int := match o with
  | none => 7
  | some l => if 8 < l.length then 4 else 0
def kErr (A : List Kd) (k : Kd) : Int :=
  if nErr k.nm = 0 then (if idxK k.nm A 0 = -1 then (if 4 < k.of.length ∨ 8 < k.fs.length then 4 else
    (if oChk A [] k.of = 0 then (if fChk none k.fs = 0 then aErr (fieldsOf (kinOf (A ++ [k]))) else fChk none k.fs) else oChk A [] k.of)) else 7) else nErr k.nm
def ksGo : List Kd → List Kd → Nm × Int
  | _, [] => ([], 0)
  | A, k :: r => if kErr A k = 0 then ksGo (A ++ [k]) r else (k.nm, kErr A k)
def ksErr (L : List Kd) : Nm × Int := if 12 < L.length then ([], 4) else ksGo [] L
def nmErr (L : List Kd) (a : Nm) : Int := if (ksErr L).2 = 0 then (if idxK a L 0 = -1 then 5 else 0) else (ksErr L).2
def nmAt (L : List Kd) (a : Nm) : Nat := (idxK a L 0).toNat
def kin (L : List Kd) (a : Nm) : List Kd := kinOf (L.take (nmAt L a + 1))
def LiesS (w : World) (b off : Nat) (l : List Nm) : Prop := ∀ k n, l[k]? = some n → w.cell? ⟨b, off + k, none⟩ = some (.string (bs n))
def IsS (w : World) (v : Value) (l : List Nm) : Prop :=
  (∃ ao c, v = .slice ao 0 c ∧ l = [] ∧ c ≤ maxLen ∧ (ao = none → c = 0)) ∨ ∃ b off cap, v = .slice (some ⟨b, off, none⟩) l.length cap ∧ l.length ≤ cap ∧ cap ≤ maxLen ∧ b < w.heap.size ∧ LiesS w b off l
def LiesF (w : World) (b off : Nat) (l : List Fd) : Prop := ∀ k f, l[k]? = some f →
  w.cell? ⟨b, off + k * 4, none⟩ = some (.string (bs f.nm)) ∧ w.cell? ⟨b, off + k * 4 + 1, none⟩ = some (.int .i64 f.t) ∧ w.cell? ⟨b, off + k * 4 + 2, none⟩ = some (.bool f.must) ∧ w.cell? ⟨b, off + k * 4 + 3, none⟩ = some (.bool f.key)
def IsF (w : World) (v : Value) (l : List Fd) : Prop :=
  (∃ ao c, v = .slice ao 0 c ∧ l = [] ∧ c ≤ maxLen ∧ (ao = none → c = 0)) ∨ ∃ b off cap, v = .slice (some ⟨b, off, none⟩) l.length cap ∧ l.length ≤ cap ∧ cap ≤ maxLen ∧ b < w.heap.size ∧ LiesF w b off l
def LiesK (w : World) (b off : Nat) (l : List Kd) : Prop := ∀ i k, l[i]? = some k →
  w.cell? ⟨b, off + i * 3, none⟩ = some (.string (bs k.nm)) ∧ w.cell? ⟨b, off + i * 3 + 1, none⟩ = some k.vo ∧ w.cell? ⟨b, off + i * 3 + 2, none⟩ = some k.vf
def Parts (w : World) (l : List Kd) : Prop := ∀ k ∈ l, IsS w k.vo k.of ∧ IsF w k.vf k.fs
def IsK (w : World) (v : Value) (l : List Kd) : Prop :=
  (v = .slice none 0 0 ∧ l = []) ∨ ∃ b off cap, v = .slice (some ⟨b, off, none⟩) l.length cap ∧ l.length ≤ cap ∧ cap ≤ maxLen ∧ b < w.heap.size ∧ LiesK w b off l

theorem LiesS.on {w w' : World} {b off : Nat} {l : List Nm} (h : LiesS w b off l) (hb : b < w.heap.size) (hB : Below w.heap.size w w') : LiesS w' b off l := fun k n hn => (hB.cell hb).trans (h k n hn)
theorem IsS.on {w w' : World} {v : Value} {l : List Nm} (h : IsS w v l) (hB : Below w.heap.size w w') : IsS w' v l := by
  rcases h with h | ⟨b, off, cap, hv, hc, hm, hb, hl⟩
  · exact .inl h
  · exact .inr ⟨b, off, cap, hv, hc, hm, Nat.lt_of_lt_of_le hb hB.size, hl.on hb hB⟩
theorem LiesF.on {w w' : World} {b off : Nat} {l : List Fd} (h : LiesF w b off l) (hb : b < w.heap.size) (hB : Below w.heap.size w w') : LiesF w' b off l := fun k p hp => by
  obtain ⟨c0, c1, c2, c3⟩ := h k p hp
  exact ⟨(hB.cell hb).trans c0, (hB.cell hb).trans c1, (hB.cell hb).trans c2, (hB.cell hb).trans c3⟩
theorem IsF.on {w w' : World} {v : Value} {l : List Fd} (h : IsF w v l) (hB : Below w.heap.size w w') : IsF w' v l := by
  rcases h with h | ⟨b, off, cap, hv, hc, hm, hb, hl⟩
  · exact .inl h
  · exact .inr ⟨b, off, cap, hv, hc, hm, Nat.lt_of_lt_of_le hb hB.size, hl.on hb hB⟩
theorem LiesK.on {w w' : World} {b off : Nat} {l : List Kd} (h : LiesK w b off l) (hb : b < w.heap.size) (hB : Below w.heap.size w w') : LiesK w' b off l := fun k p hp => by
  obtain ⟨c0, c1, c2⟩ := h k p hp
  exact ⟨(hB.cell hb).trans c0, (hB.cell hb).trans c1, (hB.cell hb).trans c2⟩
theorem IsK.on {w w' : World} {v : Value} {l : List Kd} (h : IsK w v l) (hB : Below w.heap.size w w') : IsK w' v l := by
  rcases h with h | ⟨b, off, cap, hv, hc, hm, hb, hl⟩
  · exact .inl h
  · exact .inr ⟨b, off, cap, hv, hc, hm, Nat.lt_of_lt_of_le hb hB.size, hl.on hb hB⟩
theorem Parts.on {w w' : World} {l : List Kd} (h : Parts w l) (hB : Below w.heap.size w w') : Parts w' l := fun k hk => ⟨(h k hk).1.on hB, (h k hk).2.on hB⟩
theorem Parts.sub {w : World} {l m : List Kd} (h : Parts w l) (hs : ∀ k ∈ m, k ∈ l) : Parts w m := fun k hk => h k (hs k hk)
theorem LiesS.take {w : World} {b off : Nat} {l : List Nm} (h : LiesS w b off l) (i : Nat) : LiesS w b off (l.take i) := fun k n hn => by
  rw [List.getElem?_take] at hn
  split at hn
  · exact h k n hn
  · cases hn
theorem LiesK.take {w : World} {b off : Nat} {l : List Kd} (h : LiesK w b off l) (i : Nat) : LiesK w b off (l.take i) := fun k n hn => by
  rw [List.getElem?_take] at hn
  split at hn
  · exact h k n hn
  · cases hn

theorem idxK_spec (nm : Nm) (L : List Kd) : ∀ k, idxK nm L k = -1 ∨ ∃ j q, idxK nm L k = ((k + j : Nat) : Int) ∧ L[j]? = some q ∧ q.nm = nm := by
  induction L with
  | nil => intro k; left; rfl
  | cons p r ih =>
    intro k
    by_cases h : (p.nm == nm) = true
    · right; exact ⟨0, p, by unfold idxK; rw [if_pos h]; simp, rfl, by simpa using h⟩
    · have e : idxK nm (p :: r) k = idxK nm r (k + 1) := by
        conv => lhs; unfold idxK
        rw [if_neg h]
      rw [e]
      rcases ih (k + 1) with h1 | ⟨j, q, h1, h2, h3⟩
      · exact .inl h1
      · exact .inr ⟨j + 1, q, by rw [h1]; congr 1; omega, by simpa using h2, h3⟩
theorem dropK {α : Type} {L : List α} {k : Nat} {p : α} (h : L[k]? = some p) : L.drop k = p :: L.drop (k + 1) := by
  obtain ⟨hk, rfl⟩ := List.getElem?_eq_some_iff.1 h
  exact List.drop_eq_getElem_cons hk
theorem takeK {α : Type} {L : List α} {k : Nat} {p : α} (h : L[k]? = some p) : L.take (k + 1) = L.take k ++ [p] := by
  rw [List.take_add_one, h]; rfl

end Go.Proofs.YtgjlonilbhlneaaGreatDoor

/-
  What a kind comes of is the least list of names that holds its own and with each what that comes of: mathematics.
-/
namespace Go.Proofs.YtgjlonilbhlneaaGreatDoor
open Go.RowKit
set_option linter.unusedVariables false
set_option linter.unusedSimpArgs false

theorem hasN_iff (l : List Nm) (n : Nm) : hasN l n = true ↔ n ∈ l := by unfold hasN; simp
def cl : List Kd → List Nm → List Nm
  | [], ns => ns
  | k :: r, ns => if hasN ns k.nm = true then cl r (ns ++ k.of) else cl r ns
def RightR : List Kd → Prop
  | [] => True
  | k :: r => (∀ x ∈ r, x.nm ≠ k.nm) ∧ (∀ n ∈ k.of, ∃ x ∈ r, x.nm = n) ∧ RightR r

theorem cl_ge (r : List Kd) : ∀ ns, ∀ n ∈ ns, n ∈ cl r ns := by
  induction r with
  | nil => intro ns n h; exact h
  | cons k r ih =>
    intro ns n h
    unfold cl
    split
    · exact ih _ n (by simp [h])
    · exact ih _ n h
theorem cl_sub (r : List Kd) : ∀ ns, ∀ n ∈ cl r ns, n ∈ ns ∨ ∃ x ∈ r, n ∈ x.of := by
  induction r with
  | nil => intro ns n h; exact .inl h
  | cons k r ih =>
    intro ns n h
    unfold cl at h
    split at h
    · rcases ih _ n h with h1 | ⟨x, hx, h1⟩
      · rcases List.mem_append.1 h1 with h2 | h2
        · exact .inl h2
        · exact .inr ⟨k, by simp, h2⟩
      · exact .inr ⟨x, by simp [hx], h1⟩
    · rcases ih _ n h with h1 | ⟨x, hx, h1⟩
      · exact .inl h1
      · exact .inr ⟨x, by simp [hx], h1⟩
theorem right_of {r : List Kd} (h : RightR r) : ∀ x ∈ r, ∀ n ∈ x.of, ∃ y ∈ r, y.nm = n := by
  induction r with
  | nil => intro x hx; simp at hx
  | cons k r ih =>
    obtain ⟨h1, h2, h3⟩ := h
    intro x hx n hn
    rcases List.mem_cons.1 hx with rfl | hx
    · obtain ⟨y, hy, e⟩ := h2 n hn
      exact ⟨y, by simp [hy], e⟩
    · obtain ⟨y, hy, e⟩ := ih h3 x hx n hn
      exact ⟨y, by simp [hy], e⟩
theorem cl_not {k : Kd} {r : List Kd} (h : RightR (k :: r)) {ns : List Nm} (hn : ¬ k.nm ∈ ns) : ¬ k.nm ∈ cl r ns := by
  intro h1
  rcases cl_sub r ns _ h1 with h2 | ⟨x, hx, h2⟩
  · exact hn h2
  · obtain ⟨y, hy, e⟩ := right_of h.2.2 x hx _ h2
    exact h.1 y hy e
theorem back_filter (r : List Kd) (h : RightR r) : ∀ ns, back r ns = r.filter fun k => hasN (cl r ns) k.nm := by
  induction r with
  | nil => intro ns; rfl
  | cons k r ih =>
    intro ns
    by_cases hn : hasN ns k.nm = true
    · have h1 : hasN (cl r (ns ++ k.of)) k.nm = true := by
        rw [hasN_iff] at hn ⊢
        exact cl_ge _ _ _ (by simp [hn])
      simp only [back, cl, hn, if_true, List.filter_cons]
      rw [if_pos h1, ih h.2.2]
    · have h1 : ¬ hasN (cl r ns) k.nm = true := by
        rw [hasN_iff] at hn ⊢
        exact cl_not h hn
      simp only [back, cl, hn, List.filter_cons]
      simp
      rw [if_neg h1, ih h.2.2]
theorem cl_closed (r : List Kd) (h : RightR r) : ∀ ns, ∀ k ∈ r, k.nm ∈ cl r ns → ∀ n ∈ k.of, n ∈ cl r ns := by
  induction r with
  | nil => intro ns k hk; simp at hk
  | cons x r ih =>
    intro ns k hk hc n hn
    by_cases hx : hasN ns x.nm = true
    · have e : cl (x :: r) ns = cl r (ns ++ x.of) := by simp [cl, hx]
      rw [e] at hc ⊢
      rcases List.mem_cons.1 hk with rfl | hk
      · exact cl_ge _ _ _ (by simp [hn])
      · exact ih h.2.2 _ k hk hc n hn
    · have e : cl (x :: r) ns = cl r ns := by simp [cl, hx]
      rw [e] at hc ⊢
      rcases List.mem_cons.1 hk with rfl | hk
      · exact absurd hc (cl_not h (by rw [hasN_iff] at hx; exact hx))
      · exact ih h.2.2 _ k hk hc n hn
theorem cl_least (r : List Kd) (T : Nm → Prop) (hT : ∀ k ∈ r, T k.nm → ∀ n ∈ k.of, T n) : ∀ ns, (∀ n ∈ ns, T n) → ∀ n ∈ cl r ns, T n := by
  induction r with
  | nil => intro ns h n hn; exact h n hn
  | cons x r ih =>
    intro ns h n hn
    unfold cl at hn
    split at hn
    · rename_i hx
      refine ih (fun k hk => hT k (by simp [hk])) _ (fun m hm => ?_) n hn
      rcases List.mem_append.1 hm with h1 | h1
      · exact h m h1
      · exact hT x (by simp) (h _ ((hasN_iff _ _).1 hx)) m h1
    · exact ih (fun k hk => hT k (by simp [hk])) _ h n hn
theorem cl_skip (p r : List Kd) (ns : List Nm) (h : ∀ k ∈ p, ¬ k.nm ∈ ns) : cl (p ++ r) ns = cl r ns ∧ back (p ++ r) ns = back r ns := by
  induction p with
  | nil => exact ⟨rfl, rfl⟩
  | cons k p ih =>
    have h1 : ¬ hasN ns k.nm = true := by rw [hasN_iff]; exact h k (by simp)
    obtain ⟨e1, e2⟩ := ih (fun x hx => h x (by simp [hx]))
    exact ⟨by simp only [List.cons_append, cl, h1]; simp [e1], by simp only [List.cons_append, back, h1]; simp [e2]⟩

theorem snoc_ind {P : List Kd → Prop} (h0 : P []) (h1 : ∀ A k, P A → P (A ++ [k])) (L : List Kd) : P L := by
  have h : ∀ R : List Kd, P R.reverse := by
    intro R
    induction R with
    | nil => exact h0
    | cons k R ih => rw [List.reverse_cons]; exact h1 _ _ ih
  simpa using h L.reverse
def Right (L : List Kd) : Prop := RightR L.reverse
theorem right_snoc {A : List Kd} {k : Kd} : Right (A ++ [k]) ↔ (∀ x ∈ A, x.nm ≠ k.nm) ∧ (∀ n ∈ k.of, ∃ x ∈ A, x.nm = n) ∧ Right A := by
  unfold Right
  simp [RightR]
def names (L : List Kd) (a : Nm) : List Nm := cl L.reverse [a]
theorem right_names {L : List Kd} (h : Right L) : ∀ (i j : Nat) (x y : Kd), L[i]? = some x → L[j]? = some y → x.nm = y.nm → i = j := by
  revert h
  refine snoc_ind (P := fun L => Right L → ∀ (i j : Nat) (x y : Kd), L[i]? = some x → L[j]? = some y → x.nm = y.nm → i = j) ?_ ?_ L
  · intro _ i j x y hx; simp at hx
  · intro A k ih h
    obtain ⟨h1, h2, h3⟩ := right_snoc.1 h
    intro i j x y hx hy e
    rw [List.getElem?_append] at hx hy
    split at hx <;> split at hy
    · exact ih h3 i j x y hx hy e
    · rename_i hi hj
      have : y = k := by
        have := List.mem_of_getElem? hy
        simpa using this
      subst this
      exact absurd e (h1 x (List.mem_of_getElem? hx))
    · rename_i hi hj
      have : x = k := by
        have := List.mem_of_getElem? hx
        simpa using this
      subst this
      exact absurd e.symm (h1 y (List.mem_of_getElem? hy))
    · rename_i hi hj
      have e1 := (List.getElem?_eq_some_iff.1 hx).1
      have e2 := (List.getElem?_eq_some_iff.1 hy).1
      simp at e1 e2
      omega
theorem kinOf_at {L : List Kd} (h : Right L) {i : Nat} {k : Kd} (hk : L[i]? = some k) : kinOf (L.take (i + 1)) = L.filter fun x => hasN (names L k.nm) x.nm := by
  have e1 : L.take (i + 1) = L.take i ++ [k] := takeK hk
  have hl : (L.take (i + 1)).getLast? = some k := by rw [e1]; simp
  have e2 : L.reverse = (L.drop (i + 1)).reverse ++ (L.take (i + 1)).reverse := by
    rw [← List.reverse_append, List.take_append_drop]
  have hs := cl_skip (L.drop (i + 1)).reverse (L.take (i + 1)).reverse [k.nm] (fun x hx => by
    simp at hx
    intro e
    simp at e
    obtain ⟨j, hj⟩ := List.mem_iff_getElem?.1 hx
    rw [List.getElem?_drop] at hj
    have := right_names h _ _ x k hj hk e
    omega)
  unfold kinOf
  rw [hl]
  simp only
  rw [← hs.2, ← e2, back_filter _ h, ← List.filter_reverse, List.reverse_reverse]
  rfl
theorem names_self (L : List Kd) (a : Nm) : a ∈ names L a := cl_ge _ _ _ (by simp)
theorem names_closed {L : List Kd} (h : Right L) (a : Nm) {k : Kd} (hk : k ∈ L) (hn : k.nm ∈ names L a) : ∀ n ∈ k.of, n ∈ names L a :=
  cl_closed _ h _ k (by simpa using hk) hn
theorem names_least (L : List Kd) (a : Nm) (T : Nm → Prop) (hT : ∀ k ∈ L, T k.nm → ∀ n ∈ k.of, T n) (ha : T a) : ∀ n ∈ names L a, T n :=
  cl_least _ T (fun k hk => hT k (by simpa using hk)) _ (fun n hn => by simp at hn; subst hn; exact ha)
end Go.Proofs.YtgjlonilbhlneaaGreatDoor
