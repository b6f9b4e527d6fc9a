/-
  What package kind says, in plain functions: the fault of kinds, what one comes of, the fields of all of them; and how kinds lie in memory.
-/
import Derived.Test.YtgjlonilbhlneaaDoorBase
import Derived.Laws.Cover1
namespace Go.Proofs.YtgjlonilbhlneaaDoor
open Go.RowKit
set_option linter.unusedVariables false
set_option linter.unusedSimpArgs false

/-- A name. -/
abbrev Nm := List UInt8
/-- It as a string. -/
def bs (l : Nm) : ByteArray := ⟨l.toArray⟩
theorem bs_toList (l : Nm) : (bs l).toList = l := by rw [Lib.toList_data]; simp [bs]
theorem bs_data (l : Nm) : (bs l).data.toList = l := by simp [bs]
theorem bs_self (s : ByteArray) : bs s.toList = s := by rw [Lib.toList_data]; cases s; simp [bs]
theorem bs_size (l : Nm) : (bs l).size = l.length := by simp [bs, ByteArray.size]
attribute [simp, go_sem] bs_toList bs_data

/-- A field. -/
structure Fd where
  nm : Nm
  t : Int
  must : Bool
  key : Bool
/-- A kind; and the two slices that it has. -/
structure Kd where
  nm : Nm
  of : List Nm
  fs : List Fd
  vo : Value
  vf : Value
/-- Its cells. -/
def Fd.cells (f : Fd) : List Value := [.string (bs f.nm), .int .i64 f.t, .bool f.must, .bool f.key]
/-- It as one value. -/
abbrev Fd.one (f : Fd) : Value := .agg #[.string (bs f.nm), .int .i64 f.t, .bool f.must, .bool f.key]
/-- Its cells. -/
def Kd.cells (k : Kd) : List Value := [.string (bs k.nm), k.vo, k.vf]
/-- It as one value. -/
abbrev Kd.one (k : Kd) : Value := .agg #[.string (bs k.nm), k.vo, k.vf]

/-- Are two the same? -/
def feq (a b : Fd) : Bool := a.nm == b.nm && a.t == b.t && a.must == b.must && a.key == b.key
theorem feq_iff (a b : Fd) : feq a b = true ↔ a = b := by
  cases a; cases b
  simp [feq, and_assoc]

/-- The first of a name. -/
def idxK (nm : Nm) : List Kd → Nat → Int
  | [], _ => -1
  | p :: r, k => if (p.nm == nm) = true then k else idxK nm r (k + 1)
/-- A name is there. -/
def hasN (l : List Nm) (nm : Nm) : Bool := l.contains nm
/-- What stands behind from the last one on, of which the names are. -/
def back : List Kd → List Nm → List Kd
  | [], _ => []
  | k :: r, ns => if hasN ns k.nm = true then k :: back r (ns ++ k.of) else back r ns
/-- The last one and all it comes of. -/
def kinOf (L : List Kd) : List Kd := match L.getLast? with
  | none => []
  | some k => (back L.reverse [k.nm]).reverse
/-- How many are ahead of a name. -/
def lo (nm : Nm) : List Fd → Nat
  | [] => 0
  | g :: r => if Op.bytesLess g.nm nm = true then lo nm r + 1 else 0
/-- One field more. -/
def insF (all : List Fd) (f : Fd) : Option (List Fd) := match all[lo f.nm all]? with
  | some g => if (g.nm == f.nm) = true then (if feq g f = true then some all else none) else some (all.take (lo f.nm all) ++ f :: all.drop (lo f.nm all))
  | none => some (all.take (lo f.nm all) ++ f :: all.drop (lo f.nm all))
/-- Many more. -/
def fOf : List Fd → List Fd → Option (List Fd)
  | all, [] => some all
  | all, f :: r => match insF all f with
    | some a => fOf a r
    | none => none
/-- The fields of all. -/
def fieldsOf (K : List Kd) : Option (List Fd) := fOf [] (K.flatMap Kd.fs)
/-- The fault of one field, behind another one. -/
def fBad (o : Option Fd) (f : Fd) : Int :=
  if nErr f.nm = 0 then (if f.t = 1 ∨ f.t = 2 ∨ f.t = 3 then (if (f.key && !f.must) = true then 3 else (match o with
    | none => 0
    | some q => if (Op.bytesLess f.nm q.nm || f.nm == q.nm) = true then 7 else 0)) else 8) else nErr f.nm
/-- The fault of fields. -/
def fChk : Option Fd → List Fd → Int
  | _, [] => 0
  | o, f :: r => if fBad o f = 0 then fChk (some f) r else fBad o f
/-- The fault of what one comes of. -/
def oChk (A : List Kd) : List Nm → List Nm → Int
  | _, [] => 0
  | seen, n :: r => if idxK n A 0 = -1 then 5 else if hasN seen n = true then 7 else oChk A (seen ++ [n]) r
/-- The fault of all fields. -/
def aErr (o : Option (List Fd)) : Int := match o with
  | none => 7
  | some l => if 8 < l.length then 4 else 0
/-- The fault of a kind, behind others. -/
def kErr (A : List Kd) (k : Kd) : Int :=
  if nErr k.nm = 0 then (if idxK k.nm A 0 = -1 then (if 4 < k.of.length ∨ 8 < k.fs.length then 4 else
    (if oChk A [] k.of = 0 then (if fChk none k.fs = 0 then aErr (fieldsOf (kinOf (A ++ [k]))) else fChk none k.fs) else oChk A [] k.of)) else 7) else nErr k.nm
/-- The first that is wrong; its fault. -/
def ksGo : List Kd → List Kd → Nm × Int
  | _, [] => ([], 0)
  | A, k :: r => if kErr A k = 0 then ksGo (A ++ [k]) r else (k.nm, kErr A k)
def ksErr (L : List Kd) : Nm × Int := if 12 < L.length then ([], 4) else ksGo [] L
/-- The fault of a name that is looked up. -/
def nmErr (L : List Kd) (a : Nm) : Int := if (ksErr L).2 = 0 then (if idxK a L 0 = -1 then 5 else 0) else (ksErr L).2
/-- Where it is. -/
def nmAt (L : List Kd) (a : Nm) : Nat := (idxK a L 0).toNat
/-- All it comes of. -/
def kin (L : List Kd) (a : Nm) : List Kd := kinOf (L.take (nmAt L a + 1))
/-- All that come of it. -/
def unds (L : List Kd) (a : Nm) : List Nat → List Nm
  | [] => []
  | i :: r => match L[i]? with
    | some k => if idxK a (kinOf (L.take (i + 1))) 0 = -1 then unds L a r else k.nm :: unds L a r
    | none => unds L a r
def under (L : List Kd) (a : Nm) : List Nm := unds L a (List.range L.length)
/-- Its fields. -/
def fields (L : List Kd) (a : Nm) : List Fd := (fieldsOf (kin L a)).getD []

/-- Strings lie there. -/
def LiesS (w : World) (b off : Nat) (l : List Nm) : Prop := ∀ k n, l[k]? = some n → w.cell? ⟨b, off + k, none⟩ = some (.string (bs n))
/-- The value is this list of strings. -/
def IsS (w : World) (v : Value) (l : List Nm) : Prop :=
  (∃ ao c, v = .slice ao 0 c ∧ l = [] ∧ c ≤ maxLen ∧ (ao = none → c = 0)) ∨ ∃ b off cap, v = .slice (some ⟨b, off, none⟩) l.length cap ∧ l.length ≤ cap ∧ cap ≤ maxLen ∧ b < w.heap.size ∧ LiesS w b off l
/-- Fields lie there. -/
def LiesF (w : World) (b off : Nat) (l : List Fd) : Prop := ∀ k f, l[k]? = some f →
  w.cell? ⟨b, off + k * 4, none⟩ = some (.string (bs f.nm)) ∧ w.cell? ⟨b, off + k * 4 + 1, none⟩ = some (.int .i64 f.t) ∧ w.cell? ⟨b, off + k * 4 + 2, none⟩ = some (.bool f.must) ∧ w.cell? ⟨b, off + k * 4 + 3, none⟩ = some (.bool f.key)
/-- The value is this list of fields. -/
def IsF (w : World) (v : Value) (l : List Fd) : Prop :=
  (∃ ao c, v = .slice ao 0 c ∧ l = [] ∧ c ≤ maxLen ∧ (ao = none → c = 0)) ∨ ∃ b off cap, v = .slice (some ⟨b, off, none⟩) l.length cap ∧ l.length ≤ cap ∧ cap ≤ maxLen ∧ b < w.heap.size ∧ LiesF w b off l
/-- Kinds lie there. -/
def LiesK (w : World) (b off : Nat) (l : List Kd) : Prop := ∀ i k, l[i]? = some k →
  w.cell? ⟨b, off + i * 3, none⟩ = some (.string (bs k.nm)) ∧ w.cell? ⟨b, off + i * 3 + 1, none⟩ = some k.vo ∧ w.cell? ⟨b, off + i * 3 + 2, none⟩ = some k.vf
/-- What they have lies there. -/
def Parts (w : World) (l : List Kd) : Prop := ∀ k ∈ l, IsS w k.vo k.of ∧ IsF w k.vf k.fs
/-- The value is this list of kinds. -/
def IsK (w : World) (v : Value) (l : List Kd) : Prop :=
  (v = .slice none 0 0 ∧ l = []) ∨ ∃ b off cap, v = .slice (some ⟨b, off, none⟩) l.length cap ∧ l.length ≤ cap ∧ cap ≤ maxLen ∧ b < w.heap.size ∧ LiesK w b off l

theorem LiesS.on {w w' : World} {b off : Nat} {l : List Nm} (h : LiesS w b off l) (hb : b < w.heap.size) (hB : Below w.heap.size w w') : LiesS w' b off l := fun k n hn => (hB.cell hb).trans (h k n hn)
theorem IsS.on {w w' : World} {v : Value} {l : List Nm} (h : IsS w v l) (hB : Below w.heap.size w w') : IsS w' v l := by
  rcases h with h | ⟨b, off, cap, hv, hc, hm, hb, hl⟩
  · exact .inl h
  · exact .inr ⟨b, off, cap, hv, hc, hm, Nat.lt_of_lt_of_le hb hB.size, hl.on hb hB⟩
theorem LiesF.on {w w' : World} {b off : Nat} {l : List Fd} (h : LiesF w b off l) (hb : b < w.heap.size) (hB : Below w.heap.size w w') : LiesF w' b off l := fun k p hp => by
  obtain ⟨c0, c1, c2, c3⟩ := h k p hp
  exact ⟨(hB.cell hb).trans c0, (hB.cell hb).trans c1, (hB.cell hb).trans c2, (hB.cell hb).trans c3⟩
theorem IsF.on {w w' : World} {v : Value} {l : List Fd} (h : IsF w v l) (hB : Below w.heap.size w w') : IsF w' v l := by
  rcases h with h | ⟨b, off, cap, hv, hc, hm, hb, hl⟩
  · exact .inl h
  · exact .inr ⟨b, off, cap, hv, hc, hm, Nat.lt_of_lt_of_le hb hB.size, hl.on hb hB⟩
theorem LiesK.on {w w' : World} {b off : Nat} {l : List Kd} (h : LiesK w b off l) (hb : b < w.heap.size) (hB : Below w.heap.size w w') : LiesK w' b off l := fun k p hp => by
  obtain ⟨c0, c1, c2⟩ := h k p hp
  exact ⟨(hB.cell hb).trans c0, (hB.cell hb).trans c1, (hB.cell hb).trans c2⟩
theorem IsK.on {w w' : World} {v : Value} {l : List Kd} (h : IsK w v l) (hB : Below w.heap.size w w') : IsK w' v l := by
  rcases h with h | ⟨b, off, cap, hv, hc, hm, hb, hl⟩
  · exact .inl h
  · exact .inr ⟨b, off, cap, hv, hc, hm, Nat.lt_of_lt_of_le hb hB.size, hl.on hb hB⟩
theorem Parts.on {w w' : World} {l : List Kd} (h : Parts w l) (hB : Below w.heap.size w w') : Parts w' l := fun k hk => ⟨(h k hk).1.on hB, (h k hk).2.on hB⟩
theorem Parts.sub {w : World} {l m : List Kd} (h : Parts w l) (hs : ∀ k ∈ m, k ∈ l) : Parts w m := fun k hk => h k (hs k hk)
theorem LiesS.take {w : World} {b off : Nat} {l : List Nm} (h : LiesS w b off l) (i : Nat) : LiesS w b off (l.take i) := fun k n hn => by
  rw [List.getElem?_take] at hn
  split at hn
  · exact h k n hn
  · cases hn
theorem LiesK.take {w : World} {b off : Nat} {l : List Kd} (h : LiesK w b off l) (i : Nat) : LiesK w b off (l.take i) := fun k n hn => by
  rw [List.getElem?_take] at hn
  split at hn
  · exact h k n hn
  · cases hn

theorem idxK_spec (nm : Nm) (L : List Kd) : ∀ k, idxK nm L k = -1 ∨ ∃ j q, idxK nm L k = ((k + j : Nat) : Int) ∧ L[j]? = some q ∧ q.nm = nm := by
  induction L with
  | nil => intro k; left; rfl
  | cons p r ih =>
    intro k
    by_cases h : (p.nm == nm) = true
    · right; exact ⟨0, p, by unfold idxK; rw [if_pos h]; simp, rfl, by simpa using h⟩
    · have e : idxK nm (p :: r) k = idxK nm r (k + 1) := by
        conv => lhs; unfold idxK
        rw [if_neg h]
      rw [e]
      rcases ih (k + 1) with h1 | ⟨j, q, h1, h2, h3⟩
      · exact .inl h1
      · exact .inr ⟨j + 1, q, by rw [h1]; congr 1; omega, by simpa using h2, h3⟩
theorem dropK {α : Type} {L : List α} {k : Nat} {p : α} (h : L[k]? = some p) : L.drop k = p :: L.drop (k + 1) := by
  obtain ⟨hk, rfl⟩ := List.getElem?_eq_some_iff.1 h
  exact List.drop_eq_getElem_cons hk
theorem takeK {α : Type} {L : List α} {k : Nat} {p : α} (h : L[k]? = some p) : L.take (k + 1) = L.take k ++ [p] := by
  rw [List.take_add_one, h]; rfl

end Go.Proofs.YtgjlonilbhlneaaDoor
