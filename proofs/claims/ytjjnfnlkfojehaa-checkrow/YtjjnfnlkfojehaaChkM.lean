/-
  What package check says, in plain functions; and how what it makes lies in memory.
-/
import Derived.Test.YtjjnfnlkfojehaaKinN
import Derived.Test.YtjjnfnlkfojehaaSchB
import Derived.Test.YtjjnfnlkfojehaaGraF
import Derived.Test.YtjjnfnlkfojehaaRecG
import Derived.Test.YtjjnfnlkfojehaaMapK
namespace Go.Proofs.Ytjjnfnlkfojehaa
open Go.RowKit
set_option linter.unusedVariables false
set_option linter.unusedSimpArgs false

/-- A fault. -/
structure Ft where
  wh : Int
  id : Int
  nm : ByteArray
def Ft.cells (f : Ft) : List Value := [.int .i64 f.wh, .int .i64 f.id, .string f.nm]
def cellsX (l : List Ft) : List Value := l.flatMap Ft.cells
theorem cellsX_snoc (l : List Ft) (f : Ft) : cellsX (l ++ [f]) = cellsX l ++ f.cells := by simp [cellsX]
theorem cellsX_app (l m : List Ft) : cellsX (l ++ m) = cellsX l ++ cellsX m := by simp [cellsX]
theorem cellsX_len (l : List Ft) : (cellsX l).length = l.length * 3 := by
  induction l with
  | nil => rfl
  | cons f r ih => simp [cellsX, Ft.cells] at ih ⊢; omega
/-- What the nodes of a kind are to be. -/
structure Sh where
  kn : List Nm
  fs : List Fd
  bn : List Bd
def sh0 : Sh := ⟨[], [], []⟩
/-- A kind's. -/
def shp (L : List Kd) (B : List Bd) (a : Nm) : Sh := ⟨nms (kin L a), fields L a, B.filter fun x => hasN (nms (kin L a)) x.fr⟩
/-- By name. -/
def shO (L : List Kd) (B : List Bd) (M : List Kd) : ByteArray → Option Sh := M.foldl (fun F k => upd F (bs k.nm) (shp L B k.nm)) (fun _ => none)
def bdO (B : List Bd) : ByteArray → Option Bd := B.foldl (fun F x => upd F (bs x.nm) x) (fun _ => none)

/-- A property fits a field. -/
def fit1 (p : Pr) (f : Fd) : Bool := f.nm == p.nm.toList && f.t == p.t
def fits (fs : List Fd) (p : Pr) : Bool := fs.any (fit1 p)
/-- The faults of properties. -/
def propS (fs : List Fd) (id : Int) (l : List Ft) (p : Pr) : List Ft := if fits fs p = true then l else l ++ [⟨2, id, p.nm⟩]
def propF (fs : List Fd) (id : Int) (rc : List Pr) : List Ft := rc.foldl (propS fs id) []
/-- The property of a name. -/
def getP (nm : Nm) (rc : List Pr) : Option Pr := if idxP nm rc 0 = -1 then none else rc[(idxP nm rc 0).toNat]?
def valP (o : Option Pr) : Int × Int × ByteArray := match o with
  | some p => (p.t, p.n, p.s)
  | none => (0, 0, ⟨#[]⟩)
/-- A field's key. -/
def keyP (rc : List Pr) (f : Fd) : KeyV := (bs f.nm, valP (getP f.nm rc))
/-- What is taken. -/
abbrev Tk := KeyV → Option Int
def noF (rc : List Pr) (f : Fd) : Bool := f.must && (getP f.nm rc).isNone
def sameF (rc : List Pr) (T : Tk) (f : Fd) : Bool := (f.key && (valP (getP f.nm rc)).1 == f.t) && (T (keyP rc f)).getD 0 != 0
def fieldS (id : Int) (rc : List Pr) (S : List Ft × Tk) (f : Fd) : List Ft × Tk :=
  if noF rc f = true then (S.1 ++ [⟨3, id, bs f.nm⟩], S.2) else if sameF rc S.2 f = true then (S.1 ++ [⟨4, id, bs f.nm⟩], S.2) else if f.key = true then (S.1, upd S.2 (keyP rc f) id) else S
def fieldF (fs : List Fd) (id : Int) (rc : List Pr) (T : Tk) : List Ft × Tk := fs.foldl (fieldS id rc) ([], T)
/-- The faults of one node by itself, and what is taken then. -/
def ownF (h : Option Sh) (n : Nd) (T : Tk) : List Ft × Tk := match h with
  | none => ([⟨1, n.id, n.kd⟩], T)
  | some h => (propF h.fs n.id n.rc ++ (fieldF h.fs n.id n.rc T).1, (fieldF h.fs n.id n.rc T).2)
/-- How many ties go out. -/
abbrev Ou := EndV → Option Int
def outS (O : Ou) (t : Te) : Ou := upd O (t.bd, t.fr) ((O (t.bd, t.fr)).getD 0 + 1)
def outO (T : List Te) : Ou := T.foldl outS (fun _ => none)
def cnt (O : Ou) (id : Int) (x : Bd) : Int := (O (bs x.nm, id)).getD 0
def bondS (id : Int) (O : Ou) (l : List Ft) (x : Bd) : List Ft :=
  if cnt O id x < x.mn then l ++ [⟨7, id, bs x.nm⟩] else if (decide (0 ≤ x.mx) && decide (x.mx < cnt O id x)) = true then l ++ [⟨8, id, bs x.nm⟩] else l
def bondF (bn : List Bd) (id : Int) (O : Ou) : List Ft := bn.foldl (bondS id O) []
/-- The faults of nodes. -/
def nodeS (H : ByteArray → Option Sh) (O : Ou) (S : List Ft × Tk) (n : Nd) : List Ft × Tk :=
  (S.1 ++ (ownF (H n.kd) n S.2).1 ++ bondF ((H n.kd).getD sh0).bn n.id O, (ownF (H n.kd) n S.2).2)
def nodeF (H : ByteArray → Option Sh) (O : Ou) (N : List Nd) : List Ft := (N.foldl (nodeS H O) ([], fun _ => none)).1
/-- Of which shape the nodes are. -/
abbrev En := Int → Option Sh
def endS (H : ByteArray → Option Sh) (E : En) (n : Nd) : En := upd E n.id ((H n.kd).getD sh0)
def endO (H : ByteArray → Option Sh) (N : List Nd) : En := N.foldl (endS H) (fun _ => none)
def badE (E : En) (t : Te) (x : Bd) : Bool := !hasN ((E t.fr).getD sh0).kn x.fr || !hasN ((E t.tt).getD sh0).kn x.tt
def tieS (X : ByteArray → Option Bd) (E : En) (l : List Ft) (t : Te) : List Ft := match X t.bd with
  | none => l ++ [⟨5, t.fr, t.bd⟩]
  | some x => if badE E t x = true then l ++ [⟨6, t.fr, t.bd⟩] else l
def tieF (X : ByteArray → Option Bd) (E : En) (T : List Te) : List Ft := T.foldl (tieS X E) []
/-- All of them. -/
def allF (L : List Kd) (B : List Bd) (N : List Nd) (T : List Te) : List Ft := nodeF (shO L B L) (outO T) N ++ tieF (bdO B) (endO (shO L B L) N) T
/-- The error of what comes in. -/
def inE (L : List Kd) (B : List Bd) (N : List Nd) (T : List Te) : Int := if (sErr L B).2 = 0 then gErr N T else (sErr L B).2

/-- A shape lies there. -/
def IsSh (w : World) (v : Value) (h : Sh) : Prop := ∃ vk vf vb, v = .agg #[vk, vf, vb] ∧ IsS w vk h.kn ∧ IsF w vf h.fs ∧ IsB w vb h.bn
theorem IsSh.on {w w' : World} {v : Value} {h : Sh} (hs : IsSh w v h) (hB : Below w.heap.size w w') : IsSh w' v h := by
  obtain ⟨a, b, c, rfl, h1, h2, h3⟩ := hs
  exact ⟨a, b, c, rfl, h1.on hB, h2.on hB, h3.on hB⟩
theorem isSh0 (w : World) : IsSh w (.agg #[.slice none 0 0, .slice none 0 0, .slice none 0 0]) sh0 :=
  ⟨_, _, _, rfl, .inl ⟨none, 0, rfl, rfl, Nat.zero_le _, fun _ => rfl⟩, .inl ⟨none, 0, rfl, rfl, Nat.zero_le _, fun _ => rfl⟩, .inl ⟨rfl, rfl⟩⟩
/-- What a map of shapes holds of one key. -/
def ShR (w : World) (o : Option Value) (h : Option Sh) : Prop := (o = none ∧ h = none) ∨ ∃ v s, o = some v ∧ h = some s ∧ IsSh w v s
theorem ShR.on {w w' : World} {o : Option Value} {h : Option Sh} (hs : ShR w o h) (hB : Below w.heap.size w w') : ShR w' o h := by
  rcases hs with h | ⟨v, s, h1, h2, h3⟩
  · exact .inl h
  · exact .inr ⟨v, s, h1, h2, h3.on hB⟩
theorem ShR.getD {w : World} {o : Option Value} {h : Option Sh} (hs : ShR w o h) : IsSh w (o.getD (.agg #[.slice none 0 0, .slice none 0 0, .slice none 0 0])) (h.getD sh0) := by
  rcases hs with ⟨rfl, rfl⟩ | ⟨v, s, rfl, rfl, h3⟩
  · exact isSh0 w
  · exact h3
theorem ShR.some {w : World} {o : Option Value} {h : Option Sh} (hs : ShR w o h) : o.isSome = h.isSome := by
  rcases hs with ⟨rfl, rfl⟩ | ⟨v, s, rfl, rfl, h3⟩ <;> rfl
/-- Block b is a map of shapes. -/
def MapSh {κ : Type} (w : World) (k : TypeId) (enc : κ → Value) (b : Nat) (H : κ → Option Sh) : Prop := ∃ F, OwnM w Try.prog k enc b F ∧ ∀ x, ShR w (F x) (H x)
/-- Block b is a map of bonds. -/
def MapBd (w : World) (b : Nat) (X : ByteArray → Option Bd) : Prop := OwnM w Try.prog 9 encS b (fun x => (X x).map Bd.one)
/-- Block b is a map of numbers. -/
def MapIn {κ : Type} (w : World) (k : TypeId) (enc : κ → Value) (b : Nat) (T : κ → Option Int) : Prop := OwnM w Try.prog k enc b (fun x => (T x).map (.int .i64))
theorem MapSh.on {κ : Type} {w w' : World} {k : TypeId} {enc : κ → Value} {b : Nat} {H : κ → Option Sh} (h : MapSh w k enc b H) (hB : Below w.heap.size w w') : MapSh w' k enc b H := by
  obtain ⟨F, h1, h2⟩ := h
  exact ⟨F, h1.of_block (hB.block _ h1.lt), fun x => (h2 x).on hB⟩
theorem MapBd.on {w w' : World} {b : Nat} {X : ByteArray → Option Bd} (h : MapBd w b X) (hB : Below w.heap.size w w') : MapBd w' b X := OwnM.of_block h (hB.block _ (OwnM.lt h))
theorem MapIn.on {κ : Type} {w w' : World} {k : TypeId} {enc : κ → Value} {b : Nat} {T : κ → Option Int} (h : MapIn w k enc b T) (hB : Below w.heap.size w w') : MapIn w' k enc b T := OwnM.of_block h (hB.block _ (OwnM.lt h))
/-- The value is this plan. -/
def IsPl (w : World) (v : Value) (H : ByteArray → Option Sh) (X : ByteArray → Option Bd) : Prop := ∃ b1 b2, v = .agg #[.map (some b1), .map (some b2)] ∧ MapSh w 9 encS b1 H ∧ MapBd w b2 X
theorem IsPl.on {w w' : World} {v : Value} {H : ByteArray → Option Sh} {X : ByteArray → Option Bd} (h : IsPl w v H X) (hB : Below w.heap.size w w') : IsPl w' v H X := by
  obtain ⟨b1, b2, h0, h1, h2⟩ := h
  exact ⟨b1, b2, h0, h1.on hB, h2.on hB⟩
theorem infoX : (Try.prog.info? 40).map (fun i => (i.zero, i.size, i.bytes)) = some (some (.agg #[.int .i64 0, .int .i64 0, .string ⟨#[]⟩]), 3, 32) := by kernel_rfl
/-- The value is this list of faults, of the call's own. -/
abbrev OwnX (w : World) (base : Nat) (v : Value) (l : List Ft) : Prop := w.ownsRow base 40 3 v l.length (cellsX l)
/-- All but one block stays. -/
abbrev But (b : Nat) (w w' : World) : Prop := w.grownBy w' (some b)

theorem foldl_take {α β : Type} (f : β → α → β) (a : β) {l : List α} {k : Nat} {x : α} (h : l[k]? = some x) : (l.take (k + 1)).foldl f a = f ((l.take k).foldl f a) x := by
  rw [takeK h, List.foldl_append]; rfl
end Go.Proofs.Ytjjnfnlkfojehaa
