import Derived.Test.YtahamkajkkkjdaaGreatDoorM09
import Derived.Test.YtahamkajkkkjdaaGreatDoorM10
import Derived.Test.YtahamkajkkkjdaaGreatDoorM12
import Derived.Test.YtahamkajkkkjdaaGreatDoorM13
import Derived.Laws.AppendOwnNone
import Derived.Lib.Hide
namespace Go.Proofs.YtahamkajkkkjdaaGreatDoor
open Go.RowKit
set_option linter.unusedVariables false
set_option linter.unusedSimpArgs false
structure Ft where
  wh : Int
  id : Int
  nm : ByteArray
def Ft.cells (f : Ft) : List Value := [.int .i64 f.wh, .int .i64 f.id, .string f.nm]
def cellsX (l : List Ft) : List Value := l.flatMap Ft.cells
theorem cellsX_snoc (l : List Ft) (f : Ft) : cellsX (l ++ [f]) = cellsX l ++ f.cells := by simp [cellsX]
theorem cellsX_app (l m : List Ft) : cellsX (l ++ m) = cellsX l ++ cellsX m := by simp [cellsX]
theorem cellsX_len (l : List Ft) : (cellsX l).length = l.length * 3 := by
  induction l with
  | nil => rfl
  | cons f r ih => simp [cellsX, Ft.cells] at ih ⊢; omega
structure Sh where
  kn : List Nm
  fs : List Fd
  bn : List Bd
def sh0 : Sh := ⟨[], [], []⟩
def shp (L : List Kd) (B : List Bd) (a : Nm) : Sh := ⟨nms (kin L a), fields L a, B.filter fun x => hasN (nms (kin L a)) x.fr⟩
def shO (L : List Kd) (B : List Bd) (M : List Kd) : ByteArray → Option Sh := M.foldl (fun F k => upd F (bs k.nm) (shp L B k.nm)) (fun _ => none)
def bdO (B : List Bd) : ByteArray → Option Bd := B.foldl (fun F x => upd F (bs x.nm) x) (fun _ => none)
def fit1 (p : Pr) (f : Fd) : Bool := f.nm == p.nm.toList && f.t == p.t
def fits (fs : List Fd) (p : Pr) : Bool := fs.any (fit1 p)
def propS (fs : List Fd) (id : Int) (l : List Ft) (p : Pr) : List Ft := if fits fs p = true then l else l ++ [⟨2, id, p.nm⟩]
def propF (fs : List Fd) (id : Int) (rc : List Pr) : List Ft := rc.foldl (propS fs id) []
def getP (nm : Nm) (rc : List Pr) : Option Pr := if idxP nm rc 0 = -1 then none else rc[(idxP nm rc 0).toNat]?
def valP (o : Option Pr) : Int × Int × ByteArray := match o with
  | some p => (p.t, p.n, p.s)
  | none => (0, 0, ⟨#[]⟩)
def keyP (rc : List Pr) (f : Fd) : KeyV := (bs f.nm, valP (getP f.nm rc))
abbrev Tk := KeyV → Option Int
def noF (rc : List Pr) (f : Fd) : Bool := f.must && (getP f.nm rc).isNone
def sameF (rc : List Pr) (T : Tk) (f : Fd) : Bool := (f.key && (valP (getP f.nm rc)).1 == f.t) && (T (keyP rc f)).getD 0 != 0
def fieldS (id : Int) (rc : List Pr) (S : List Ft × Tk) (f : Fd) : List Ft × Tk :=
  if noF rc f = true then (S.1 ++ [⟨3, id, bs f.nm⟩], S.2) else if sameF rc S.2 f = true then (S.1 ++ [⟨4, id, bs f.nm⟩], S.2) else if f.key = true then (S.1, upd S.2 (keyP rc f) id) else S
def fieldF (fs : List Fd) (id : Int) (rc : List Pr) (T : Tk) : List Ft × Tk := fs.foldl (fieldS id rc) ([], T)
def ownF (h : Option Sh) (n : Nd) (T : Tk) : List Ft × Tk := match h with
  | none => ([⟨1, n.id, n.kd⟩], T)
  | some h => (propF h.fs n.id n.rc ++ (fieldF h.fs n.id n.rc T).1, (fieldF h.fs n.id n.rc T).2)
abbrev Ou := EndV → Option Int
def outS (O : Ou) (t : Te) : Ou := upd O (t.bd, t.fr) ((O (t.bd, t.fr)).getD 0 + 1)
def outO (T : List Te) : Ou := T.foldl outS (fun _ => none)
def cnt (O : Ou) (id : Int) (x : Bd) : Int := (O (bs x.nm, id)).getD 0
def bondS (id : Int) (O : Ou) (l : List Ft) (x : Bd) : List Ft :=
  if cnt O id x < x.mn then l ++ [⟨7, id, bs x.nm⟩] else if (decide (0 ≤ x.mx) && decide (x.mx < cnt O id x)) = true then l ++ [⟨8, id, bs x.nm⟩] else l
def bondF (bn : List Bd) (id : Int) (O : Ou) : List Ft := bn.foldl (bondS id O) []
def nodeS (H : ByteArray → Option Sh) (O : Ou) (S : List Ft × Tk) (n : Nd) : List Ft × Tk :=
  (S.1 ++ (ownF (H n.kd) n S.2).1 ++ bondF ((H n.kd).getD sh0).bn n.id O, (ownF (H n.kd) n S.2).2)
def nodeF (H : ByteArray → Option Sh) (O : Ou) (N : List Nd) : List Ft := (N.foldl (nodeS H O) ([], fun _ => none)).1
abbrev En := Int → Option Sh
def endS (H : ByteArray → Option Sh) (E : En) (n : Nd) : En := upd E n.id ((H n.kd).getD sh0)
def endO (H : ByteArray → Option Sh) (N : List Nd) : En := N.foldl (endS H) (fun _ => none)
def badE (E : En) (t : Te) (x : Bd) : Bool := !hasN ((E t.fr).getD sh0).kn x.fr || !hasN ((E t.tt).getD sh0).kn x.tt
def tieS (X : ByteArray → Option Bd) (E : En) (l : List Ft) (t : Te) : List Ft := match X t.bd with
  | none => l ++ [⟨5, t.fr, t.bd⟩]
  | some x => if badE E t x = true then l ++ [⟨6, t.fr, t.bd⟩] else l
def tieF (X : ByteArray → Option Bd) (E : En) (T : List Te) : List Ft := T.foldl (tieS X E) []
def allF (L : List Kd) (B : List Bd) (N : List Nd) (T : List Te) : List Ft := nodeF (shO L B L) (outO T) N ++ tieF (bdO B) (endO (shO L B L) N) T
def inE (L : List Kd) (B : List Bd) (N : List Nd) (T : List Te) : Int := if (sErr L B).2 = 0 then gErr N T else (sErr L B).2
def IsSh (w : World) (v : Value) (h : Sh) : Prop := ∃ vk vf vb, v = .agg #[vk, vf, vb] ∧ IsS w vk h.kn ∧ IsF w vf h.fs ∧ IsB w vb h.bn
theorem IsSh.on {w w' : World} {v : Value} {h : Sh} (hs : IsSh w v h) (hB : Below w.heap.size w w') : IsSh w' v h := by
  obtain ⟨a, b, c, rfl, h1, h2, h3⟩ := hs
  exact ⟨a, b, c, rfl, h1.on hB, h2.on hB, h3.on hB⟩
theorem isSh0 (w : World) : IsSh w (.agg #[.slice none 0 0, .slice none 0 0, .slice none 0 0]) sh0 :=
  ⟨_, _, _, rfl, .inl ⟨none, 0, rfl, rfl, Nat.zero_le _, fun _ => rfl⟩, .inl ⟨none, 0, rfl, rfl, Nat.zero_le _, fun _ => rfl⟩, .inl ⟨rfl, rfl⟩⟩
def ShR (w : World) (o : Option Value) (h : Option Sh) : Prop := (o = none ∧ h = none) ∨ ∃ v s, o = some v ∧ h = some s ∧ IsSh w v s
theorem ShR.on {w w' : World} {o : Option Value} {h : Option Sh} (hs : ShR w o h) (hB : Below w.heap.size w w') : ShR w' o h := by
  rcases hs with h | ⟨v, s, h1, h2, h3⟩
  · exact .inl h
  · exact .inr ⟨v, s, h1, h2, h3.on hB⟩
theorem ShR.getD {w : World} {o : Option Value} {h : Option Sh} (hs : ShR w o h) : IsSh w (o.getD (.agg #[.slice none 0 0, .slice none 0 0, .slice none 0 0])) (h.getD sh0) := by
  rcases hs with ⟨rfl, rfl⟩ | ⟨v, s, rfl, rfl, h3⟩
  · exact isSh0 w
  · exact h3
theorem ShR.some {w : World} {o : Option Value} {h : Option Sh} (hs : ShR w o h) : o.isSome = h.isSome := by
  rcases hs with ⟨rfl, rfl⟩ | ⟨v, s, rfl, rfl, h3⟩ <;> rfl
def MapSh {κ : Type} (w : World) (k : TypeId) (enc : κ → Value) (b : Nat) (H : κ → Option Sh) : Prop := ∃ F, OwnM w Tryz.prog k enc b F ∧ ∀ x, ShR w (F x) (H x)
def MapBd (w : World) (b : Nat) (X : ByteArray → Option Bd) : Prop := OwnM w Tryz.prog 9 encS b (fun x => (X x).map Bd.one)
def MapIn {κ : Type} (w : World) (k : TypeId) (enc : κ → Value) (b : Nat) (T : κ → Option Int) : Prop := OwnM w Tryz.prog k enc b (fun x => (T x).map (.int .i64))
theorem MapSh.on {κ : Type} {w w' : World} {k : TypeId} {enc : κ → Value} {b : Nat} {H : κ → Option Sh} (h : MapSh w k enc b H) (hB : Below w.heap.size w w') : MapSh w' k enc b H := by
  obtain ⟨F, h1, h2⟩ := h
  exact ⟨F, h1.of_block (hB.block _ h1.lt), fun x => (h2 x).on hB⟩
theorem MapBd.on {w w' : World} {b : Nat} {X : ByteArray → Option Bd} (h : MapBd w b X) (hB : Below w.heap.size w w') : MapBd w' b X := OwnM.of_block h (hB.block _ (OwnM.lt h))
theorem MapIn.on {κ : Type} {w w' : World} {k : TypeId} {enc : κ → Value} {b : Nat} {T : κ → Option Int} (h : MapIn w k enc b T) (hB : Below w.heap.size w w') : MapIn w' k enc b T := OwnM.of_block h (hB.block _ (OwnM.lt h))
def IsPl (w : World) (v : Value) (H : ByteArray → Option Sh) (X : ByteArray → Option Bd) : Prop := ∃ b1 b2, v = .agg #[.map (some b1), .map (some b2)] ∧ MapSh w 9 encS b1 H ∧ MapBd w b2 X
theorem IsPl.on {w w' : World} {v : Value} {H : ByteArray → Option Sh} {X : ByteArray → Option Bd} (h : IsPl w v H X) (hB : Below w.heap.size w w') : IsPl w' v H X := by
  obtain ⟨b1, b2, h0, h1, h2⟩ := h
  exact ⟨b1, b2, h0, h1.on hB, h2.on hB⟩
theorem infoX : (Tryz.prog.info? 300).map (fun i => (i.zero, i.size, i.bytes)) = some (some (.agg #[.int .i64 0, .int .i64 0, .string ⟨#[]⟩]), 3, 32) := by kernel_rfl
abbrev OwnX (w : World) (base : Nat) (v : Value) (l : List Ft) : Prop := w.ownsRow base 300 3 v l.length (cellsX l)
theorem foldl_take {α β : Type} (f : β → α → β) (a : β) {l : List α} {k : Nat} {x : α} (h : l[k]? = some x) : (l.take (k + 1)).foldl f a = f ((l.take k).foldl f a) x := by
  rw [takeK h, List.foldl_append]; rfl
set_option maxHeartbeats 1000000 in
theorem is_any {v : Value} {h : Sh} {w : World} (hs : IsSh w v h) (hn : h.kn.length ≤ 1000) (s : Nm) :
    Calls Tryz.prog 157 #[v, .string (bs s)] w fun e w' => e = .returned (.bool (hasN h.kn s)) ∧ Below w.heap.size w w' := by
  obtain ⟨vk, vf, vb, rfl, h1, h2, h3⟩ := hs
  have HK : Hid (IsS w vk h.kn) := h1
  obtain ⟨a1, c1, rfl, _⟩ := h1.sln
  obtain ⟨a2, c2, rfl, _⟩ := h2.sln
  obtain ⟨a3, c3, rfl, _⟩ := h3.sln
  have hB0 : Below w.heap.size w (w.alloc (.cells #[.slice a1 h.kn.length c1, .slice a2 h.fs.length c2, .slice a3 h.bn.length c3] 289)) := b_allocKC (Below.refl _ _) (Nat.le_refl _) _
  have c := contains_any (HK.out.on hB0) hn s
  clear h1 h2 h3
  go_enter Tryz.func157, Tryz.ntmps157
  go_wp2_with (go_at_call 66; refine c.mono ?_; rintro e w' ⟨rfl, rfl⟩)
  go_ret
  exact ⟨rfl, hB0⟩
set_option maxHeartbeats 1000000 in
theorem fit_any (f : Fd) (b : Nat) (p : Pr) (w : World) (c0 : w.cell? ⟨b, 0, none⟩ = some (.string p.nm)) (c1 : w.cell? ⟨b, 1, none⟩ = some (.int .i64 p.t)) (hb : b < w.heap.size) :
    Calls Tryz.prog 224 #[f.one, .pointer (some ⟨b, 0, none⟩)] w fun e w' => e = .returned (.bool (fit1 p f)) ∧ w' = w.alloc (.cells #[.string (bs f.nm), .int .i64 f.t, .bool f.must, .bool f.key] 56) := by
  have hbn : ¬ b = w.heap.size := by omega
  obtain ⟨nm, t, mu, ky⟩ := f
  cases hq : (nm == p.nm.toList)
  · have H : Hid (fit1 p ⟨nm, t, mu, ky⟩ = false) := by show _ = _; unfold fit1; simp only; rw [hq]; rfl
    go_enter Tryz.func224, Tryz.ntmps224
    go_wp2
    go_ret
    exact ⟨ret_v (by rw [H.out]; rfl), rfl⟩
  · have H : Hid (fit1 p ⟨nm, t, mu, ky⟩ = (t == p.t)) := by show _ = _; unfold fit1; simp only; rw [hq]; rfl
    go_enter Tryz.func224, Tryz.ntmps224
    go_wp2
    go_ret
    exact ⟨ret_v (by rw [H.out]; rfl), rfl⟩
def idxTC (p : Pr) : List Fd → Nat → Int
  | [], _ => -1
  | f :: r, k => if fit1 p f = true then k else idxTC p r (k + 1)
theorem idxT_has (p : Pr) (L : List Fd) : ∀ k, decide (0 ≤ idxTC p L k) = fits L p := by
  induction L with
  | nil => intro k; simp [idxTC, fits]
  | cons f r ih =>
    intro k
    unfold idxTC
    by_cases h : fit1 p f = true
    · rw [if_pos h]; simp [fits, h]
    · rw [if_neg h, ih]; simp [fits, h]
set_option maxHeartbeats 4000000 in
set_option maxRecDepth 100000 in
theorem idxT_some (b off cap : Nat) (L : List Fd) (bn : Nat) (p : Pr) (w : World) (hb : b < w.heap.size) (hL : LiesF w b off L) (hn : L.length ≤ 8) (hbn : bn < w.heap.size) (c0 : w.cell? ⟨bn, 0, none⟩ = some (.string p.nm)) (c1 : w.cell? ⟨bn, 1, none⟩ = some (.int .i64 p.t)) :
    Calls Tryz.prog 242 #[.slice (some ⟨b, off, none⟩) L.length cap, .func (.func 224) #[] #[.pointer (some ⟨bn, 0, none⟩)]] w fun e w' => e = .returned (.int .i64 (idxTC p L 0)) ∧ Below w.heap.size w w' := by
  go_enter Tryz.func242, Tryz.ntmps242
  go_wp2
  go_loopw [8] (fun i wr => ∃ k : Nat, k ≤ L.length ∧ i = .int .i64 k ∧ idxTC p L 0 = idxTC p (L.drop k) k ∧ Below w.heap.size w wr) (fun i _ => L.length - (intOf i).toNat)
  case atStart => exact ⟨0, Nat.zero_le _, rfl, rfl, Below.refl _ _⟩
  case round =>
    obtain ⟨k, hk, rfl, hi, hB⟩ := hrel
    have HI : Hid (idxTC p L 0 = idxTC p (L.drop k) k) := hi
    clear hi
    by_cases hlt : k < L.length
    · obtain ⟨f, hf⟩ : ∃ f, L[k]? = some f := ⟨L[k], by simp [hlt]⟩
      obtain ⟨e0, e1, e2, e3⟩ := hL k f hf
      have d0 := (hB.cell (p := ⟨b, off + k * 4, none⟩) hb).trans e0
      have d1 := (hB.cell (p := ⟨b, off + k * 4 + 1, none⟩) hb).trans e1
      have d2 := (hB.cell (p := ⟨b, off + k * 4 + 2, none⟩) hb).trans e2
      have d3 := (hB.cell (p := ⟨b, off + k * 4 + 3, none⟩) hb).trans e3
      have HD : Hid (L.drop k = f :: L.drop (k + 1)) := dropK hf
      have cn := fit_any f bn p wr ((hB.cell (p := ⟨bn, 0, none⟩) hbn).trans c0) ((hB.cell (p := ⟨bn, 1, none⟩) hbn).trans c1) (Nat.lt_of_lt_of_le hbn hB.size)
      clear e0 e1 e2 e3 hf hL c0 c1
      by_cases hq : fit1 p f = true
      · have H : Hid (idxTC p L 0 = k) := by
          show _ = _
          rw [HI.out, HD.out]; unfold idxTC; rw [if_pos hq]
        rw [hq] at cn
        clear HI HD hq
        go_wp2_with (go_at_call 224; refine cn.mono ?_; rintro e w' ⟨rfl, rfl⟩)
        go_ret
        exact ⟨ret_v (by rw [H.out]; rfl), b_allocKC hB (Nat.le_refl _) _⟩
      · have H : Hid (idxTC p L 0 = idxTC p (L.drop (k + 1)) (k + 1)) := by
          show _ = _
          rw [HI.out, HD.out]; conv => lhs; unfold idxTC
          rw [if_neg hq]
        have hq' : fit1 p f = false := by simpa using hq
        rw [hq'] at cn
        clear HI HD hq hq'
        go_wp2_with (go_at_call 224; refine cn.mono ?_; rintro e w' ⟨rfl, rfl⟩)
        go_roundw
        case rel => exact ⟨k + 1, by omega, by go_num, H.out, b_allocKC hB (Nat.le_refl _) _⟩
        case measure => simp [intOf]; omega
    · have hd : L.drop k = [] := List.drop_eq_nil_of_le (by omega)
      have H : Hid (idxTC p L 0 = -1) := by
        show _ = _
        rw [HI.out, hd]; rfl
      clear HI hd hL c0 c1
      go_wp2
      go_ret
      exact ⟨ret_v (by rw [H.out]; rfl), hB⟩
set_option maxHeartbeats 1000000 in
theorem idxT_nil (ao : Option Addr) (c : Nat) (f : Value) (w : World) :
    Calls Tryz.prog 242 #[.slice ao 0 c, f] w fun e w' => e = .returned (.int .i64 (-1)) ∧ Below w.heap.size w w' := by
  go_enter Tryz.func242, Tryz.ntmps242
  go_wp2
  go_loopw [8] (fun i wr => i = .int .i64 0 ∧ wr = w) (fun i _ => 0)
  case atStart => exact ⟨rfl, rfl⟩
  case round =>
    obtain ⟨rfl, rfl⟩ := hrel
    go_wp2
    go_ret
    exact ⟨rfl, Below.refl _ _⟩
theorem idxT_any {v : Value} {L : List Fd} {w : World} (h : IsF w v L) (hn : L.length ≤ 8) (bn : Nat) (p : Pr) (hbn : bn < w.heap.size) (c0 : w.cell? ⟨bn, 0, none⟩ = some (.string p.nm)) (c1 : w.cell? ⟨bn, 1, none⟩ = some (.int .i64 p.t)) :
    Calls Tryz.prog 242 #[v, .func (.func 224) #[] #[.pointer (some ⟨bn, 0, none⟩)]] w fun e w' => e = .returned (.int .i64 (idxTC p L 0)) ∧ Below w.heap.size w w' := by
  rcases h with ⟨ao, c, rfl, rfl, _⟩ | ⟨b, off, cap, rfl, hcap, hm, hb, hl⟩
  · exact idxT_nil _ _ _ w
  · exact idxT_some b off cap L bn p w hb hl hn hbn c0 c1
set_option maxHeartbeats 1000000 in
theorem fits_any {v : Value} {L : List Fd} {w : World} (h : IsF w v L) (hn : L.length ≤ 8) (bn : Nat) (p : Pr) (hbn : bn < w.heap.size) (c0 : w.cell? ⟨bn, 0, none⟩ = some (.string p.nm)) (c1 : w.cell? ⟨bn, 1, none⟩ = some (.int .i64 p.t)) :
    Calls Tryz.prog 225 #[v, .func (.func 224) #[] #[.pointer (some ⟨bn, 0, none⟩)]] w fun e w' => e = .returned (.bool (fits L p)) ∧ Below w.heap.size w w' := by
  have c := idxT_any h hn bn p hbn c0 c1
  have H : Hid (decide (0 ≤ idxTC p L 0) = fits L p) := idxT_has p L 0
  generalize idxTC p L 0 = r at c H
  clear h hn c0 c1
  go_enter Tryz.func225, Tryz.ntmps225
  go_wp2_with (go_at_call 242; refine c.mono ?_; rintro e w' ⟨rfl, hB1⟩)
  go_ret
  exact ⟨ret_v (by rw [← H.out]; rfl), hB1⟩
theorem fold_len {α : Type} (f : List Ft → α → List Ft) (hf : ∀ l x, (f l x).length ≤ l.length + 1) (L : List α) : ∀ l, (L.foldl f l).length ≤ l.length + L.length := by
  induction L with
  | nil => intro l; simp
  | cons x r ih =>
    intro l
    simp only [List.foldl_cons, List.length_cons]
    have := ih (f l x)
    have := hf l x
    omega
theorem propS_len (fs : List Fd) (id : Int) (l : List Ft) (p : Pr) : (propS fs id l p).length ≤ l.length + 1 := by
  unfold propS; split <;> simp
theorem propF_len (fs : List Fd) (id : Int) (rc : List Pr) : (propF fs id rc).length ≤ rc.length := by
  have := fold_len (propS fs id) (propS_len fs id) rc []
  simpa [propF] using this
def XPost (w : World) (l : List Ft) (e : Ending) (w' : World) : Prop := ∃ u, e = .returned u ∧ OwnX w' w.heap.size u l ∧ Below w.heap.size w w'
theorem cell_atC {w : World} {b i : Nat} {cs : Array Value} {t : TypeId} {u : Value} (h : w.heap[b]? = some (.cells cs t (0, 0))) (hu : cs[i]? = some u) : w.cell? ⟨b, i, none⟩ = some u := by simp [World.cell?, h, hu]
theorem frz_atC {w : World} {b i : Nat} {cs : Array Value} {t : TypeId} (h : w.heap[b]? = some (.cells cs t (0, 0))) : w.frozen? ⟨b, i, none⟩ = false := by simp [World.frozen?, h]
abbrev box2 (w : World) (c1 : Array Value) (t1 : TypeId) (c2 : Array Value) (t2 : TypeId) : World := (w.alloc (.cells c1 t1)).alloc (.cells c2 t2)
theorem box2_below (w : World) (c1 : Array Value) (t1 : TypeId) (c2 : Array Value) (t2 : TypeId) : Below w.heap.size w (box2 w c1 t1 c2 t2) := b_allocKC (b_allocKC (Below.refl _ _) (Nat.le_refl _) _) (Nat.le_refl _) _
theorem box2_size (w : World) (c1 : Array Value) (t1 : TypeId) (c2 : Array Value) (t2 : TypeId) : (box2 w c1 t1 c2 t2).heap.size = w.heap.size + 2 := by simp [box2]
theorem box2_a (w : World) (c1 : Array Value) (t1 : TypeId) (c2 : Array Value) (t2 : TypeId) {i : Nat} {u : Value} (h : c1[i]? = some u) : (box2 w c1 t1 c2 t2).cell? ⟨w.heap.size, i, none⟩ = some u := by
  have h1 : (box2 w c1 t1 c2 t2).heap[w.heap.size]? = some (.cells c1 t1) := (Below.heap_alloc _ _ _ (by simp)).trans (heap_alloc_new w _)
  exact cell_atC h1 h
theorem box2_b (w : World) (c1 : Array Value) (t1 : TypeId) (c2 : Array Value) (t2 : TypeId) {i : Nat} {u : Value} (h : c2[i]? = some u) : (box2 w c1 t1 c2 t2).cell? ⟨w.heap.size + 1, i, none⟩ = some u := by
  have h1 : (box2 w c1 t1 c2 t2).heap[w.heap.size + 1]? = some (.cells c2 t2) := by
    have := heap_alloc_new (w.alloc (.cells c1 t1)) (.cells c2 t2)
    rwa [World.size_alloc] at this
  exact cell_atC h1 h
theorem IsR.at {w : World} {v : Value} {L : List Pr} (h : IsR w v L) {k : Nat} {p : Pr} (hp : L[k]? = some p) : ∃ b off c, v = .slice (some ⟨b, off, none⟩) L.length c ∧ b < w.heap.size ∧ w.cell? ⟨b, off + k * 4, none⟩ = some (.string p.nm) ∧ w.cell? ⟨b, off + k * 4 + 1, none⟩ = some (.int .i64 p.t) ∧ w.cell? ⟨b, off + k * 4 + 2, none⟩ = some (.int .i64 p.n) ∧ w.cell? ⟨b, off + k * 4 + 3, none⟩ = some (.string p.s) := by
  obtain ⟨ao, c, rfl, rfl | ⟨b, off, rfl, hb, hL⟩⟩ := h
  · simp at hp
  · exact ⟨b, off, c, rfl, hb, hL k p hp⟩
theorem two_new (w : World) (x : Array Value) (t : TypeId) {i : Nat} {u : Value} (h : x[i]? = some u) : (w.alloc (.cells x t)).cell? ⟨w.heap.size, i, none⟩ = some u := cell_atC (heap_alloc_new w _) h
theorem ft_one (f : Ft) : ∀ u ∈ f.cells, u.oneCell' = true := by simp [Ft.cells, Value.oneCell']
theorem own_more {W0 wr W2 w1 : World} {B : Nat} {u : Value} {l : List Ft} {o : Obj} (hO : OwnX wr B u l) (hB : Below B W0 wr) (hBW : B ≤ wr.heap.size) (h2 : Below wr.heap.size wr W2) (hg : (W2.alloc o).grownBy w1 u.ownBlock) : Below B W0 w1 := by
  have h3 : Below B W0 (W2.alloc o) := (hB.trans (h2.mono hBW)).alloc (Nat.le_trans hBW h2.size) o
  exact h3.grown hg (by have := h2.size; simp; omega) (fun g hg' => (hO.lt g hg').1)
set_option maxHeartbeats 4000000 in
set_option maxRecDepth 100000 in
theorem propFaults_any {v : Value} {h : Sh} {n : Nd} {w : World} (hs : IsSh w v h) (hf8 : h.fs.length ≤ 8) (hr : IsR w n.rv n.rc) (hr8 : n.rc.length ≤ 8) : Calls Tryz.prog 195 #[v, n.one] w (XPost w (propF h.fs n.id n.rc)) := by
  obtain ⟨i0, hi0, hz0, hz1, hz2⟩ := info_parts infoX
  obtain ⟨vk, vf, vb, rfl, h1, h2, h3⟩ := hs
  have HF : Hid (IsF w vf h.fs) := h2
  obtain ⟨a1, c1, rfl, _⟩ := h1.sln
  obtain ⟨a2, c2, rfl, _⟩ := h2.sln
  obtain ⟨a3, c3, rfl, _⟩ := h3.sln
  obtain ⟨id, kd, rv, rc⟩ := n
  simp only at hr hr8 ⊢
  have HR : Hid (IsR w rv rc) := hr
  obtain ⟨av, cv, rfl, _⟩ := hr
  obtain ⟨fs, hfs⟩ : ∃ fs, fs = h.fs := ⟨_, rfl⟩
  rw [← hfs] at HF hf8 ⊢
  generalize h.kn.length = lk
  generalize h.bn.length = lb
  clear hfs h1 h2 h3
  have HB0 : Hid (Below w.heap.size w (box2 w #[.slice a1 lk c1, .slice a2 fs.length c2, .slice a3 lb c3] 289 #[.int .i64 id, .string kd, .slice av rc.length cv] 40)) := box2_below _ _ _ _ _
  have HC : Hid ((box2 w #[.slice a1 lk c1, .slice a2 fs.length c2, .slice a3 lb c3] 289 #[.int .i64 id, .string kd, .slice av rc.length cv] 40).cell? ⟨w.heap.size, 1, none⟩ = some (.slice a2 fs.length c2) ∧ (box2 w #[.slice a1 lk c1, .slice a2 fs.length c2, .slice a3 lb c3] 289 #[.int .i64 id, .string kd, .slice av rc.length cv] 40).cell? ⟨w.heap.size + 1, 0, none⟩ = some (.int .i64 id)) := ⟨box2_a _ _ _ _ _ rfl, box2_b _ _ _ _ _ rfl⟩
  go_enter Tryz.func195, Tryz.ntmps195
  go_wp2
  go_loopw [4, 11] (fun u i wr => ∃ k : Nat, k ≤ rc.length ∧ i = .int .i64 k ∧ OwnX wr (w.heap.size + 2) u ((rc.take k).foldl (propS fs id) []) ∧ Below (w.heap.size + 2) (box2 w #[.slice a1 lk c1, .slice a2 fs.length c2, .slice a3 lb c3] 289 #[.int .i64 id, .string kd, .slice av rc.length cv] 40) wr) (fun _ i _ => rc.length - (intOf i).toNat)
  case atStart => exact ⟨0, Nat.zero_le _, rfl, World.ownsRow_nil _ _ _ _, Below.refl _ _⟩
  case round =>
    obtain ⟨k, hk, rfl, hO, hB⟩ := hrel
    have g1 : wr.cell? ⟨w.heap.size, 1, none⟩ = some (.slice a2 fs.length c2) := (hB.cell (by simp)).trans HC.out.1
    have g2 : wr.cell? ⟨w.heap.size + 1, 0, none⟩ = some (.int .i64 id) := (hB.cell (by simp)).trans HC.out.2
    have hws : w.heap.size + 2 ≤ wr.heap.size := by have := hB.size; rw [box2_size] at this; exact this
    have HW : Hid (Below w.heap.size w wr) := HB0.out.trans (hB.mono (by omega))
    have HB : Hid (Below (w.heap.size + 2) (box2 w #[.slice a1 lk c1, .slice a2 fs.length c2, .slice a3 lb c3] 289 #[.int .i64 id, .string kd, .slice av rc.length cv] 40) wr) := hB
    have HO : Hid (OwnX wr (w.heap.size + 2) u4 ((rc.take k).foldl (propS fs id) [])) := hO
    clear hO hB
    by_cases hlt : k < rc.length
    · obtain ⟨p, hp⟩ : ∃ p, rc[k]? = some p := ⟨rc[k], by simp [hlt]⟩
      obtain ⟨b, off, c, hv, hb, e0, e1, e2, e3⟩ := HR.out.at hp
      injection hv with hv1 hv2 hv3
      subst hv1 hv3
      clear hv2
      have d0 := (HW.out.cell (p := ⟨b, off + k * 4, none⟩) hb).trans e0
      have d1 := (HW.out.cell (p := ⟨b, off + k * 4 + 1, none⟩) hb).trans e1
      have d2 := (HW.out.cell (p := ⟨b, off + k * 4 + 2, none⟩) hb).trans e2
      have d3 := (HW.out.cell (p := ⟨b, off + k * 4 + 3, none⟩) hb).trans e3
      have HT : Hid ((rc.take (k + 1)).foldl (propS fs id) [] = propS fs id ((rc.take k).foldl (propS fs id) []) p) := foldl_take _ _ hp
      have hB1 : Below wr.heap.size wr (wr.alloc (.cells #[.string p.nm, .int .i64 p.t, .int .i64 p.n, .string p.s] 44)) := b_allocKC (Below.refl _ _) (Nat.le_refl _) _
      have HB1 : Hid (Below wr.heap.size wr (wr.alloc (.cells #[.string p.nm, .int .i64 p.t, .int .i64 p.n, .string p.s] 44))) := hB1
      have cf := fits_any ((HF.out.on HW.out).on hB1) hf8 wr.heap.size p (by simp) (two_new _ _ _ rfl) (two_new _ _ _ rfl)
      have HP : Hid (∀ W2, Below (wr.alloc (.cells #[.string p.nm, .int .i64 p.t, .int .i64 p.n, .string p.s] 44)).heap.size (wr.alloc (.cells #[.string p.nm, .int .i64 p.t, .int .i64 p.n, .string p.s] 44)) W2 → W2.cell? ⟨wr.heap.size, 0, none⟩ = some (.string p.nm) ∧ W2.cell? ⟨w.heap.size + 1, 0, none⟩ = some (.int .i64 id) ∧ Below wr.heap.size wr W2 ∧ wr.heap.size < W2.heap.size) := fun W2 h2 =>
        ⟨(h2.cell (by simp)).trans (two_new _ _ _ rfl), (h2.cell (by simp; omega)).trans ((hB1.cell (by simp; omega)).trans g2), on1KC hB1 h2 (Nat.le_refl _), by have := h2.size; simp at this; omega⟩
      have hk8 : k < 8 := by omega
      have HL : Hid (((rc.take k).foldl (propS fs id) []).length ≤ k) := by
        have := propF_len fs id (rc.take k)
        simp at this
        exact Nat.le_trans this (by omega)
      have hbn : ¬ b = wr.heap.size := by have := HW.out.size; omega
      have hw1 : ¬ w.heap.size = wr.heap.size := by omega
      have hw2 : ¬ w.heap.size + 1 = wr.heap.size := by omega
      have g1' : (wr.alloc (.cells #[.string p.nm, .int .i64 p.t, .int .i64 p.n, .string p.s] 44)).cell? ⟨w.heap.size, 1, none⟩ = some (.slice a2 fs.length c2) := (hB1.cell (by show w.heap.size < _; omega)).trans g1
      clear hB1 e0 e1 e2 e3
      by_cases hq : fits fs p = true
      · rw [hq] at cf
        have HS : Hid ((rc.take (k + 1)).foldl (propS fs id) [] = (rc.take k).foldl (propS fs id) []) := by
          show _ = _
          rw [HT.out]; unfold propS; rw [if_pos hq]
        clear hq hp HT
        go_wp2_with (go_at_call 225; refine cf.mono ?_; rintro e W2 ⟨rfl, hB2⟩; refine Hid.out ?_)
        refine Lib.hid ?_
        obtain ⟨q0, q1, hB3, hs3⟩ := HP.out W2 hB2
        have HE : Hid (OwnX W2 (w.heap.size + 2) u4 ((rc.take k).foldl (propS fs id) []) ∧ Below (w.heap.size + 2) (box2 w #[.slice a1 lk c1, .slice a2 fs.length c2, .slice a3 lb c3] 289 #[.int .i64 id, .string kd, .slice (some ⟨b, off, none⟩) rc.length cv] 40) W2) := ⟨own_below HO.out hB3, HB.out.trans (hB3.mono hws)⟩
        clear cf hB2 hB3
        go_wp2
        go_roundw
        case rel => exact ⟨k + 1, by omega, by go_num, by rw [HS.out]; exact HE.out.1, HE.out.2⟩
        case measure => simp [intOf]; omega
      · have hq' : fits fs p = false := by simpa using hq
        rw [hq'] at cf
        have HS : Hid ((rc.take (k + 1)).foldl (propS fs id) [] = (rc.take k).foldl (propS fs id) [] ++ [⟨2, id, p.nm⟩]) := by
          show _ = _
          rw [HT.out]; unfold propS; rw [if_neg hq]
        clear hq hq' hp HT
        go_wp2_with (go_at_call 225; refine cf.mono ?_; rintro e W2 ⟨rfl, hB2⟩; refine Hid.out ?_)
        refine Lib.hid ?_
        obtain ⟨q0, q1, hB3, hs3⟩ := HP.out W2 hB2
        have HE : Hid (OwnX (W2.alloc (.cells #[.int .i64 2, .int .i64 id, .string p.nm] 300)) (w.heap.size + 2) u4 ((rc.take k).foldl (propS fs id) []) ∧ Below wr.heap.size wr W2) := ⟨(own_below HO.out hB3).alloc _, hB3⟩
        have hq1 : ¬ w.heap.size + 1 = W2.heap.size := by omega
        have hq2 : ¬ wr.heap.size = W2.heap.size := by omega
        have HX : Hid (((rc.take k).foldl (propS fs id) []).length + 1 ≤ maxLen ∧ (((rc.take k).foldl (propS fs id) []).length + 1) * 32 ≤ 140737488355328 ∧ w.heap.size + 2 ≤ (W2.alloc (.cells #[.int .i64 2, .int .i64 id, .string p.nm] 300)).heap.size) := ⟨by have := HL.out; unfold maxLen; omega, by have := HL.out; omega, by simp; omega⟩
        clear cf hB2 hB3
        go_wp2_with (at_builtin; refine wpList_append_own _ rfl (.tmp 21) (.tmp 27) 188 rfl (w.heap.size + 2) 300 i0 _ 3 32 Tryz.underlying188 hi0 hz0 hz1 hz2 rfl (by decide) u4 ((rc.take k).foldl (propS fs id) []).length (cellsX ((rc.take k).foldl (propS fs id) [])) rfl HE.out.1 ⟨W2.heap.size, 0, none⟩ 1 1 (Ft.mk 2 id p.nm).cells rfl rfl (new_atC W2 (Ft.mk 2 id p.nm).cells 300) (ft_one _) HX.out.1 HX.out.2.1 HX.out.2.2 ?_; intro v1 w1 hown1 hgrow1 _)
        have HN : Hid (OwnX w1 (w.heap.size + 2) v1 ((rc.take (k + 1)).foldl (propS fs id) []) ∧ Below (w.heap.size + 2) (box2 w #[.slice a1 lk c1, .slice a2 fs.length c2, .slice a3 lb c3] 289 #[.int .i64 id, .string kd, .slice (some ⟨b, off, none⟩) rc.length cv] 40) w1) := by
          refine ⟨?_, own_more HO.out HB.out hws HE.out.2 hgrow1⟩
          rw [HS.out]; unfold OwnX; rw [cellsX_snoc, List.length_append]; exact hown1
        clear hown1 hgrow1
        go_roundw
        case rel => exact ⟨k + 1, by omega, by go_num, HN.out.1, HN.out.2⟩
        case measure => simp [intOf]; omega
    · obtain rfl : k = rc.length := by omega
      have HE : Hid (XPost w (propF fs id rc) (.returned u4) wr) := ⟨u4, rfl, own_baseC (by have := HO.out; rw [List.take_length] at this; exact this) (by omega), HW.out⟩
      clear hlt
      go_wp2
      go_ret
      exact HE.out
end Go.Proofs.YtahamkajkkkjdaaGreatDoor
