/-
  Sessions in memory: the map from numbers to sessions, a session, a base; what leaves them as they are.
-/
import Derived.Test.YtifhigajonafdaaGreatS35
import Derived.Test.YtifhigajonafdaaGreatS38
import Derived.Maps.RangeWalk
import Derived.Test.YtifhigajonafdaaGreatS37
import Derived.Deep.RegionHeld
import Derived.BigQuiet
import Derived.BigRegion
namespace Go.Proofs.YtifhigajonafdaaGreat
open Go.RowKit Go.Maps
set_option linter.unusedVariables false
set_option linter.unusedSimpArgs false

def ptR : Value → Option (DataW Unit × List MemPlace)
  | .pointer (some ⟨q, 0, none⟩) => some (.lit (.int .i64 q), [])
  | .pointer none => some (.lit (.bool false), [])
  | _ => none
theorem ptR_inv {v : Value} {z : DataW Unit × List MemPlace} (h : ptR v = some z) : (∃ q : Nat, v = .pointer (some ⟨q, 0, none⟩) ∧ z = (.lit (.int .i64 q), [])) ∨ (v = .pointer none ∧ z = (.lit (.bool false), [])) := by
  unfold ptR at h
  split at h
  · injection h with h; exact .inl ⟨_, rfl, h.symm⟩
  · injection h with h; exact .inr ⟨rfl, h.symm⟩
  · cases h
def litI : DataW Unit → Option Int
  | .lit (.int _ n) => some n
  | _ => none
def SMap (w : World) (b op cnt : Nat) (F : Int → Option Nat) : Prop :=
  ∃ D : DataW Unit, w.ownsMap Tryz.prog 3 ptR b op D ∧ Maps.size D = cnt ∧ (∀ x, has D (.int .i64 x) = (F x).isSome) ∧ ∀ x q z, F x = some q → D.atKey (.int .i64 x) z = .lit (.int .i64 q)
theorem SMap.of_block {w w' : World} {b op cnt : Nat} {F : Int → Option Nat} (h : SMap w b op cnt F) (hb : w'.heap[b]? = w.heap[b]?) : SMap w' b op cnt F := by
  obtain ⟨D, ⟨es, clock, e1, e2⟩, h2⟩ := h
  exact ⟨D, ⟨es, clock, hb.trans e1, e2⟩, h2⟩
theorem SMap.lt {w : World} {b op cnt : Nat} {F : Int → Option Nat} (h : SMap w b op cnt F) : b < w.heap.size := let ⟨_, h, _⟩ := h; h.lt
theorem SMap.is_map {w : World} {b op cnt : Nat} {F : Int → Option Nat} (h : SMap w b op cnt F) : ∃ es c, w.heap[b]? = some (.map es c) := let ⟨_, ⟨es, c, e, _⟩, _⟩ := h; ⟨es, c, e⟩
theorem SetI.is_map {w : World} {b n : Nat} {X : List Int} (h : SetI w b n X) : ∃ es c, w.heap[b]? = some (.map es c) := let ⟨_, ⟨es, c, e, _⟩, _⟩ := h; ⟨es, c, e⟩
theorem owns_empty {H : Type} {R : Value → Option (DataW H × List MemPlace)} {w : World} {b : Nat} (hb : w.heap[b]? = some (.map #[] 0)) : w.ownsMap Tryz.prog 3 R b 0 (.map []) := by
  obtain ⟨es, clock, e1, F, e2, e3⟩ := World.ownsMap_made w Tryz.prog 3 R
  rw [heap_alloc_new] at e1
  have e4 := Option.some.inj e1
  injection e4 with e5 e6
  subst e5 e6
  exact ⟨#[], 0, hb, F, Nat.le_refl _, e3⟩
theorem setI_of {w : World} {b : Nat} (hb : w.heap[b]? = some (.map #[] 0)) : SetI w b 0 [] := ⟨_, owns_empty hb, ⟨[], rfl, by simp⟩, fun x => by simp [has]⟩
theorem smap_of {w : World} {b : Nat} (hb : w.heap[b]? = some (.map #[] 0)) : SMap w b 0 0 (fun _ => none) := ⟨_, owns_empty hb, rfl, fun x => rfl, fun x q z h => by cases h⟩
theorem zeroP (w : World) : (zeroValue 75).run Tryz.prog w = .ok (.pointer none) w := by kernel_rfl
theorem smap_look {w : World} {b op cnt : Nat} {F : Int → Option Nat} (h : SMap w b op cnt F) {x : Int} (hx : in64 x) {q : Nat} (hF : F x = some q) : (Instr.lookup 71 (.map (some b)) (.int .i64 x) true).run Tryz.prog w = .ok (.tuple #[.pointer (some ⟨q, 0, none⟩), .bool true]) w := by
  obtain ⟨D, h1, _, h2, h3⟩ := h
  obtain ⟨v, ps, hr, hv⟩ := h1.look_ok keyedI Tryz.underlying71 (zeroP w) (zd := .lit (.bool false)) (zp := []) rfl (Go.Maps.keyOf_int_mk Tryz.underlying3 hx)
  rw [h3 x q _ hF] at hv
  rw [hr, h2 x, hF]
  rcases ptR_inv hv with ⟨q', rfl, e⟩ | ⟨_, e⟩
  · have e1 := congrArg (fun z => litI z.1) e
    simp only [litI, Option.some.injEq] at e1
    have : q = q' := Int.ofNat.inj e1
    subst this
    simp
  · have e1 := congrArg (fun z => litI z.1) e
    simp [litI] at e1
theorem smap_len {w : World} {b op cnt : Nat} {F : Int → Option Nat} (h : SMap w b op cnt F) (ty : TypeId) : (Builtin.len_ #[71] ty #[.map (some b)]).run Tryz.prog w = .ok (.int .i64 cnt) w := by
  obtain ⟨D, h1, hs, _⟩ := h
  rw [h1.len Tryz.underlying71 ty, hs]
theorem smap_put {w : World} {b op cnt : Nat} {F : Int → Option Nat} (h : SMap w b op cnt F) (hn : op < maxLen) {x : Int} (hx : in64 x) (hF : F x = none) (q : Nat) :
    ∃ w', (Instr.mapUpdate 71 (.map (some b)) (.int .i64 x) (.pointer (some ⟨q, 0, none⟩))).run Tryz.prog w = .ok () w' ∧ SMap w' b (op + 1) (cnt + 1) (upd F x q) ∧ w.grownBy w' (some b) := by
  obtain ⟨D, h1, hs, h2, h3⟩ := h
  obtain ⟨w', e, r1, r2⟩ := h1.store keyedI Tryz.underlying71 hn (Go.Maps.keyOf_int_mk Tryz.underlying3 hx) (val := .pointer (some ⟨q, 0, none⟩)) (d := .lit (.int .i64 q)) (ps := []) rfl
  refine ⟨w', e, ⟨_, r1, ?_, fun y => ?_, fun y q' z hy => ?_⟩, r2.grown⟩
  · rw [size_put (h1.tidy keyedI), h2 x, hF, hs]; rfl
  · unfold upd
    by_cases hyx : y = x
    · subst hyx
      rw [has_put_same h1.isMap (by trivial), if_pos rfl]; rfl
    · rw [has_put_other (fun e => hyx (by injection e)), h2 y, if_neg hyx]
  · unfold upd at hy
    by_cases hyx : y = x
    · subst hyx
      rw [if_pos rfl] at hy
      rw [← Option.some.inj hy]
      exact atKey_put_same h1.isMap (by trivial) _ _
    · rw [if_neg hyx] at hy
      rw [atKey_put_other (fun e => hyx (by injection e))]
      exact h3 y q' z hy
def dropI {β : Type} (F : Int → Option β) (x : Int) : Int → Option β := fun y => if y = x then none else F y
theorem smap_del {w : World} {b op cnt : Nat} {F : Int → Option Nat} (h : SMap w b op cnt F) {x : Int} (hx : in64 x) {q : Nat} (hF : F x = some q) (ty : TypeId) :
    ∃ w', (Builtin.delete_ #[71, 3] ty #[.map (some b), .int .i64 x]).run Tryz.prog w = .ok (.tuple #[]) w' ∧ SMap w' b op (cnt - 1) (dropI F x) ∧ w.grownBy w' (some b) := by
  obtain ⟨D, h1, hs, h2, h3⟩ := h
  obtain ⟨w', e, r1, r2⟩ := h1.drop keyedI Tryz.underlying71 (Go.Maps.keyOf_int_mk Tryz.underlying3 hx) ty
  refine ⟨w', e, ⟨_, r1, ?_, fun y => ?_, fun y q' z hy => ?_⟩, r2.grown⟩
  · have := size_del (h1.tidy keyedI) (k := .int .i64 x)
    rw [h2 x, hF, hs] at this
    simp at this
    omega
  · unfold dropI
    by_cases hyx : y = x
    · subst hyx
      rw [has_del_same, if_pos rfl]; rfl
    · rw [has_del_other (fun e => hyx (by injection e)), h2 y, if_neg hyx]
  · unfold dropI at hy
    by_cases hyx : y = x
    · rw [if_pos hyx] at hy; cases hy
    · rw [if_neg hyx] at hy
      rw [atKey_del_other (fun e => hyx (by injection e))]
      exact h3 y q' z hy

theorem own_blk {w w' : World} {base : Nat} {e : TypeId} {size : Nat} {v : Value} {n : Nat} {xs : List Value} (h : w.ownsRow base e size v n xs) (hb : ∀ g, v.ownBlock = some g → w'.heap[g]? = w.heap[g]?) : w'.ownsRow base e size v n xs := by
  refine ⟨h.1, ?_⟩
  rcases h.2 with h | ⟨g, cap, cur, rfl, hg, hh, rest⟩
  · exact .inl h
  · exact .inr ⟨g, cap, cur, rfl, hg, (hb g rfl).trans hh, rest⟩
theorem own_lt {w : World} {base : Nat} {e : TypeId} {size : Nat} {v : Value} {n : Nat} {xs : List Value} (h : w.ownsRow base e size v n xs) : ∀ g, v.ownBlock = some g → base ≤ g ∧ g < w.heap.size ∧ Ty w g e := by
  rcases h.2 with ⟨rfl, _⟩ | ⟨g, cap, cur, rfl, hg, hh, _⟩
  · intro g hg; cases hg
  · intro g' hg'
    have e2 : g = g' := by simpa [Value.ownBlock] using hg'
    subst e2
    exact ⟨hg, (Array.getElem?_eq_some_iff.1 hh).1, _, hh⟩
def OwnOs (w : World) (base : Nat) (v : Value) (O : List Opx) : Prop := w.ownsRow base 56 11 v O.length (O.flatMap Opx.cells) ∧ ∀ o ∈ O, OwnRc w base o.nd.rv o.nd.rc
theorem OwnOs.isO {w : World} {base : Nat} {v : Value} {O : List Opx} (h : OwnOs w base v O) : IsO w v O := by
  obtain ⟨h1, h2⟩ := h
  have hc : ∀ g, v.ownBlock = some g → ∀ j u, (O.flatMap Opx.cells)[j]? = some u → w.cell? ((⟨g, 0, none⟩ : Addr).add j) = some u := fun g hg => h1.cells hg
  rcases h1.2 with ⟨rfl, h0⟩ | ⟨g, cap, cur, rfl, hb, hg, hn, _⟩
  · have : O = [] := List.eq_nil_of_length_eq_zero h0
    subst this
    exact ⟨none, 0, rfl, Nat.le_refl _, .inl rfl⟩
  · refine ⟨_, cap, rfl, hn, .inr ⟨g, 0, rfl, (Array.getElem?_eq_some_iff.1 hg).1, fun k o ho => ⟨fun i u hu => ?_, (h2 o (List.mem_of_getElem? ho)).isR⟩⟩⟩
    have hi : i < 11 := by
      have := (List.getElem?_eq_some_iff.1 hu).1
      rwa [op_len] at this
    have := hc g rfl (k * 11 + i) u (by rw [flatK op_len O k o i ho hi]; exact hu)
    rw [Addr.add_lit, Nat.zero_add] at this
    rw [Nat.zero_add]
    exact this
def Opx.c (o : Opx) : Opx := ⟨o.wh, o.nd.c, o.pr, o.te⟩
def cO (O : List Opx) : List Opx := O.map Opx.c
theorem opE_o (o : Opx) (M : List Nd) (T : List Te) : opE o.c M T = opE o M T := rfl
theorem opM_o (o : Opx) (M : List Nd) (T : List Te) : opM o.c M T = opM o M T := rfl
theorem opT_o (o : Opx) (M : List Nd) (T : List Te) : opT o.c M T = opT o M T := rfl
theorem err_o : ∀ (O : List Opx) (M : List Nd) (T : List Te), opS.err (cO O) M T = opS.err O M T
  | [], M, T => rfl
  | o :: r, M, T => by
    show opS.err (o.c :: cO r) M T = _
    unfold OpS.err
    rw [show opS.e o.c M T = opS.e o M T from opE_o o M T, show opS.m o.c M T = opS.m o M T from opM_o o M T, show opS.t o.c M T = opS.t o M T from opT_o o M T, err_o r]
theorem res_o : ∀ (O : List Opx) (M : List Nd) (T : List Te), opS.res (cO O) M T = opS.res O M T
  | [], M, T => rfl
  | o :: r, M, T => by
    show opS.res (o.c :: cO r) M T = _
    unfold OpS.res
    rw [show opS.e o.c M T = opS.e o M T from opE_o o M T, show opS.m o.c M T = opS.m o M T from opM_o o M T, show opS.t o.c M T = opS.t o M T from opT_o o M T, res_o r]
theorem tou_o (T : List Te) : ∀ O : List Opx, touA T (cO O) = touA T O
  | [] => rfl
  | o :: r => by
    show touB T o.c ++ touA T (cO r) = touB T o ++ touA T r
    rw [tou_o T r]; rfl
structure Ss where
  gN : List Nd
  gT : List Te
  O : List Opx
  eN : List Nd
  eT : List Te
  X : List Int
def Sn (w : World) (base nb q m : Nat) (vo : Value) (x : Ss) : Prop :=
  ∃ vn vt un ut K M n O, w.heap[q]? = some (.cells #[vn, vt, vo, un, ut, .map (some m)] 78 (0, 0)) ∧ (cN K = x.gN ∧ OwnNs w base vn K ∧ OwnTs w base vt x.gT) ∧ (cO O = x.O ∧ OwnOs w base vo O) ∧
    (cN M = x.eN ∧ OwnNs w base un M ∧ OwnTs w base ut x.eT) ∧ SetI w m n x.X ∧ n ≤ nb ∧ base ≤ q ∧ base ≤ m
theorem Sn.stay {w w' : World} {base nb q m : Nat} {vo : Value} {x : Ss} (h : Sn w base nb q m vo x) (hq : w'.heap[q]? = w.heap[q]?) (hm : w'.heap[m]? = w.heap[m]?) (ho : ∀ g, vo.ownBlock = some g → w'.heap[g]? = w.heap[g]?) (k1 : Kt 48 w w') (k2 : Kt 52 w w') (k3 : Kt 54 w w') : Sn w' base nb q m vo x := by
  obtain ⟨vn, vt, un, ut, K, M, n, O, h1, ⟨a1, a2, a3⟩, ⟨o0, o1, o2⟩, ⟨b1, b2, b3⟩, h4, h5⟩ := h
  exact ⟨vn, vt, un, ut, K, M, n, O, hq.trans h1, ⟨a1, a2.kt k1 k2, a3.kt k3⟩, ⟨o0, own_blk o1 ho, fun o hm => (o2 o hm).kt k2⟩, ⟨b1, b2.kt k1 k2, b3.kt k3⟩, h4.of_block hm, h5⟩
theorem Sn.lts {w : World} {base nb q m : Nat} {vo : Value} {x : Ss} (h : Sn w base nb q m vo x) : q < w.heap.size ∧ m < w.heap.size ∧ (∀ g, vo.ownBlock = some g → base ≤ g ∧ g < w.heap.size ∧ Ty w g 56) ∧ Ty w q 78 ∧ ∃ es c, w.heap[m]? = some (.map es c) := by
  obtain ⟨vn, vt, un, ut, K, M, n, O, h1, _, ⟨_, o1, _⟩, _, h4, _⟩ := h
  exact ⟨(Array.getElem?_eq_some_iff.1 h1).1, h4.lt, own_lt o1, ⟨_, h1⟩, h4.is_map⟩
structure SsOk (x : Ss) : Prop where
  g0 : gErr x.gN x.gT = 0
  e0 : opS.err x.O x.gN x.gT = 0
  r0 : opS.res x.O x.gN x.gT = (x.eN, x.eT)
  l0 : x.O.length ≤ 40
  z0 : ∀ o ∈ x.O, OpSz o
  i0 : ∀ y ∈ x.X, in64 y

structure Bl where
  vk : Value
  vb : Value
  vn : Value
  vt : Value
  mb : Nat
  K : List Kd
  M : List Nd
  q : Int → Nat
  m : Int → Nat
  v : Int → Value
structure Bs where
  L : List Kd
  B : List Bd
  N : List Nd
  T : List Te
  F : Int → Option Ss
  cnt : Nat
  op : Nat
  age : Nat
  nb : Nat
structure BeL (w : World) (base p : Nat) (l : Bl) (s : Bs) : Prop where
  cs : w.heap[p]? = some (.cells #[l.vk, l.vb, l.vn, l.vt, .map (some l.mb), .int .i64 s.op, .int .i64 s.age] 73 (0, 0))
  bp : base ≤ p
  bm : base ≤ l.mb
  sc : l.K.map kq3 = s.L.map kq3 ∧ OwnKs w base l.vk l.K ∧ OwnBs w base l.vb s.B
  gr : cN l.M = s.N ∧ OwnNs w base l.vn l.M ∧ OwnTs w base l.vt s.T
  mp : SMap w l.mb s.op s.cnt (fun i => (s.F i).map fun _ => l.q i)
  ss : ∀ i x, s.F i = some x → Sn w base s.nb (l.q i) (l.m i) (l.v i) x ∧ l.m i ≠ l.mb
  ap : ∀ i j, s.F i ≠ none → s.F j ≠ none → i ≠ j → l.q i ≠ l.q j ∧ l.m i ≠ l.m j ∧ ∀ g, (l.v i).ownBlock = some g → (l.v j).ownBlock ≠ some g
def Be (w : World) (base p : Nat) (s : Bs) : Prop := ∃ l, BeL w base p l s
structure BsOk (s : Bs) : Prop where
  c0 : cfE s.L s.B s.N s.T = 0
  kz : SzK s.L
  bz : SzB s.B
  so : ∀ i x, s.F i = some x → SsOk x ∧ in64 i
  on : s.op ≤ 1000
  an : s.age ≤ 1000
  nl : s.nb ≤ s.age * 5000
  nf : ∀ i, s.F i ≠ none → i ≤ s.op
def Fr (base : Nat) (w w' : World) : Prop := Below base w w' ∧ ∀ t, t ≠ 73 → t ≠ 78 → t ≠ 56 → Kt t w w'
theorem Fr.refl (base : Nat) (w : World) : Fr base w w := ⟨Below.refl _ _, fun t _ _ _ => Kt.refl t w⟩
theorem Fr.trans {base : Nat} {a b c : World} (h : Fr base a b) (k : Fr base b c) : Fr base a c := ⟨h.1.trans k.1, fun t h1 h2 h3 => (h.2 t h1 h2 h3).trans (k.2 t h1 h2 h3)⟩
theorem Fr.of_below {base : Nat} {w w' : World} (h : Below w.heap.size w w') (hb : base ≤ w.heap.size) : Fr base w w' := ⟨h.mono hb, fun t _ _ _ => .of_below h⟩
theorem BeL.on {w w' : World} {base p : Nat} {l : Bl} {s : Bs} (h : BeL w base p l s) (hB : Below w.heap.size w w') : BeL w' base p l s := by
  have k : ∀ t, Kt t w w' := fun t => .of_below hB
  refine ⟨(hB.block p (Array.getElem?_eq_some_iff.1 h.cs).1).trans h.cs, h.bp, h.bm, ⟨h.sc.1, h.sc.2.1.kt (k _) (k _) (k _), own_kt h.sc.2.2 (k _)⟩, ⟨h.gr.1, h.gr.2.1.kt (k _) (k _), h.gr.2.2.kt (k _)⟩, h.mp.of_block (hB.block _ h.mp.lt), fun i x hx => ?_, h.ap⟩
  obtain ⟨h1, h2⟩ := h.ss i x hx
  obtain ⟨l1, l2, l3, _⟩ := h1.lts
  exact ⟨h1.stay (hB.block _ l1) (hB.block _ l2) (fun g hg => hB.block g (l3 g hg).2.1) (k _) (k _) (k _), h2⟩
theorem Be.on {w w' : World} {base p : Nat} {s : Bs} (h : Be w base p s) (hB : Below w.heap.size w w') : Be w' base p s := let ⟨l, h⟩ := h; ⟨l, h.on hB⟩
theorem Sn.base {w : World} {base base' nb q m : Nat} {vo : Value} {x : Ss} (h : Sn w base nb q m vo x) (hb : base' ≤ base) : Sn w base' nb q m vo x := by
  obtain ⟨vn, vt, un, ut, K, M, n, O, h1, ⟨a1, a2, a3⟩, ⟨o0, o1, o2⟩, ⟨b1, b2, b3⟩, h4, h5, h6, h7⟩ := h
  exact ⟨vn, vt, un, ut, K, M, n, O, h1, ⟨a1, a2.base hb, own_base a3 hb⟩, ⟨o0, own_base o1 hb, fun o hm => own_base (o2 o hm) hb⟩, ⟨b1, b2.base hb, own_base b3 hb⟩, h4, h5, Nat.le_trans hb h6, Nat.le_trans hb h7⟩
theorem Be.base {w : World} {base base' p : Nat} {s : Bs} (h : Be w base p s) (hb : base' ≤ base) : Be w base' p s := by
  obtain ⟨l, h⟩ := h
  exact ⟨l, h.cs, Nat.le_trans hb h.bp, Nat.le_trans hb h.bm, ⟨h.sc.1, h.sc.2.1.base hb, own_base h.sc.2.2 hb⟩, ⟨h.gr.1, h.gr.2.1.base hb, own_base h.gr.2.2 hb⟩, h.mp, fun i x hx => ⟨(h.ss i x hx).1.base hb, (h.ss i x hx).2⟩, h.ap⟩
end Go.Proofs.YtifhigajonafdaaGreat

/-
  What is written of a base, and what stays; the walk of Open.
-/
namespace Go.Proofs.YtifhigajonafdaaGreat
open Go.RowKit Go.Maps
set_option linter.unusedVariables false
set_option linter.unusedSimpArgs false

theorem Ty.ne {w : World} {x y : Nat} {t t' : TypeId} (h : Ty w x t) (k : Ty w y t') (hne : t ≠ t') : x ≠ y := fun e => by
  subst e
  obtain ⟨cs, h⟩ := h
  obtain ⟨cs', k⟩ := k
  rw [h] at k
  injection k with k
  injection k with _ k
  exact hne k
theorem Ty.nem {w : World} {x y : Nat} {t : TypeId} (h : Ty w x t) (k : ∃ es c, w.heap[y]? = some (.map es c)) : x ≠ y := fun e => by
  subst e
  obtain ⟨cs, h⟩ := h
  obtain ⟨es, c, k⟩ := k
  rw [h] at k
  cases k
theorem kt_bx {t : TypeId} {X : List Nat} {w w' : World} (h : Bx w.heap.size X w w') (hl : ∀ x ∈ X, (∃ es c, w.heap[x]? = some (.map es c)) ∨ ∃ t', t' ≠ t ∧ Ty w x t') : Kt t w w' :=
  ⟨h.size, fun b cs hb => (h.block b (Array.getElem?_eq_some_iff.1 hb).1 (fun hx => by
    rcases hl b hx with k | ⟨t', hne, k⟩
    · exact Ty.nem ⟨cs, hb⟩ k rfl
    · exact Ty.ne ⟨cs, hb⟩ k (fun e => hne e.symm) rfl)).trans hb⟩
def OfBe (l : Bl) (s : Bs) (p x : Nat) : Prop := x = p ∨ x = l.mb ∨ ∃ i, s.F i ≠ none ∧ (x = l.q i ∨ x = l.m i ∨ (l.v i).ownBlock = some x)
theorem BeL.kinds {w : World} {base p : Nat} {l : Bl} {s : Bs} (h : BeL w base p l s) {x : Nat} (hx : OfBe l s p x) : base ≤ x ∧ ((∃ es c, w.heap[x]? = some (.map es c)) ∨ Ty w x 73 ∨ Ty w x 78 ∨ Ty w x 56) := by
  rcases hx with rfl | rfl | ⟨i, hi, hx⟩
  · exact ⟨h.bp, .inr (.inl ⟨_, h.cs⟩)⟩
  · exact ⟨h.bm, .inl h.mp.is_map⟩
  · obtain ⟨y, hy⟩ := Option.ne_none_iff_exists'.1 hi
    obtain ⟨hs, _⟩ := h.ss i y hy
    obtain ⟨l1, l2, l3, l4, l5⟩ := hs.lts
    obtain ⟨_, _, _, _, _, _, _, _, _, _, _, _, _, _, hq, hm⟩ := hs
    rcases hx with rfl | rfl | hx
    · exact ⟨hq, .inr (.inr (.inl l4))⟩
    · exact ⟨hm, .inl l5⟩
    · exact ⟨(l3 x hx).1, .inr (.inr (.inr (l3 x hx).2.2))⟩
theorem BeL.fr {w w' : World} {base p : Nat} {l : Bl} {s : Bs} (h : BeL w base p l s) (hb : base ≤ w.heap.size) {X : List Nat} (hx : Bx w.heap.size X w w') (hX : ∀ x ∈ X, OfBe l s p x) : Fr base w w' := by
  refine ⟨hx.below hb fun x hm => (h.kinds (hX x hm)).1, fun t h1 h2 h3 => kt_bx hx fun x hm => ?_⟩
  rcases (h.kinds (hX x hm)).2 with k | k | k | k
  · exact .inl k
  · exact .inr ⟨73, fun e => h1 e.symm, k⟩
  · exact .inr ⟨78, fun e => h2 e.symm, k⟩
  · exact .inr ⟨56, fun e => h3 e.symm, k⟩
theorem BeL.sn {w w' : World} {base p : Nat} {l : Bl} {s : Bs} (h : BeL w base p l s) {X : List Nat} (hx : Bx w.heap.size X w w') (hf : Fr base w w') {i : Int} {x : Ss} (hi : s.F i = some x) (n1 : l.q i ∉ X) (n2 : l.m i ∉ X) (n3 : ∀ g, (l.v i).ownBlock = some g → g ∉ X) : Sn w' base s.nb (l.q i) (l.m i) (l.v i) x := by
  obtain ⟨hs, _⟩ := h.ss i x hi
  obtain ⟨l1, l2, l3, _⟩ := hs.lts
  exact hs.stay (hx.block _ l1 n1) (hx.block _ l2 n2) (fun g hg => hx.block g (l3 g hg).2.1 (n3 g hg)) (hf.2 _ (by decide) (by decide) (by decide)) (hf.2 _ (by decide) (by decide) (by decide)) (hf.2 _ (by decide) (by decide) (by decide))
theorem BeL.sc' {w w' : World} {base p : Nat} {l : Bl} {s : Bs} (h : BeL w base p l s) (hf : Fr base w w') : l.K.map kq3 = s.L.map kq3 ∧ OwnKs w' base l.vk l.K ∧ OwnBs w' base l.vb s.B := by
  have k : ∀ t, t ≠ 73 → t ≠ 78 → t ≠ 56 → Kt t w w' := hf.2
  exact ⟨h.sc.1, h.sc.2.1.kt (k _ (by decide) (by decide) (by decide)) (k _ (by decide) (by decide) (by decide)) (k _ (by decide) (by decide) (by decide)), own_kt h.sc.2.2 (k _ (by decide) (by decide) (by decide))⟩
theorem BeL.gr' {w w' : World} {base p : Nat} {l : Bl} {s : Bs} (h : BeL w base p l s) (hf : Fr base w w') : cN l.M = s.N ∧ OwnNs w' base l.vn l.M ∧ OwnTs w' base l.vt s.T := by
  have k : ∀ t, t ≠ 73 → t ≠ 78 → t ≠ 56 → Kt t w w' := hf.2
  exact ⟨h.gr.1, h.gr.2.1.kt (k _ (by decide) (by decide) (by decide)) (k _ (by decide) (by decide) (by decide)), h.gr.2.2.kt (k _ (by decide) (by decide) (by decide))⟩
theorem BeL.blks {w : World} {base p : Nat} {l : Bl} {s : Bs} (h : BeL w base p l s) {i : Int} (hi : s.F i ≠ none) : l.q i ≠ p ∧ l.q i ≠ l.mb ∧ l.m i ≠ p ∧ l.m i ≠ l.mb ∧ ∀ g, (l.v i).ownBlock = some g → g ≠ p ∧ g ≠ l.mb := by
  obtain ⟨y, hy⟩ := Option.ne_none_iff_exists'.1 hi
  obtain ⟨hs, hm⟩ := h.ss i y hy
  obtain ⟨l1, l2, l3, l4, l5⟩ := hs.lts
  have tp : Ty w p 73 := ⟨_, h.cs⟩
  exact ⟨l4.ne tp (by decide), l4.nem h.mp.is_map, fun e => tp.nem l5 e.symm, hm, fun g hg => ⟨(l3 g hg).2.2.ne tp (by decide), (l3 g hg).2.2.nem h.mp.is_map⟩⟩

def openS (s : Bs) : Bs := ⟨s.L, s.B, s.N, s.T, upd s.F ((s.op + 1 : Nat) : Int) ⟨s.N, s.T, [], s.N, s.T, []⟩, s.cnt + 1, s.op + 1, s.age, s.nb⟩
theorem openS_ok {s : Bs} (h : BsOk s) (ho : s.op < 1000) : BsOk (openS s) := by
  obtain ⟨hs0, hg0, _⟩ := cfE_zero h.c0
  refine ⟨h.c0, h.kz, h.bz, fun i x hx => ?_, by show s.op + 1 ≤ 1000; omega, h.an, h.nl, fun i hi => ?_⟩
  · unfold openS upd at hx
    simp only at hx
    split at hx
    · rename_i e
      injection hx with hx
      subst hx e
      exact ⟨⟨hg0, rfl, rfl, Nat.zero_le _, fun o ho => (by cases ho), fun y hy => (by cases hy)⟩, in64_of (by omega) (by omega)⟩
    · exact h.so i x hx
  · unfold openS upd at hi ⊢
    simp only at hi ⊢
    split at hi
    · rename_i e; omega
    · have := h.nf i hi; omega
theorem openS_no {s : Bs} (h : BsOk s) : s.F ((s.op + 1 : Nat) : Int) = none := by
  cases e : s.F ((s.op + 1 : Nat) : Int) with
  | none => rfl
  | some x => have := h.nf _ (by rw [e]; exact fun h => by cases h); omega
theorem be_open {w W4 : World} {base p : Nat} {l : Bl} {s : Bs} (h : BeL w base p l s) (hok : BsOk s) (hb : base ≤ w.heap.size) (hx : Bx w.heap.size [p, l.mb] w W4)
    (hp : W4.heap[p]? = some (.cells #[l.vk, l.vb, l.vn, l.vt, .map (some l.mb), .int .i64 ((s.op + 1 : Nat) : Int), .int .i64 s.age] 73 (0, 0)))
    (hq : W4.heap[w.heap.size + 1]? = some (.cells #[l.vn, l.vt, .slice none 0 0, l.vn, l.vt, .map (some w.heap.size)] 78 (0, 0))) (hm : W4.heap[w.heap.size]? = some (.map #[] 0))
    (hmp : SMap W4 l.mb (s.op + 1) (s.cnt + 1) (upd (fun i => (s.F i).map fun _ => l.q i) ((s.op + 1 : Nat) : Int) (w.heap.size + 1))) : Be W4 base p (openS s) ∧ Fr base w W4 := by
  have hf := h.fr hb hx (fun x hx => by simp at hx; rcases hx with rfl | rfl; exact .inl rfl; exact .inr (.inl rfl))
  have hg := h.gr' hf
  have hno := openS_no hok
  generalize hk : ((s.op + 1 : Nat) : Int) = k at hno hmp hp
  refine ⟨⟨⟨l.vk, l.vb, l.vn, l.vt, l.mb, l.K, l.M, fun i => if i = k then w.heap.size + 1 else l.q i, fun i => if i = k then w.heap.size else l.m i, fun i => if i = k then .slice none 0 0 else l.v i⟩, ?_, h.bp, h.bm, h.sc' hf, hg, ?_, fun i x hi => ?_, fun i j hi hj hij => ?_⟩, hf⟩
  · show W4.heap[p]? = some (.cells #[l.vk, l.vb, l.vn, l.vt, .map (some l.mb), .int .i64 ((s.op + 1 : Nat) : Int), .int .i64 s.age] 73 (0, 0))
    rw [hk]; exact hp
  · show SMap W4 l.mb (s.op + 1) (s.cnt + 1) (fun i => ((openS s).F i).map fun _ => if i = k then w.heap.size + 1 else l.q i)
    have : (fun i => ((openS s).F i).map fun _ => if i = k then w.heap.size + 1 else l.q i) = upd (fun i => (s.F i).map fun _ => l.q i) k (w.heap.size + 1) := by
      funext i
      unfold openS upd
      simp only [hk]
      by_cases e : i = k
      · rw [if_pos e, if_pos e, if_pos e]; rfl
      · rw [if_neg e, if_neg e, if_neg e]
    rw [this]
    exact hmp
  · unfold openS upd at hi
    simp only [hk] at hi
    by_cases e : i = k
    · rw [if_pos e] at hi
      injection hi with hi
      subst hi
      simp only [if_pos e]
      refine ⟨⟨l.vn, l.vt, l.vn, l.vt, l.M, l.M, 0, [], hq, hg, ⟨rfl, World.ownsRow_nil _ _ _ _, fun o ho => (by cases ho)⟩, hg, setI_of hm, Nat.zero_le _, by omega, hb⟩, fun e => ?_⟩
      · have := h.mp.lt; omega
    · rw [if_neg e] at hi
      simp only [if_neg e]
      obtain ⟨b1, b2, b3, b4, b5⟩ := h.blks (i := i) (by rw [hi]; exact fun h => by cases h)
      exact ⟨h.sn hx hf hi (by simp [b1, b2]) (by simp [b3, b4]) (fun g hg => by obtain ⟨c1, c2⟩ := b5 g hg; simp [c1, c2]), b4⟩
  · have key : ∀ j, (openS s).F j ≠ none → j ≠ k → s.F j ≠ none := fun j hj hjk => by
      unfold openS upd at hj
      simp only [hk] at hj
      rwa [if_neg hjk] at hj
    have lt : ∀ j, s.F j ≠ none → l.q j < w.heap.size ∧ l.m j < w.heap.size := fun j hj => by
      obtain ⟨y, hy⟩ := Option.ne_none_iff_exists'.1 hj
      obtain ⟨l1, l2, _⟩ := (h.ss j y hy).1.lts
      exact ⟨l1, l2⟩
    by_cases ei : i = k
    · have ej : j ≠ k := fun e => hij (ei.trans e.symm)
      obtain ⟨l1, l2⟩ := lt j (key j hj ej)
      simp only [if_pos ei, if_neg ej]
      exact ⟨by omega, by omega, fun g hg => by cases hg⟩
    · by_cases ej : j = k
      · obtain ⟨l1, l2⟩ := lt i (key i hi ei)
        simp only [if_pos ej, if_neg ei]
        exact ⟨by omega, by omega, fun g hg e => by cases e⟩
      · simp only [if_neg ei, if_neg ej]
        exact h.ap i j (key i hi ei) (key j hj ej) hij
end Go.Proofs.YtifhigajonafdaaGreat

/-
  The walk of Open.
-/
namespace Go.Proofs.YtifhigajonafdaaGreat
open Go.RowKit Go.Maps
set_option linter.unusedVariables false
set_option linter.unusedSimpArgs false

theorem bx_set {B : Nat} {l : List Nat} {a w : World} (h : Bx B l a w) {g : Nat} (hg : g ∈ l ∨ B ≤ g) (i : Nat) (u : Value) : Bx B l a (w.setCell ⟨g, i, none⟩ u) :=
  ⟨h.os, h.tape, h.output, by have := h.size; simpa using this, fun k hk hn => (heap_setCell_other w ⟨g, i, none⟩ k u (fun e => by
    simp only at e
    subst e
    rcases hg with h1 | h1
    · exact hn h1
    · omega)).trans (h.block k hk hn)⟩
theorem bx_alloc {B : Nat} {l : List Nat} {a w : World} (h : Bx B l a w) (hB : B ≤ w.heap.size) (o : Obj) : Bx B l a (w.alloc o) := h.trans (.of_below (b_alloc (Below.refl _ _) o) hB)
theorem bx_grown {r : Option Nat} {B : Nat} {l : List Nat} {a w w' : World} (h : Bx B l a w) (hg : w.grownBy w' r) (hB : B ≤ w.heap.size) (hr : ∀ g, r = some g → g ∈ l ∨ B ≤ g) : Bx B l a w' := h.trans (.of_grown hg hB hr)

theorem bx_drew {B : Nat} {l : List Nat} {a w : World} (h : Bx B l a w) : Bx B l a w.drew := ⟨h.os, h.tape, h.output, h.size, h.block⟩
set_option maxHeartbeats 8000000 in
set_option maxRecDepth 100000 in
theorem sopen_any {w : World} {base p : Nat} {s : Bs} (h : Be w base p s) (hok : BsOk s) (hc : s.cnt < 4) (ho : s.op < 1000) (hb : base ≤ w.heap.size) :
    Calls Tryz.prog 5 #[.pointer (some ⟨p, 0, none⟩)] w fun e w' => e = .returned (.tuple #[.int .i64 ((s.op + 1 : Nat) : Int), .nilIface]) ∧ Be w' base p (openS s) ∧ Fr base w w' := by
  obtain ⟨l, hl⟩ := h
  have HO : Hid (∀ W4, Bx w.heap.size [p, l.mb] w W4 → W4.heap[p]? = some (.cells #[l.vk, l.vb, l.vn, l.vt, .map (some l.mb), .int .i64 ((s.op + 1 : Nat) : Int), .int .i64 s.age] 73 (0, 0)) → W4.heap[w.heap.size + 1]? = some (.cells #[l.vn, l.vt, .slice none 0 0, l.vn, l.vt, .map (some w.heap.size)] 78 (0, 0)) → W4.heap[w.heap.size]? = some (.map #[] 0) →
      SMap W4 l.mb (s.op + 1) (s.cnt + 1) (upd (fun i => (s.F i).map fun _ => l.q i) ((s.op + 1 : Nat) : Int) (w.heap.size + 1)) → Be W4 base p (openS s) ∧ Fr base w W4) := fun W4 h1 h2 h3 h4 h5 => be_open hl hok hb h1 h2 h3 h4 h5
  have hno := openS_no hok
  obtain ⟨an, cn, hvn⟩ := own_slice hl.gr.2.1.1
  obtain ⟨at', ct, hvt⟩ := own_slice hl.gr.2.2
  have hcs := hl.cs
  have hmp := hl.mp
  have hpm : p ≠ l.mb := Ty.nem ⟨_, hcs⟩ hmp.is_map
  rw [hvn, hvt] at hcs HO
  have hplt : p < w.heap.size := (Array.getElem?_eq_some_iff.1 hcs).1
  have hmlt := hmp.lt
  have y1 : w.cell? ⟨p, 5, none⟩ = some (.int .i64 s.op) := cell_at hcs rfl
  have y0 : w.cell? ⟨p, 4, none⟩ = some (.map (some l.mb)) := cell_at hcs rfl
  have f1 : w.frozen? ⟨p, 5, none⟩ = false := frz_at hcs
  have hlen := fun ty => smap_len hmp ty
  have hop : (0 : Int) ≤ s.op := by omega
  have hop2 : (s.op : Int) < 1000 := by omega
  have hci : ¬ ((s.cnt : Int) = 4) := by omega
  obtain ⟨W1, hW1⟩ : ∃ W1, W1 = w.setCell ⟨p, 5, none⟩ (.int .i64 ((s.op : Int) + 1)) := ⟨_, rfl⟩
  have hp1 : W1.heap[p]? = some (.cells #[l.vk, l.vb, .slice an l.M.length cn, .slice at' s.T.length ct, .map (some l.mb), .int .i64 ((s.op + 1 : Nat) : Int), .int .i64 s.age] 73 (0, 0)) := by
    rw [hW1, heap_setCell_same w p 5 _ 73 _ hcs]; rfl
  have hz1 : W1.heap.size = w.heap.size := by rw [hW1]; simp
  have hB1 : Bx w.heap.size [p, l.mb] w W1 := by rw [hW1]; exact bx_set (Bx.refl _ _ _) (.inl (by simp)) _ _
  have hm1 : SMap W1 l.mb s.op s.cnt (fun i => (s.F i).map fun _ => l.q i) := hmp.of_block (by rw [hW1]; exact heap_setCell_other w _ _ _ (fun e => hpm e.symm))
  have c0 : W1.cell? ⟨p, 2, none⟩ = some (.slice an l.M.length cn) := cell_at hp1 rfl
  have c1 : W1.cell? ⟨p, 3, none⟩ = some (.slice at' s.T.length ct) := cell_at hp1 rfl
  have c2 : W1.cell? ⟨p, 4, none⟩ = some (.map (some l.mb)) := cell_at hp1 rfl
  have c3 : W1.cell? ⟨p, 5, none⟩ = some (.int .i64 ((s.op + 1 : Nat) : Int)) := cell_at hp1 rfl
  obtain ⟨W3, hW3⟩ : ∃ W3, W3 = (W1.alloc (.map #[] 0)).alloc (.cells #[.slice an l.M.length cn, .slice at' s.T.length ct, .slice none 0 0, .slice an l.M.length cn, .slice at' s.T.length ct, .map (some w.heap.size)] 78) := ⟨_, rfl⟩
  have hB3 : Bx w.heap.size [p, l.mb] w W3 := by rw [hW3]; exact bx_alloc (bx_alloc hB1 (by omega) _) (by simp; omega) _
  have hb3 : Below W1.heap.size W1 W3 := by rw [hW3]; exact b_alloc (b_alloc (Below.refl _ _) _) _
  have hp3 := (hb3.block p (by omega)).trans hp1
  have hm3 := hm1.of_block (hb3.block l.mb (by omega))
  have hq3 : W3.heap[w.heap.size + 1]? = some (.cells #[.slice an l.M.length cn, .slice at' s.T.length ct, .slice none 0 0, .slice an l.M.length cn, .slice at' s.T.length ct, .map (some w.heap.size)] 78 (0, 0)) := by
    have := heap_alloc_new (W1.alloc (.map #[] 0)) (.cells #[.slice an l.M.length cn, .slice at' s.T.length ct, .slice none 0 0, .slice an l.M.length cn, .slice at' s.T.length ct, .map (some w.heap.size)] 78)
    rw [World.size_alloc, hz1] at this
    rw [hW3]; exact this
  have hn3 : W3.heap[w.heap.size]? = some (.map #[] 0) := by
    have := heap_alloc_new W1 (.map #[] 0)
    rw [hz1] at this
    rw [hW3, Below.heap_alloc _ _ _ (by simp; omega)]
    exact this
  have hkey : in64 ((s.op + 1 : Nat) : Int) := in64_of (by omega) (by omega)
  obtain ⟨w4, hput, hM4, hg4⟩ := smap_put (w := W3.drew) hm3 (by unfold maxLen; omega) hkey (by show (s.F ((s.op + 1 : Nat) : Int)).map _ = none; rw [hno]; rfl) (w.heap.size + 1)
  have hz3 : W3.heap.size = w.heap.size + 2 := by rw [hW3]; simp; omega
  have hF : Hid (Be w4 base p (openS s) ∧ Fr base w w4) := by
    refine HO.out w4 (bx_grown (bx_drew hB3) hg4 (by show _ ≤ W3.heap.size; omega) (fun g hg => by injection hg with hg; subst hg; exact .inl (by simp))) ?_ ?_ ?_ hM4
    · exact (hg4.block p (by show _ < W3.heap.size; omega) (fun e => hpm (by injection e))).trans hp3
    · exact (hg4.block _ (by show _ < W3.heap.size; omega) (fun e => by injection e with e; omega)).trans hq3
    · exact (hg4.block _ (by show _ < W3.heap.size; omega) (fun e => by injection e with e; omega)).trans hn3
  have hp4 := (hg4.block p (by show _ < W3.heap.size; omega) (fun e => hpm (by injection e))).trans hp3
  have d0 : w4.cell? ⟨p, 5, none⟩ = some (.int .i64 ((s.op + 1 : Nat) : Int)) := cell_at hp4 rfl
  have d1 : w4.cell? ⟨p, 2, none⟩ = some (.slice an l.M.length cn) := cell_at hp4 rfl
  have d2 : w4.cell? ⟨p, 3, none⟩ = some (.slice at' s.T.length ct) := cell_at hp4 rfl
  have d3 : w4.cell? ⟨p, 4, none⟩ = some (.map (some l.mb)) := cell_at hp4 rfl
  have hne1 : ¬ p = w.heap.size := by omega
  have hne2 : ¬ p = w.heap.size + 1 := by omega
  have e0 := cell_old c0 (.map #[] 0)
  have e1 := cell_old c1 (.map #[] 0)
  have e2 := cell_old c2 (.map #[] 0)
  have e3 := cell_old c3 (.map #[] 0)
  clear hM4 hg4 hp4 hp3 hm3 hn3 hq3 hb3 hB3 hm1 hB1 hp1 HO hl hcs hvn hvt hok hno hmp
  have hcast : ((s.op + 1 : Nat) : Int) = (s.op : Int) + 1 := by omega
  rw [hcast] at hput hkey d0 c3 e3
  rw [hW3] at hput
  have hmm := @run_makeMap Tryz.prog
  have HW1 := Lib.hid hW1
  clear hW1 hW3 hz3 hkey
  go_enter Tryz.func5, Tryz.ntmps5
  go_upto_region 4 with fail
  rw [← HW1.out]
  clear y0 y1 f1 hlen
  go_region_held (fun w' => w'.cell? ⟨p, 2, none⟩ = some (.slice an l.M.length cn) ∧ w'.cell? ⟨p, 3, none⟩ = some (.slice at' s.T.length ct) ∧ w'.cell? ⟨p, 4, none⟩ = some (.map (some l.mb)) ∧ w'.cell? ⟨p, 5, none⟩ = some (.int .i64 ((s.op : Int) + 1))) (go_keep) (fail)
  all_goals
    go_wp2
    go_ret2
    exact ⟨by rw [hcast]; rfl, hF.out⟩
end Go.Proofs.YtifhigajonafdaaGreat
