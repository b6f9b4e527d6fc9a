/-
  A range over a function that keeps what it is at in cells of its own.
-/
import Derived.RangeFuncNested
import Derived.Test.YteabdlandbmdaaaGreatDoorM11
import Derived.Test.YteabdlandbmdaaaGreatDoorM12
import Derived.RangeFuncBound
import Derived.RangeFuncBox
import Derived.RangeFuncOwn
import Derived.Laws.Rows
import Derived.RangeFuncCalls
import Derived.RangeFuncLeaves
import Derived.Shelf.Abstract
import Derived.Lib.IndexLaws
import Derived.Shelf.RegionOpen
import Derived.WalkKit
import Derived.OwnWalkIn
import Derived.TacticsInMore
import Derived.LoopNIn
import Derived.LoopIn
namespace Go.Proofs.YteabdlandbmdaaaGreatDoor
open Go.RowKit
set_option linter.unusedVariables false
set_option linter.unusedSimpArgs false

def AbidesC {β : Type} (k : Nat → Prop) (J : β → World → Prop) : Prop :=
  ∀ s W W' row, J s W → W.grownBy W' row → (∀ r, row = some r → k r) → J s W'
def SeqC {α : Type} (F : Fence) (n : Nat) (P : Program) (g : Nat) (lb : Array Value) (encs : α → Array Value) (k : Nat → Prop) (Kp : World → World → Prop) (S Sp : List α → Prop) (N : Nat) (R : α → World → Prop) (W : World) : Prop :=
  ∀ (l : Nat) (J Jx : List α → World → Prop), AbidesC k J → AbidesC k Jx →
    (∀ pre x W1, J pre W1 → pre.length < N → R x W1 → YieldAt F (n - 1) P l (encs x) W1 fun e W' =>
      (e = .returned (.bool true) ∧ J (pre ++ [x]) W' ∧ Kp W1 W') ∨ (e = .returned (.bool false) ∧ Jx (pre ++ [x]) W' ∧ Kp W1 W')) →
    J [] W →
    CallsIn F n P g (#[.func (.yield l) #[] #[]] ++ lb) W fun e W' => (∃ v, e = .returned v) ∧ ((∃ xs, S xs ∧ J xs W') ∨ (∃ pre, Sp pre ∧ Jx pre W'))
theorem kept_of {k : Nat → Prop} {W W' : World} {row : Option Nat} (hg : W.grownBy W' row) (hr : ∀ r, row = some r → k r) {b : Nat} {o : Obj} (h : W.heap[b]? = some o) (hb : ¬ k b) : W'.heap[b]? = some o :=
  (hg.block b (Array.getElem?_eq_some_iff.1 h).1 (fun e => hb (hr b e.symm))).trans h
def Keep2 (b : Nat) (W W' : World) : Prop := W'.heap[b]? = W.heap[b]? ∧ W'.heap[b + 1]? = W.heap[b + 1]?
def postC {α : Type} (b : Nat) (Kp : World → World → Prop) (I : List α → World → Prop) (Ix : Code → List α → World → Prop) (xs : List α) (W : World) : Exit → Act → World → Prop
  | .normal, _, W' => Keep2 b W W' ∧ Kp W W' ∧ I xs W'
  | .ret, _, W' => Keep2 b W W' ∧ Kp W W' ∧ Ix .ret xs W'
  | .exit id, _, W' => Keep2 b W W' ∧ Kp W W' ∧ Ix (.exit id) xs W'
  | .goto t, _, W' => Keep2 b W W' ∧ Kp W W' ∧ Ix (.goto t) xs W'
  | _, _, _ => False
theorem AbidesC.alloc {β : Type} {k : Nat → Prop} {J : β → World → Prop} (h : AbidesC k J) {s : β} {W : World} (o : Obj) (hs : J s W) : J s (W.alloc o) :=
  h s W _ none hs ⟨rfl, rfl, rfl, by simp, fun b hb _ => Below.heap_alloc W o b hb⟩ (fun r e => by cases e)
theorem AbidesC.putObj {β : Type} {k : Nat → Prop} {J : β → World → Prop} (h : AbidesC k J) {s : β} {W : World} {b : Nat} (o : Obj) (hs : J s W) (hb : k b) : J s (W.putObj b o) :=
  h s W _ (some b) hs (grownBy_putObj' W b o) (fun r e => by cases e; exact hb)
set_option maxHeartbeats 1000000 in
theorem rangeC {F : Fence} {n : Nat} {P : Program} {α : Type} {g : Operand} {ps : Array Tmp} {assign body : Code} {Q : Exit → Act → World → Prop} {a : Act} {w : World}
    (hro : F.round = none) (h1 : 1 ≤ n) {gf : Nat} {lb : Array Value} (hg : a.eval g = .func (.func gf) #[] lb) (hFg : F.fn gf) (eg : ∀ args w, (callFunc gf args).run P w = .ok (.enter gf args) w)
    {encs : α → Array Value} {k : Nat → Prop} {Kp : World → World → Prop} {S Sp : List α → Prop} {N : Nat} {R : α → World → Prop}
    (hseq : ∀ W, W.heap.size = w.heap.size + 2 → Below w.heap.size w W → SeqC F (n - 1) P gf lb encs k Kp S Sp N R W) (hRp : ∀ x A o, R x A → R x (A.putObj (w.heap.size + 1) o))
    (hk0 : ¬ k w.heap.size) (hk1 : ¬ k (w.heap.size + 1))
    (hKt : ∀ {A B C : World}, Kp A B → Kp B C → Kp A C) (hKb : ∀ (W : World) (o' : Obj), w.heap.size + 1 < W.heap.size → Kp W (W.putObj (w.heap.size + 1) o')) (hps : ∀ x, (encs x).size = ps.size)
    (I : List α → World → Prop) (Ix : Code → List α → World → Prop) (hI : AbidesC (fun r => k r ∨ r = w.heap.size + 1) I) (hIx : ∀ c, AbidesC (fun r => k r ∨ r = w.heap.size + 1) (Ix c)) (h0 : I [] w) (a₁ : α → Act)
    (hassign : ∀ (l : Nat) (x : α) (W : World) (K : Act → World → Prop), K (a₁ x) W →
      assign.wpIn (F.inRound l) (n - 1 - 1) P (Exit.then K (fun _ _ _ => False)) { tmps := (ps.zip (encs x)).foldl (fun t (p, v) => t.setIfInBounds p v) a.tmps, defers := [] } W)
    (hbody : ∀ (l : Nat) (pre : List α) (x : α) (W : World), w.heap.size + 1 < W.heap.size → I pre W → pre.length < N → R x W → body.wpIn (F.inRound l) (n - 1 - 1) P (postC w.heap.size Kp I Ix (pre ++ [x]) W) (a₁ x) W)
    (hdone : ∀ (xs : List α) (W : World), S xs → I xs W → W.heap[w.heap.size]? = some (.deferred (some [])) → Q .normal { a with defers := { target := .collected w.heap.size, args := #[] } :: a.defers } W)
    (hstop : ∀ (c : Code) (pre : List α) (W : World), Sp pre → Ix c pre W → W.heap[w.heap.size]? = some (.deferred (some [])) → c.wpIn F n P Q { a with defers := { target := .collected w.heap.size, args := #[] } :: a.defers } W) :
    (Code.rangeFunc g ps assign body).wpIn F n P Q a w := by
  refine wpIn_rangeFunc fun fn hfn => ?_
  rw [hro]
  obtain ⟨lp, hlp⟩ : ∃ lp : LoopState → Option Code → Loop, lp = fun st pe => { state := st, pending := pe, fn, tmps := a.tmps, params := ps, assign, body, defers := w.heap.size } := ⟨_, rfl⟩
  obtain ⟨W1, hW1⟩ : ∃ W1, (w.alloc (.deferred (some []))).alloc (.loop (lp .ready none)) = W1 := ⟨_, rfl⟩
  have hs1 : W1.heap.size = w.heap.size + 2 := by rw [← hW1]; simp
  have hB1 : Below w.heap.size w W1 := by rw [← hW1]; exact ((Below.refl _ w).alloc (Nat.le_refl _) _).alloc (by simp) _
  have hL1 : W1.heap[w.heap.size + 1]? = some (.loop (lp .ready none)) := by
    have := World.alloc_heap_new (w.alloc (.deferred (some []))) (.loop (lp .ready none))
    rwa [World.size_alloc, hW1] at this
  have hD1 : W1.heap[w.heap.size]? = some (.deferred (some [])) := by
    rw [← hW1]; exact (Below.heap_alloc _ _ _ (by simp)).trans (World.alloc_heap_new w _)
  have hI1 : I [] W1 := by rw [← hW1]; exact hI.alloc _ (hI.alloc _ h0)
  refine ⟨w.heap.size + 1, [{ target := .collected w.heap.size, args := #[] }], W1, { target := .fn (.func gf) lb, args := #[.func (.yield (w.heap.size + 1)) #[] #[]] }, W1, gf, #[.func (.yield (w.heap.size + 1)) #[] #[]] ++ lb, W1, ?_, ?_, ?_, ?_, fun _ => h1, ?_⟩
  · rw [← hW1, hlp]; exact run_enterLoop_outer _ _ _ _ _
  · simp only [resolve, hg]; simp [go_sem]
  · intro f' hf'; simp [Target.leads] at hf'; subst hf'; exact hFg
  · simp [invoke, go_sem, eg]
  refine (hseq W1 hs1 hB1 (w.heap.size + 1)
    (fun pre W => I pre W ∧ W.heap[w.heap.size + 1]? = some (.loop (lp .ready none)) ∧ W.heap[w.heap.size]? = some (.deferred (some [])))
    (fun pre W => ∃ c, Ix c pre W ∧ W.heap[w.heap.size + 1]? = some (.loop (lp .done (some c))) ∧ W.heap[w.heap.size]? = some (.deferred (some [])))
    (fun s A B row hs hg' hr => ⟨hI s A B row hs.1 hg' (fun r e => .inl (hr r e)), kept_of hg' hr hs.2.1 hk1, kept_of hg' hr hs.2.2 hk0⟩)
    (fun s A B row ⟨c, hc, hl, hd⟩ hg' hr => ⟨c, hIx c s A B row hc hg' (fun r e => .inl (hr r e)), kept_of hg' hr hl hk1, kept_of hg' hr hd hk0⟩)
    ?_ ⟨hI1, hL1, hD1⟩).mono ?_
  · rintro pre x W ⟨hi, hl, hd⟩ hlen hRW
    have hlt : w.heap.size + 1 < W.heap.size := (Array.getElem?_eq_some_iff.1 hl).1
    have hy := run_yield (P := P) (args := encs x) hl (by rw [hlp]; exact hps x)
    rw [hlp] at hy
    refine ⟨fn, _, assign, body, hy, roundIn_of_wpIn hfn (hassign _ x W _ ?_)⟩
    clear hy
    refine ⟨_, run_beginRound hl (by rw [hlp]), ?_⟩
    obtain ⟨Wb, hWb⟩ : ∃ Wb, W.putObj (w.heap.size + 1) (.loop { lp .ready none with state := .busy }) = Wb := ⟨_, rfl⟩
    have hl2 : Wb.heap[w.heap.size + 1]? = some (.loop { lp .ready none with state := .busy }) := by rw [← hWb]; exact World.putObj_heap_same hlt
    have hd2 : Wb.heap[w.heap.size]? = some (.deferred (some [])) := by rw [← hWb]; exact (World.putObj_heap_other (by omega)).trans hd
    have hkb : Kp W Wb := by rw [← hWb]; exact hKb _ _ hlt
    have hib : I pre Wb := by rw [← hWb]; exact hI.putObj _ hi (.inr rfl)
    have hltb : w.heap.size + 1 < Wb.heap.size := (Array.getElem?_eq_some_iff.1 hl2).1
    have hRb : R x Wb := by rw [← hWb]; exact hRp _ _ _ hRW
    rw [hWb]
    refine wpIn_mono (hbody _ pre x Wb hltb hib hlen hRb) ?_
    have fin : ∀ (jump : Option Code) (W3 : World), Keep2 w.heap.size Wb W3 →
        (Instr.endRound (w.heap.size + 1) jump).run P W3 = .ok (.bool jump.isNone) (W3.putObj (w.heap.size + 1) (.loop (lp (if jump.isNone then .ready else .done) jump))) ∧
        W3.heap[w.heap.size + 1]? = some (.loop { lp .ready none with state := .busy }) ∧
        (W3.putObj (w.heap.size + 1) (.loop (lp (if jump.isNone then .ready else .done) jump))).heap[w.heap.size + 1]? = some (.loop (lp (if jump.isNone then .ready else .done) jump)) ∧
        (W3.putObj (w.heap.size + 1) (.loop (lp (if jump.isNone then .ready else .done) jump))).heap[w.heap.size]? = some (.deferred (some [])) := fun jump W3 hk3 => by
      have hl3 := hk3.2.trans hl2
      have := run_endRound (P := P) jump hl3
      rw [hlp] at this ⊢
      exact ⟨this, by rw [hlp] at hl3; exact hl3, World.putObj_heap_same (Array.getElem?_eq_some_iff.1 hl3).1, (World.putObj_heap_other (by omega)).trans (hk3.1.trans hd2)⟩
    rintro e a3 W3 hp
    cases e with
    | normal =>
      obtain ⟨hk3, hkp3, hi3⟩ := hp
      obtain ⟨hr, hl3, hl4, hd4⟩ := fin none W3 hk3
      exact ⟨_, _, hr, .inl ⟨rfl, ⟨hI.putObj _ hi3 (.inr rfl), hl4, hd4⟩, hKt (hKt hkb hkp3) (hKb _ _ (Array.getElem?_eq_some_iff.1 hl3).1)⟩⟩
    | ret =>
      obtain ⟨hk3, hkp3, hi3⟩ := hp
      obtain ⟨hr, hl3, hl4, hd4⟩ := fin (some .ret) W3 hk3
      exact ⟨_, _, hr, .inr ⟨rfl, ⟨.ret, (hIx _).putObj _ hi3 (.inr rfl), hl4, hd4⟩, hKt (hKt hkb hkp3) (hKb _ _ (Array.getElem?_eq_some_iff.1 hl3).1)⟩⟩
    | exit id =>
      obtain ⟨hk3, hkp3, hi3⟩ := hp
      obtain ⟨hr, hl3, hl4, hd4⟩ := fin (some (.exit id)) W3 hk3
      exact ⟨_, _, hr, .inr ⟨rfl, ⟨.exit id, (hIx _).putObj _ hi3 (.inr rfl), hl4, hd4⟩, hKt (hKt hkb hkp3) (hKb _ _ (Array.getElem?_eq_some_iff.1 hl3).1)⟩⟩
    | goto t =>
      obtain ⟨hk3, hkp3, hi3⟩ := hp
      obtain ⟨hr, hl3, hl4, hd4⟩ := fin (some (.goto t)) W3 hk3
      exact ⟨_, _, hr, .inr ⟨rfl, ⟨.goto t, (hIx _).putObj _ hi3 (.inr rfl), hl4, hd4⟩, hKt (hKt hkb hkp3) (hKb _ _ (Array.getElem?_eq_some_iff.1 hl3).1)⟩⟩
    | panic ch => exact hp.elim
    | outgrown => exact hp.elim
  · rintro e W2 ⟨⟨v, rfl⟩, (⟨xs, hS, hi, hl, hd⟩ | ⟨pre, hSp, c, hi, hl, hd⟩)⟩
    · exact ⟨none, _, by have := run_endLoop (P := P) hl (by rw [hlp]; simp); rw [hlp] at this; exact this, hdone xs _ hS (hI.putObj _ hi (.inr rfl)) ((World.putObj_heap_other (by omega)).trans hd)⟩
    · exact ⟨some c, _, by have := run_endLoop (P := P) hl (by rw [hlp]; simp); rw [hlp] at this; exact this, hstop c pre _ hSp ((hIx c).putObj _ hi (.inr rfl)) ((World.putObj_heap_other (by omega)).trans hd)⟩
end Go.Proofs.YteabdlandbmdaaaGreatDoor

/-
  The walk of strings.Lines's iterator.
-/
namespace Go.Proofs.YteabdlandbmdaaaGreatDoor
open Go.RowKit Go.Shelf
attribute [local go_sem] Oper.semAt_some
set_option linter.unusedVariables false
set_option linter.unusedSimpArgs false

theorem bs_take (l : Nm) (i : Nat) : (bs l).extract 0 i = bs (l.take i) := by
  rw [← bs_self ((bs l).extract 0 i), Lib.toList_data]
  congr 1
  rw [ByteArray.data_extract, Array.toList_extract, bs_data]
  simp [List.extract]
theorem bs_drop (l : Nm) (i : Nat) : (bs l).extract i l.length = bs (l.drop i) := by
  rw [← bs_self ((bs l).extract i l.length), Lib.toList_data]
  congr 1
  rw [ByteArray.data_extract, Array.toList_extract, bs_data]
  simp only [List.extract]
  rw [List.take_of_length_le (by simp)]
theorem gr_drew {w w' : World} {row : Option Nat} (h : w.grownBy w' row) : w.grownBy w'.drew row := ⟨h.os, h.tape, h.output, h.size, h.block⟩
def txtL (w : World) (b : Nat) : Nat := match w.heap[b]? with
  | some (Obj.cells cs _ _) => (match cs[0]? with | some (Value.string s) => s.size | _ => 0)
  | _ => 0
theorem txtL_of {w : World} {b : Nat} {s : ByteArray} (h : w.heap[b]? = some (.cells #[.string s] 9 (0, 0))) : txtL w b = s.size := by unfold txtL; rw [h]; rfl
set_option maxHeartbeats 4000000 in
set_option maxRecDepth 100000 in
theorem lines1_in (n l Bs : Nat) (hn : 1 ≤ n) (x : Nm) (hx : x.length ≤ 140737488355328) (Kp : World → World → Prop) (hKp : ∀ A B, Kp A B → B.heap[Bs]? = A.heap[Bs]?) (J Jx : List Nm → World → Prop) (hJk : AbidesC (· = Bs) J)
    (hY : ∀ pre y W, J pre W → pre.length < (linesL x).length → y.length ≤ x.length → YieldAt Fence.wide (n - 1) Tryz.prog l #[.string (bs y)] W fun e W' =>
      (e = .returned (.bool true) ∧ J (pre ++ [y]) W' ∧ Kp W W') ∨ (e = .returned (.bool false) ∧ Jx (pre ++ [y]) W' ∧ Kp W W'))
    (W : World) (hB : W.heap[Bs]? = some (.cells #[.string (bs x)] 9 (0, 0))) (h0 : J [] W) :
    CallsIn Fence.wide n Tryz.prog 33 #[.func (.yield l) #[] #[], .pointer (some ⟨Bs, 0, none⟩)] W fun e W' => (∃ v, e = .returned v) ∧
      ((∃ ys, ys = linesL x ∧ J ys W') ∨ (∃ pre, pre <+: linesL x ∧ Jx pre W')) := by
  refine callsIn_of_wp Tryz.func33 rfl trivial ?_ rfl
  simp only [Tryz.ntmps33, List.size_toArray, List.length_cons, List.length_nil, Nat.reduceAdd, Nat.reduceSub, Array.replicate_succ, Array.replicate_zero, List.push_toArray, List.append_toArray, List.nil_append, List.cons_append]
  gi_wp2
  gi_loopw [4] (fun p wr => ∃ (pre : List Nm) (r : Nm), linesL x = pre ++ linesL r ∧ r.length ≤ x.length ∧ wr.heap[Bs]? = some (.cells #[.string (bs r)] 9 (0, 0)) ∧ J pre wr)
    (fun _ wr => txtL wr Bs)
  case atStart =>
    exact ⟨[], x, rfl, Nat.le_refl _, hB, h0⟩
  case round =>
    obtain ⟨pre, r, hx', hr, hb, hJs⟩ := hrel
    have hc : wr.cell? ⟨Bs, 0, none⟩ = some (.string (bs r)) := cellB (i := 0) hb rfl
    have hf : wr.frozen? ⟨Bs, 0, none⟩ = false := frzB (i := 0) hb
    by_cases hrn : r = []
    · subst hrn
      gi_wp2
      go_end0
      exact ⟨⟨_, rfl⟩, .inl ⟨pre, by simp [hx', linesL_nil], hJs⟩⟩
    · have hpos : 0 < r.length := List.length_pos_iff.2 hrn
      have hbl : (bs r).data.toList = r := by simp [bs]
      have c83 := callsIn_wide (n := n - 1) |>.2 ((Tryz.strings_IndexByte (bs r) 10 wr).mono (R' := fun e w' => e = .returned (.int .i64 (Lib.indexByte (bs r).data.toList (10 : Int).toNat.toUInt8)) ∧ wr = w') fun e w' h => ⟨h.1, h.2.symm⟩)
      rw [hbl, show (10 : Int).toNat.toUInt8 = 10 from rfl] at c83
      have hlen : pre.length < (linesL x).length := by rw [hx', linesL_cons hrn]; simp
      by_cases hm : Lib.indexByte r 10 = -1
      · have hcut : cutL r = (r, []) := by unfold cutL; rw [if_pos hm]
        rw [hm] at c83
        obtain ⟨fn, tmps, assign, body, hy, hR⟩ := hY pre r (wr.setCell ⟨Bs, 0, none⟩ (.string ⟨#[]⟩)) (hJk pre _ _ _ hJs (grownBy_setCell' wr Bs _) (fun r e => by cases e; rfl)) hlen hr
        gi_wp2_with (refine ⟨trivial, ?_⟩; gi_at_call 34; refine c83.mono ?_; rintro e w' ⟨rfl, rfl⟩)
        refine hR.mono ?_
        rintro e W3 (⟨rfl, hJ3, hk3⟩ | ⟨rfl, hJx3, _⟩)
        · have hb3 := (hKp _ _ hk3).trans ((heap_setCell_same wr Bs 0 _ 9 _ hb).trans rfl)
          gi_wp2
          go_roundw
          case rel => exact ⟨pre ++ [r], [], by rw [hx', linesL_cons hrn, hcut]; simp [linesL_nil], Nat.zero_le _, hb3, hJ3⟩
          case measure => rw [txtL_of hb3, txtL_of hb, bs_size]; exact hpos
        · gi_wp2
          refine bodyPost_ret (results_none rfl _ _ _) rfl ?_
          exact ⟨⟨_, rfl⟩, .inr ⟨pre ++ [r], by rw [hx', linesL_cons hrn, hcut]; simp [linesL_nil], hJx3⟩⟩
      · obtain ⟨i, hi⟩ : ∃ i : Nat, Lib.indexByte r 10 = i := ⟨(Lib.indexByte r 10).toNat, by have := Lib.indexByte_ge r 10; omega⟩
        have hil : i < r.length := by have := (Lib.indexByte_some hi).1; exact (List.getElem?_eq_some_iff.1 this).1
        have hcut : cutL r = (r.take (i + 1), r.drop (i + 1)) := by unfold cutL; rw [if_neg hm, hi]; rfl
        rw [hi] at c83
        have hbz : (bs r).size = r.length := bs_size r
        gi_wp2_with (refine ⟨trivial, ?_⟩; gi_at_call 34; refine c83.mono ?_; rintro e w' ⟨rfl, rfl⟩)
        obtain ⟨fn, tmps, assign, body, hy, hR⟩ := hY pre (r.take (i + 1)) ((wr.setCell ⟨Bs, 0, none⟩ (.string (bs (r.drop (i + 1))))).drew) (hJk pre _ _ _ hJs (gr_drew (grownBy_setCell' wr Bs _)) (fun r e => by cases e; rfl)) hlen (by rw [List.length_take]; omega)
        gi_region
        rw [bs_take, bs_drop]
        have hbW : (wr.setCell ⟨Bs, 0, none⟩ (.string (bs (r.drop (i + 1))))).drew.heap[Bs]? = some (.cells #[.string (bs (r.drop (i + 1)))] 9 (0, 0)) := (heap_setCell_same wr Bs 0 _ 9 _ hb).trans rfl
        gi_wp2
        refine hR.mono ?_
        rintro e W3 (⟨rfl, hJ3, hk3⟩ | ⟨rfl, hJx3, _⟩)
        · have hb3 := (hKp _ _ hk3).trans hbW
          gi_wp2
          go_roundw
          case rel => exact ⟨pre ++ [r.take (i + 1)], r.drop (i + 1), by rw [hx', linesL_cons hrn, hcut]; simp, by rw [List.length_drop]; omega, hb3, hJ3⟩
          case measure => rw [txtL_of hb3, txtL_of hb, bs_size, bs_size, List.length_drop]; omega
        · gi_wp2
          refine bodyPost_ret (results_none rfl _ _ _) rfl ?_
          exact ⟨⟨_, rfl⟩, .inr ⟨pre ++ [r.take (i + 1)], by rw [hx', linesL_cons hrn, hcut]; simp, hJx3⟩⟩
theorem lines1_seq (n Bs : Nat) (hn : 1 ≤ n) (x : Nm) (hx : x.length ≤ 140737488355328) (Kp : World → World → Prop) (hKp : ∀ A B, Kp A B → B.heap[Bs]? = A.heap[Bs]?) (W : World) (hB : W.heap[Bs]? = some (.cells #[.string (bs x)] 9 (0, 0))) :
    SeqC Fence.wide n Tryz.prog 33 #[.pointer (some ⟨Bs, 0, none⟩)] (fun y : Nm => #[.string (bs y)]) (· = Bs) Kp (· = linesL x) (· <+: linesL x) (linesL x).length (fun y _ => y.length ≤ x.length) W :=
  fun l J Jx hJ hJx hY h0 => lines1_in n l Bs hn x hx Kp hKp J Jx hJ hY W hB h0
end Go.Proofs.YteabdlandbmdaaaGreatDoor

/-
  The walk of schema.lines and of its iterator.
-/
namespace Go.Proofs.YteabdlandbmdaaaGreatDoor
open Go.RowKit Go.Shelf
set_option linter.unusedVariables false
set_option linter.unusedSimpArgs false

theorem stringsLines_any (s : ByteArray) (w : World) : Calls Tryz.prog 18 #[.string s] w fun e w' => e = .returned (.func (.func 33) #[] #[.pointer (some ⟨w.heap.size, 0, none⟩)]) ∧ w.alloc (.cells #[.string s] 9) = w' := by
  go_enter Tryz.func18, Tryz.ntmps18
  go_wp2
  go_ret
  exact ⟨rfl, rfl⟩
theorem lines_any (s : ByteArray) (w : World) : Calls Tryz.prog 7 #[.string s] w fun e w' => e = .returned (.func (.func 17) #[] #[.pointer (some ⟨w.heap.size, 0, none⟩)]) ∧ w.alloc (.cells #[.string s] 9) = w' := by
  go_enter Tryz.func7, Tryz.ntmps7
  go_wp2
  go_ret
  exact ⟨rfl, rfl⟩
def numL (L : List Nm) : List (Nat × Nm) := L.zipIdx.map fun p => (p.2, p.1)
theorem numL_snoc (L : List Nm) (y : Nm) : numL (L ++ [y]) = numL L ++ [(L.length, y)] := by
  unfold numL
  rw [List.zipIdx_append, List.map_append]
  simp
theorem numL_len (L : List Nm) : (numL L).length = L.length := by simp [numL]
theorem numL_pre {L M : List Nm} (h : L <+: M) : numL L <+: numL M := by
  obtain ⟨t, rfl⟩ := h
  unfold numL
  rw [List.zipIdx_append, List.map_append]
  exact ⟨_, rfl⟩
theorem roundIn_wide {m m' : Nat} {P : Program} {l l2 : Nat} {f : FuncId} {tmps : Array Value} {assign body : Code} {w : World} {R : Ending → World → Prop} (h : RoundIn Fence.wide m P l f tmps assign body w R) : RoundIn (Fence.wide.inRound l2) m' P l f tmps assign body w R := ⟨h.1, fun c cs _ => h.2 c cs (room_wide _)⟩
end Go.Proofs.YteabdlandbmdaaaGreatDoor

/-
  The walk of schema.lines's iterator.
-/
namespace Go.Proofs.YteabdlandbmdaaaGreatDoor
open Go.RowKit Go.Shelf
attribute [local go_sem] Oper.semAt_some
set_option linter.unusedVariables false
set_option linter.unusedSimpArgs false

set_option maxHeartbeats 4000000 in
set_option maxRecDepth 100000 in
theorem linesI_in (n l Bt s : Nat) (hn : 5 ≤ n) (x : Nm) (hx : x.length ≤ 140737488355328) (Kp : World → World → Prop) (hKp : ∀ A B, Kp A B → ∀ b, s ≤ b → b ≤ s + 4 → B.heap[b]? = A.heap[b]?) (J Jx : List (Nat × Nm) → World → Prop) (hJk : AbidesC (fun r => s ≤ r ∧ r ≤ s + 4) J) (hJxk : AbidesC (fun r => s ≤ r ∧ r ≤ s + 4) Jx)
    (hY : ∀ pre y W, J pre W → pre.length < (linesL x).length → y.2.length ≤ x.length ∧ s + 4 < W.heap.size → YieldAt Fence.wide (n - 1) Tryz.prog l #[.int .i64 y.1, .string (bs y.2)] W fun e W' =>
      (e = .returned (.bool true) ∧ J (pre ++ [y]) W' ∧ Kp W W') ∨ (e = .returned (.bool false) ∧ Jx (pre ++ [y]) W' ∧ Kp W W'))
    (W : World) (hs : W.heap.size = s) (hB : W.heap[Bt]? = some (.cells #[.string (bs x)] 9 (0, 0))) (h0 : J [] W) :
    CallsIn Fence.wide n Tryz.prog 17 #[.func (.yield l) #[] #[], .pointer (some ⟨Bt, 0, none⟩)] W fun e W' => (∃ v, e = .returned v) ∧
      ((∃ ys, ys = numL (linesL x) ∧ J ys W') ∨ (∃ pre, pre <+: numL (linesL x) ∧ Jx pre W')) := by
  have hBt : Bt < s := by have := (Array.getElem?_eq_some_iff.1 hB).1; omega
  have h1 : 1 ≤ n := by omega
  have hc : W.cell? ⟨Bt, 0, none⟩ = some (.string (bs x)) := cellB (i := 0) hB rfl
  refine callsIn_of_wp_marks Tryz.func17 rfl trivial ?_ rfl
  simp only [Tryz.ntmps17, List.size_toArray, List.length_cons, List.length_nil, Nat.reduceAdd, Nat.reduceSub, Array.replicate_succ, Array.replicate_zero, List.push_toArray, List.append_toArray, List.nil_append, List.cons_append]
  subst hs
  have hBt1 : ¬ Bt = W.heap.size := by omega
  have hBt2 : ¬ Bt = W.heap.size + 1 := by omega
  have c54 := fun w' => callsIn_wide (n := n - 1) |>.2 (stringsLines_any (bs x) w')
  gi_wp2_with (refine ⟨trivial, ?_⟩; gi_at_call 18; refine (c54 _).mono ?_; rintro e w' ⟨rfl, rfl⟩)
  obtain ⟨S, hS⟩ : ∃ S, S = W.heap.size := ⟨_, rfl⟩
  obtain ⟨W0, hW0⟩ : ∃ W0, ((W.alloc (.cells #[.func (.yield l) #[] #[]] 64)).alloc (.cells #[.int .i64 0] 3)).alloc (.cells #[.string (bs x)] 9) = W0 := ⟨_, rfl⟩
  have hz : W0.heap.size = S + 3 := by rw [← hW0, hS]; simp
  have hb2 : W0.heap[S + 2]? = some (.cells #[.string (bs x)] 9 (0, 0)) := by
    have := World.alloc_heap_new ((W.alloc (.cells #[.func (.yield l) #[] #[]] 64)).alloc (.cells #[.int .i64 0] 3)) (.cells #[.string (bs x)] 9)
    rw [hW0] at this; rw [hS]; simpa using this
  have hb1 : W0.heap[S + 1]? = some (.cells #[.int .i64 0] 3 (0, 0)) := by
    have := World.alloc_heap_new (W.alloc (.cells #[.func (.yield l) #[] #[]] 64)) (.cells #[.int .i64 0] 3)
    rw [← hW0, Below.heap_alloc _ _ _ (by simp [hS] <;> omega), hS]; simpa using this
  have hb0 : W0.heap[S]? = some (.cells #[.func (.yield l) #[] #[]] 64 (0, 0)) := by
    have := World.alloc_heap_new W (.cells #[.func (.yield l) #[] #[]] 64)
    rw [← hW0, Below.heap_alloc _ _ _ (by simp [hS] <;> omega), Below.heap_alloc _ _ _ (by simp [hS] <;> omega), hS]; exact this
  have hJ0 : J [] W0 := by rw [← hW0]; exact hJk.alloc _ (hJk.alloc _ (hJk.alloc _ h0))
  rw [hW0]
  rw [← hS] at hKp hJk hJxk hY ⊢
  clear hS hW0 hBt1 hBt2 hBt hc c54 h0 hB
  refine rangeC (w := W0) (k := (· = S + 2)) (Kp := fun A B => B.heap[S + 2]? = A.heap[S + 2]?) (S := (· = linesL x)) (Sp := (· <+: linesL x)) (N := (linesL x).length) (encs := fun y : Nm => #[.string (bs y)]) rfl h1 (gf := 33) (lb := #[.pointer (some ⟨S + 1 + 1, 0, none⟩)]) rfl trivial (enters_of Tryz.func33 (by kernel_rfl) rfl)
    (fun W1 hs1 hB1 => lines1_seq (n - 1) (S + 2) (by omega) x hx _ (fun A B h => h) W1 ((hB1.block _ (by omega)).trans hb2)) (fun _ _ _ h => h)
    (by omega) (by omega) (fun h1 h2 => h2.trans h1) (fun A o' hlt => World.putObj_heap_other (by omega)) (fun _ => rfl)
    (fun pre A => (A.heap[S]? = some (.cells #[.func (.yield l) #[] #[]] 64 (0, 0)) ∧ A.heap[S + 1]? = some (.cells #[.int .i64 pre.length] 3 (0, 0))) ∧ J (numL pre) A)
    (fun c pre A => c = .ret ∧ Jx (numL pre) A)
    (fun pre A B row hs hg hr => ⟨⟨kept_of hg hr hs.1.1 (by omega), kept_of hg hr hs.1.2 (by omega)⟩, hJk _ A B row hs.2 hg (fun r e => by have := hr r e; omega)⟩)
    (fun c pre A B row hs hg hr => ⟨hs.1, hJxk _ A B row hs.2 hg (fun r e => by have := hr r e; omega)⟩)
    ⟨⟨hb0, hb1⟩, hJ0⟩
    (fun y => { tmps := #[.func (.yield l) #[] #[], .pointer (some ⟨Bt, 0, none⟩), .pointer (some ⟨S, 0, none⟩), .pointer (some ⟨S + 1, 0, none⟩), .string (bs y), .string (bs x), .func (.func 33) #[] #[.pointer (some ⟨S + 1 + 1, 0, none⟩)], .string (bs y), undef, undef, undef, undef, undef, undef, undef], defers := [] }) ?assign ?body ?done ?stop
  case assign =>
    intro l2 y A K hK
    gi_wp2
    exact hK
  case body =>
    rintro l2 pre y A hlt ⟨⟨q0, q1⟩, hJ1⟩ hlen hyl
    rw [hz] at hlt
    have k0 : A.cell? ⟨S, 0, none⟩ = some (.func (.yield l) #[] #[]) := cellB (i := 0) q0 rfl
    have k1 : A.cell? ⟨S + 1, 0, none⟩ = some (.int .i64 pre.length) := cellB (i := 0) q1 rfl
    obtain ⟨fn, tmps, assign, body, hy, hR⟩ := hY (numL pre) (pre.length, y) A hJ1 (by rw [numL_len]; exact hlen) ⟨hyl, hlt⟩
    dsimp only at hy
    have hR' := roundIn_wide (l2 := l2) (m' := n - 1 - 1 - 1) hR
    have hpl : pre.length ≤ 140737488355328 := by have := linesF_le x.length x; unfold linesL at hlen; omega
    gi_wp2
    refine ⟨fun _ => by omega, hR'.mono ?_⟩
    rintro e W3 (⟨rfl, hJ3, hk3⟩ | ⟨rfl, hJx3, hk3⟩)
    · have q1' := (hKp _ _ hk3 (S + 1) (by omega) (by omega)).trans q1
      have q0' := (hKp _ _ hk3 S (by omega) (by omega)).trans q0
      have z1 : W3.cell? ⟨S + 1, 0, none⟩ = some (.int .i64 pre.length) := cellB (i := 0) q1' rfl
      have f1 : W3.frozen? ⟨S + 1, 0, none⟩ = false := frzB (i := 0) q1'
      gi_wp2
      rw [hz]
      refine ⟨⟨?_, ?_⟩, ?_, ⟨?_, ?_⟩, ?_⟩
      · exact (heap_setCell_other _ _ _ _ (by simp)).trans (hKp _ _ hk3 (S + 3) (by omega) (by omega))
      · exact (heap_setCell_other _ _ _ _ (by simp)).trans (hKp _ _ hk3 (S + 3 + 1) (by omega) (by omega))
      · exact (heap_setCell_other _ _ _ _ (by simp)).trans (hKp _ _ hk3 (S + 2) (by omega) (by omega))
      · exact (heap_setCell_other _ _ _ _ (by simp)).trans q0'
      · have := heap_setCell_same W3 (S + 1) 0 _ 3 (.int .i64 ((pre.length : Int) + 1)) q1'
        refine this.trans ?_
        simp
      · rw [numL_snoc]
        exact hJk _ _ _ _ hJ3 (grownBy_setCell' W3 (S + 1) _) (fun r e => by cases e; omega)
    · gi_wp2
      rw [hz]
      exact ⟨⟨hKp _ _ hk3 (S + 3) (by omega) (by omega), hKp _ _ hk3 (S + 3 + 1) (by omega) (by omega)⟩, hKp _ _ hk3 (S + 2) (by omega) (by omega), rfl, by rw [numL_snoc]; exact hJx3⟩
  case done =>
    rintro ys A rfl ⟨_, hJ1⟩ hK
    rw [hz] at hK ⊢
    gi_wp2
    refine ⟨by simp, .inl ⟨_, _, rfl, run_takeDeferred hK, ?_⟩⟩
    exact ⟨_, results_none rfl _ _ _, ⟨_, rfl⟩, .inl ⟨_, rfl, hJk.putObj _ hJ1 (by omega)⟩⟩
  case stop =>
    rintro c pre A hp ⟨rfl, hJ1⟩ hK
    rw [hz] at hK ⊢
    gi_wp2
    refine ⟨by simp, .inl ⟨_, _, rfl, run_takeDeferred hK, ?_⟩⟩
    exact ⟨_, results_none rfl _ _ _, ⟨_, rfl⟩, .inr ⟨_, numL_pre hp, hJxk.putObj _ hJ1 (by omega)⟩⟩
theorem linesI_seq (n Bt : Nat) (hn : 5 ≤ n) (x : Nm) (hx : x.length ≤ 140737488355328) (Kp : World → World → Prop) (W : World) (hKp : ∀ A B, Kp A B → ∀ b, W.heap.size ≤ b → b ≤ W.heap.size + 4 → B.heap[b]? = A.heap[b]?) (hB : W.heap[Bt]? = some (.cells #[.string (bs x)] 9 (0, 0))) :
    SeqC Fence.wide n Tryz.prog 17 #[.pointer (some ⟨Bt, 0, none⟩)] (fun y : Nat × Nm => #[.int .i64 y.1, .string (bs y.2)]) (fun r => W.heap.size ≤ r ∧ r ≤ W.heap.size + 4) Kp (· = numL (linesL x)) (· <+: numL (linesL x)) (linesL x).length (fun y A => y.2.length ≤ x.length ∧ W.heap.size + 4 < A.heap.size) W :=
  fun l J Jx hJ hJx hY h0 => linesI_in n l Bt _ hn x hx Kp hKp J Jx hJ hJx hY W rfl hB h0
end Go.Proofs.YteabdlandbmdaaaGreatDoor
