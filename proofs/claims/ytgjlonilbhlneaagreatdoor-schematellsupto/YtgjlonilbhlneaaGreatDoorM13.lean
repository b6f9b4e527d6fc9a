/-
  A range over a function that keeps what it is at in cells of its own.
-/
import Derived.RangeFuncNested
import Derived.Test.YtgjlonilbhlneaaGreatDoorM09
import Derived.Test.YtgjlonilbhlneaaGreatDoorM01
import Derived.RangeFuncBound
import Derived.RangeFuncCalls
import Derived.RangeFuncLeaves
import Derived.Shelf.Abstract
import Derived.Shelf.RegionOpen
import Derived.WalkKit
import Derived.OwnWalkIn
import Derived.TacticsInMore
import Derived.LoopNIn
import Derived.LoopIn
import Derived.Lib.IndexLaws
import Derived.Test.YtgjlonilbhlneaaGreatDoorM08
import Derived.Laws.RangeAny
import Derived.Lib.OthersKept
import Derived.Lib.TrimU
import Derived.WalkMore
import Derived.Deep.LoopGhost
namespace Go.Proofs.YtgjlonilbhlneaaGreatDoor
open Go.RowKit
set_option linter.unusedVariables false
set_option linter.unusedSimpArgs false

def AbidesC {β : Type} (k : Nat → Prop) (J : β → World → Prop) : Prop :=
  ∀ s W W' row, J s W → W.grownBy W' row → (∀ r, row = some r → k r) → J s W'
def SeqC {α : Type} (F : Fence) (n : Nat) (P : Program) (g : Nat) (lb : Array Value) (encs : α → Array Value) (k : Nat → Prop) (Kp : World → World → Prop) (S Sp : List α → Prop) (N : Nat) (R : α → World → Prop) (W : World) : Prop :=
  ∀ (l : Nat) (J Jx : List α → World → Prop), AbidesC k J → AbidesC k Jx →
    (∀ pre x W1, J pre W1 → pre.length < N → R x W1 → YieldAt F (n - 1) P l (encs x) W1 fun e W' =>
      (e = .returned (.bool true) ∧ J (pre ++ [x]) W' ∧ Kp W1 W') ∨ (e = .returned (.bool false) ∧ Jx (pre ++ [x]) W' ∧ Kp W1 W')) →
    J [] W →
    CallsIn F n P g (#[.func (.yield l) #[] #[]] ++ lb) W fun e W' => (∃ v, e = .returned v) ∧ ((∃ xs, S xs ∧ J xs W') ∨ (∃ pre, Sp pre ∧ Jx pre W'))
theorem kept_of {k : Nat → Prop} {W W' : World} {row : Option Nat} (hg : W.grownBy W' row) (hr : ∀ r, row = some r → k r) {b : Nat} {o : Obj} (h : W.heap[b]? = some o) (hb : ¬ k b) : W'.heap[b]? = some o :=
  (hg.block b (Array.getElem?_eq_some_iff.1 h).1 (fun e => hb (hr b e.symm))).trans h
def Keep2 (b : Nat) (W W' : World) : Prop := W'.heap[b]? = W.heap[b]? ∧ W'.heap[b + 1]? = W.heap[b + 1]?
def postC {α : Type} (b : Nat) (Kp : World → World → Prop) (I : List α → World → Prop) (Ix : Code → List α → World → Prop) (xs : List α) (W : World) : Exit → Act → World → Prop
  | .normal, _, W' => Keep2 b W W' ∧ Kp W W' ∧ I xs W'
  | .ret, _, W' => Keep2 b W W' ∧ Kp W W' ∧ Ix .ret xs W'
  | .exit id, _, W' => Keep2 b W W' ∧ Kp W W' ∧ Ix (.exit id) xs W'
  | .goto t, _, W' => Keep2 b W W' ∧ Kp W W' ∧ Ix (.goto t) xs W'
  | _, _, _ => False
theorem AbidesC.alloc {β : Type} {k : Nat → Prop} {J : β → World → Prop} (h : AbidesC k J) {s : β} {W : World} (o : Obj) (hs : J s W) : J s (W.alloc o) :=
  h s W _ none hs ⟨rfl, rfl, rfl, by simp, fun b hb _ => Below.heap_alloc W o b hb⟩ (fun r e => by cases e)
theorem AbidesC.putObj {β : Type} {k : Nat → Prop} {J : β → World → Prop} (h : AbidesC k J) {s : β} {W : World} {b : Nat} (o : Obj) (hs : J s W) (hb : k b) : J s (W.putObj b o) :=
  h s W _ (some b) hs (grownBy_putObj' W b o) (fun r e => by cases e; exact hb)
set_option maxHeartbeats 1000000 in
theorem rangeC {F : Fence} {n : Nat} {P : Program} {α : Type} {g : Operand} {ps : Array Tmp} {assign body : Code} {Q : Exit → Act → World → Prop} {a : Act} {w : World}
    (hro : F.round = none) (h1 : 1 ≤ n) {gf : Nat} {lb : Array Value} (hg : a.eval g = .func (.func gf) #[] lb) (hFg : F.fn gf) (eg : ∀ args w, (callFunc gf args).run P w = .ok (.enter gf args) w)
    {encs : α → Array Value} {k : Nat → Prop} {Kp : World → World → Prop} {S Sp : List α → Prop} {N : Nat} {R : α → World → Prop}
    (hseq : ∀ W, W.heap.size = w.heap.size + 2 → Below w.heap.size w W → SeqC F (n - 1) P gf lb encs k Kp S Sp N R W) (hRp : ∀ x A o, R x A → R x (A.putObj (w.heap.size + 1) o))
    (hk0 : ¬ k w.heap.size) (hk1 : ¬ k (w.heap.size + 1))
    (hKt : ∀ {A B C : World}, Kp A B → Kp B C → Kp A C) (hKb : ∀ (W : World) (o' : Obj), w.heap.size + 1 < W.heap.size → Kp W (W.putObj (w.heap.size + 1) o')) (hps : ∀ x, (encs x).size = ps.size)
    (I : List α → World → Prop) (Ix : Code → List α → World → Prop) (hI : AbidesC (fun r => k r ∨ r = w.heap.size + 1) I) (hIx : ∀ c, AbidesC (fun r => k r ∨ r = w.heap.size + 1) (Ix c)) (h0 : I [] w) (a₁ : α → Act)
    (hassign : ∀ (l : Nat) (x : α) (W : World) (K : Act → World → Prop), K (a₁ x) W →
      assign.wpIn (F.inRound l) (n - 1 - 1) P (Exit.then K (fun _ _ _ => False)) { tmps := (ps.zip (encs x)).foldl (fun t (p, v) => t.setIfInBounds p v) a.tmps, defers := [] } W)
    (hbody : ∀ (l : Nat) (pre : List α) (x : α) (W : World), w.heap.size + 1 < W.heap.size → I pre W → pre.length < N → R x W → body.wpIn (F.inRound l) (n - 1 - 1) P (postC w.heap.size Kp I Ix (pre ++ [x]) W) (a₁ x) W)
    (hdone : ∀ (xs : List α) (W : World), S xs → I xs W → W.heap[w.heap.size]? = some (.deferred (some [])) → Q .normal { a with defers := { target := .collected w.heap.size, args := #[] } :: a.defers } W)
    (hstop : ∀ (c : Code) (pre : List α) (W : World), Sp pre → Ix c pre W → W.heap[w.heap.size]? = some (.deferred (some [])) → c.wpIn F n P Q { a with defers := { target := .collected w.heap.size, args := #[] } :: a.defers } W) :
    (Code.rangeFunc g ps assign body).wpIn F n P Q a w := by
  refine wpIn_rangeFunc fun fn hfn => ?_
  rw [hro]
  obtain ⟨lp, hlp⟩ : ∃ lp : LoopState → Option Code → Loop, lp = fun st pe => { state := st, pending := pe, fn, tmps := a.tmps, params := ps, assign, body, defers := w.heap.size } := ⟨_, rfl⟩
  obtain ⟨W1, hW1⟩ : ∃ W1, (w.alloc (.deferred (some []))).alloc (.loop (lp .ready none)) = W1 := ⟨_, rfl⟩
  have hs1 : W1.heap.size = w.heap.size + 2 := by rw [← hW1]; simp
  have hB1 : Below w.heap.size w W1 := by rw [← hW1]; exact ((Below.refl _ w).alloc (Nat.le_refl _) _).alloc (by simp) _
  have hL1 : W1.heap[w.heap.size + 1]? = some (.loop (lp .ready none)) := by
    have := World.alloc_heap_new (w.alloc (.deferred (some []))) (.loop (lp .ready none))
    rwa [World.size_alloc, hW1] at this
  have hD1 : W1.heap[w.heap.size]? = some (.deferred (some [])) := by
    rw [← hW1]; exact (Below.heap_alloc _ _ _ (by simp)).trans (World.alloc_heap_new w _)
  have hI1 : I [] W1 := by rw [← hW1]; exact hI.alloc _ (hI.alloc _ h0)
  refine ⟨w.heap.size + 1, [{ target := .collected w.heap.size, args := #[] }], W1, { target := .fn (.func gf) lb, args := #[.func (.yield (w.heap.size + 1)) #[] #[]] }, W1, gf, #[.func (.yield (w.heap.size + 1)) #[] #[]] ++ lb, W1, ?_, ?_, ?_, ?_, fun _ => h1, ?_⟩
  · rw [← hW1, hlp]; exact run_enterLoop_outer _ _ _ _ _
  · simp only [resolve, hg]; simp [go_sem]
  · intro f' hf'; simp [Target.leads] at hf'; subst hf'; exact hFg
  · simp [invoke, go_sem, eg]
  refine (hseq W1 hs1 hB1 (w.heap.size + 1)
    (fun pre W => I pre W ∧ W.heap[w.heap.size + 1]? = some (.loop (lp .ready none)) ∧ W.heap[w.heap.size]? = some (.deferred (some [])))
    (fun pre W => ∃ c, Ix c pre W ∧ W.heap[w.heap.size + 1]? = some (.loop (lp .done (some c))) ∧ W.heap[w.heap.size]? = some (.deferred (some [])))
    (fun s A B row hs hg' hr => ⟨hI s A B row hs.1 hg' (fun r e => .inl (hr r e)), kept_of hg' hr hs.2.1 hk1, kept_of hg' hr hs.2.2 hk0⟩)
    (fun s A B row ⟨c, hc, hl, hd⟩ hg' hr => ⟨c, hIx c s A B row hc hg' (fun r e => .inl (hr r e)), kept_of hg' hr hl hk1, kept_of hg' hr hd hk0⟩)
    ?_ ⟨hI1, hL1, hD1⟩).mono ?_
  · rintro pre x W ⟨hi, hl, hd⟩ hlen hRW
    have hlt : w.heap.size + 1 < W.heap.size := (Array.getElem?_eq_some_iff.1 hl).1
    have hy := run_yield (P := P) (args := encs x) hl (by rw [hlp]; exact hps x)
    rw [hlp] at hy
    refine ⟨fn, _, assign, body, hy, roundIn_of_wpIn hfn (hassign _ x W _ ?_)⟩
    clear hy
    refine ⟨_, run_beginRound hl (by rw [hlp]), ?_⟩
    obtain ⟨Wb, hWb⟩ : ∃ Wb, W.putObj (w.heap.size + 1) (.loop { lp .ready none with state := .busy }) = Wb := ⟨_, rfl⟩
    have hl2 : Wb.heap[w.heap.size + 1]? = some (.loop { lp .ready none with state := .busy }) := by rw [← hWb]; exact World.putObj_heap_same hlt
    have hd2 : Wb.heap[w.heap.size]? = some (.deferred (some [])) := by rw [← hWb]; exact (World.putObj_heap_other (by omega)).trans hd
    have hkb : Kp W Wb := by rw [← hWb]; exact hKb _ _ hlt
    have hib : I pre Wb := by rw [← hWb]; exact hI.putObj _ hi (.inr rfl)
    have hltb : w.heap.size + 1 < Wb.heap.size := (Array.getElem?_eq_some_iff.1 hl2).1
    have hRb : R x Wb := by rw [← hWb]; exact hRp _ _ _ hRW
    rw [hWb]
    refine wpIn_mono (hbody _ pre x Wb hltb hib hlen hRb) ?_
    have fin : ∀ (jump : Option Code) (W3 : World), Keep2 w.heap.size Wb W3 →
        (Instr.endRound (w.heap.size + 1) jump).run P W3 = .ok (.bool jump.isNone) (W3.putObj (w.heap.size + 1) (.loop (lp (if jump.isNone then .ready else .done) jump))) ∧
        W3.heap[w.heap.size + 1]? = some (.loop { lp .ready none with state := .busy }) ∧
        (W3.putObj (w.heap.size + 1) (.loop (lp (if jump.isNone then .ready else .done) jump))).heap[w.heap.size + 1]? = some (.loop (lp (if jump.isNone then .ready else .done) jump)) ∧
        (W3.putObj (w.heap.size + 1) (.loop (lp (if jump.isNone then .ready else .done) jump))).heap[w.heap.size]? = some (.deferred (some [])) := fun jump W3 hk3 => by
      have hl3 := hk3.2.trans hl2
      have := run_endRound (P := P) jump hl3
      rw [hlp] at this ⊢
      exact ⟨this, by rw [hlp] at hl3; exact hl3, World.putObj_heap_same (Array.getElem?_eq_some_iff.1 hl3).1, (World.putObj_heap_other (by omega)).trans (hk3.1.trans hd2)⟩
    rintro e a3 W3 hp
    cases e with
    | normal =>
      obtain ⟨hk3, hkp3, hi3⟩ := hp
      obtain ⟨hr, hl3, hl4, hd4⟩ := fin none W3 hk3
      exact ⟨_, _, hr, .inl ⟨rfl, ⟨hI.putObj _ hi3 (.inr rfl), hl4, hd4⟩, hKt (hKt hkb hkp3) (hKb _ _ (Array.getElem?_eq_some_iff.1 hl3).1)⟩⟩
    | ret =>
      obtain ⟨hk3, hkp3, hi3⟩ := hp
      obtain ⟨hr, hl3, hl4, hd4⟩ := fin (some .ret) W3 hk3
      exact ⟨_, _, hr, .inr ⟨rfl, ⟨.ret, (hIx _).putObj _ hi3 (.inr rfl), hl4, hd4⟩, hKt (hKt hkb hkp3) (hKb _ _ (Array.getElem?_eq_some_iff.1 hl3).1)⟩⟩
    | exit id =>
      obtain ⟨hk3, hkp3, hi3⟩ := hp
      obtain ⟨hr, hl3, hl4, hd4⟩ := fin (some (.exit id)) W3 hk3
      exact ⟨_, _, hr, .inr ⟨rfl, ⟨.exit id, (hIx _).putObj _ hi3 (.inr rfl), hl4, hd4⟩, hKt (hKt hkb hkp3) (hKb _ _ (Array.getElem?_eq_some_iff.1 hl3).1)⟩⟩
    | goto t =>
      obtain ⟨hk3, hkp3, hi3⟩ := hp
      obtain ⟨hr, hl3, hl4, hd4⟩ := fin (some (.goto t)) W3 hk3
      exact ⟨_, _, hr, .inr ⟨rfl, ⟨.goto t, (hIx _).putObj _ hi3 (.inr rfl), hl4, hd4⟩, hKt (hKt hkb hkp3) (hKb _ _ (Array.getElem?_eq_some_iff.1 hl3).1)⟩⟩
    | panic ch => exact hp.elim
    | outgrown => exact hp.elim
  · rintro e W2 ⟨⟨v, rfl⟩, (⟨xs, hS, hi, hl, hd⟩ | ⟨pre, hSp, c, hi, hl, hd⟩)⟩
    · exact ⟨none, _, by have := run_endLoop (P := P) hl (by rw [hlp]; simp); rw [hlp] at this; exact this, hdone xs _ hS (hI.putObj _ hi (.inr rfl)) ((World.putObj_heap_other (by omega)).trans hd)⟩
    · exact ⟨some c, _, by have := run_endLoop (P := P) hl (by rw [hlp]; simp); rw [hlp] at this; exact this, hstop c pre _ hSp ((hIx c).putObj _ hi (.inr rfl)) ((World.putObj_heap_other (by omega)).trans hd)⟩
end Go.Proofs.YtgjlonilbhlneaaGreatDoor

/-
  strings.Lines: what its iterator hands on.
-/
namespace Go.Proofs.YtgjlonilbhlneaaGreatDoor
open Go.RowKit Go.Shelf
attribute [local go_sem] Oper.semAt_some
set_option linter.unusedVariables false
set_option linter.unusedSimpArgs false

def cutL (l : Nm) : Nm × Nm := if Lib.indexByte l 10 = -1 then (l, []) else (l.take ((Lib.indexByte l 10).toNat + 1), l.drop ((Lib.indexByte l 10).toNat + 1))
def linesF : Nat → Nm → List Nm
  | 0, _ => []
  | k + 1, l => if l = [] then [] else (cutL l).1 :: linesF k (cutL l).2
def linesL (l : Nm) : List Nm := linesF l.length l
theorem cutL_len {l : Nm} (h : l ≠ []) : (cutL l).2.length < l.length := by
  have : 0 < l.length := List.length_pos_iff.2 h
  unfold cutL
  split
  · exact this
  · simp; omega
theorem linesF_any : ∀ (k m : Nat) (l : Nm), l.length ≤ k → l.length ≤ m → linesF k l = linesF m l
  | 0, 0, _, _, _ => rfl
  | 0, m + 1, l, h, _ => by
    have : l = [] := List.eq_nil_of_length_eq_zero (by omega)
    subst this; rfl
  | k + 1, 0, l, _, h => by
    have : l = [] := List.eq_nil_of_length_eq_zero (by omega)
    subst this; rfl
  | k + 1, m + 1, l, h, h' => by
    unfold linesF
    split
    · rfl
    · rename_i hl
      have := cutL_len hl
      rw [linesF_any k m _ (by omega) (by omega)]
theorem linesL_cons {l : Nm} (h : l ≠ []) : linesL l = (cutL l).1 :: linesL (cutL l).2 := by
  unfold linesL
  have hl := cutL_len h
  obtain ⟨k, hk⟩ : ∃ k, l.length = k + 1 := ⟨l.length - 1, by omega⟩
  rw [hk]
  show (if l = [] then [] else _) = _
  rw [if_neg h, linesF_any k _ _ (by omega) (Nat.le_refl _)]
theorem linesL_nil : linesL [] = [] := rfl
end Go.Proofs.YtgjlonilbhlneaaGreatDoor

/-
  Whether a word has a comma or a colon: strings.ContainsAny at any string, of bytes that may be no text.
-/
namespace Go.Proofs.YtgjlonilbhlneaaGreatDoor
open Go.RowKit
set_option linter.unusedVariables false
set_option linter.unusedSimpArgs false

theorem dec_span (s : ByteArray) (pos : Nat) (h : pos < s.size) (ha : 128 ≤ (s[pos]'h).toNat) :
    pos + (Utf8.decode s pos).2 ≤ s.size ∧ ∀ k, k < (Utf8.decode s pos).2 → 128 ≤ (s.get! (pos + k)).toNat := by
  have hn : ¬ (s[pos]'h).toNat < 128 := by omega
  have h0 : 128 ≤ (s.get! (pos + 0)).toNat := by rw [get_at s pos h]; exact ha
  simp only [Utf8.decode, get_at s pos h, hn, if_false]
  split
  · rename_i hc
    simp only [Bool.and_eq_true, beq_iff_eq, decide_eq_true_eq] at hc
    split
    · refine ⟨by simp only; omega, fun k hk => ?_⟩
      simp only at hk
      match k, hk with
      | 0, _ => exact h0
      | 1, _ => omega
    · refine ⟨by simp only; omega, fun k hk => ?_⟩
      simp only at hk
      obtain rfl : k = 0 := by omega
      exact h0
  · split
    · rename_i hc
      simp only [Bool.and_eq_true, beq_iff_eq, decide_eq_true_eq] at hc
      split
      · refine ⟨by simp only; omega, fun k hk => ?_⟩
        simp only at hk
        match k, hk with
        | 0, _ => exact h0
        | 1, _ => omega
        | 2, _ => omega
      · refine ⟨by simp only; omega, fun k hk => ?_⟩
        simp only at hk
        obtain rfl : k = 0 := by omega
        exact h0
    · split
      · rename_i hc
        simp only [Bool.and_eq_true, beq_iff_eq, decide_eq_true_eq] at hc
        split
        · refine ⟨by simp only; omega, fun k hk => ?_⟩
          simp only at hk
          match k, hk with
          | 0, _ => exact h0
          | 1, _ => omega
          | 2, _ => omega
          | 3, _ => omega
        · refine ⟨by simp only; omega, fun k hk => ?_⟩
          simp only at hk
          obtain rfl : k = 0 := by omega
          exact h0
      · refine ⟨by simp only; omega, fun k hk => ?_⟩
        simp only at hk
        obtain rfl : k = 0 := by omega
        exact h0

theorem quiet_a {P : Program} {f : FuncId} {args : Array Value} {w : World} {v : Value} (h : ∀ n, Calls P f args (w.drewN n) fun e w' => e = .returned v ∧ w' = w.drewN n) (a n : Nat) : Calls P f args (w.drewN (a + n)) fun e w'' => e = .returned v ∧ ∃ m, w'' = w.drewN (a + m) :=
  (h (a + n)).mono fun _ _ ⟨he, hm⟩ => ⟨he, n, hm⟩
theorem quiet_b {P : Program} {f : FuncId} {args : Array Value} {w : World} {v : Value} (h : ∀ n, Calls P f args (w.drewN n) fun e w' => e = .returned v ∧ w' = w.drewN n) (a n : Nat) : Calls P f args (w.drewN (a + n)) fun e w'' => e = .returned v ∧ ∃ m, w'' = (w.drewN a).drewN m :=
  (h (a + n)).mono fun _ _ ⟨he, hm⟩ => ⟨he, n, by rw [hm, World.drewN_drewN]⟩
theorem conv_rune (r : Int) (w : World) : (convert 21 9 (.int .i32 r)).run Tryz.prog w = .ok (.string (Utf8.encode r)) w := by
  simp [convert, run_underlying Tryz.underlying21, run_underlying Tryz.underlying9, go_sem, Conv.intToString]
theorem enc_two (r : Nat) (h1 : 128 ≤ r) (h2 : r < 2048) : ∃ a b : UInt8, Utf8.encode (r : Int) = ⟨#[a, b]⟩ ∧ 128 ≤ b.toNat := by
  refine ⟨UInt8.ofNat (192 + r / 64), UInt8.ofNat (128 + r % 64), ?_, ?_⟩
  · have hv : Utf8.valid (r : Int) = true := by unfold Utf8.valid; simp; omega
    unfold Utf8.encode
    simp only [hv, if_true, Int.toNat_natCast]
    rw [if_neg (by omega), if_pos (by omega)]
  · rw [UInt8.toNat_ofNat']; omega
theorem enc_more (r : Nat) (h1 : 2048 ≤ r) : 3 ≤ (Utf8.encode (r : Int)).size := by
  unfold Utf8.encode
  simp only
  split
  · rename_i hv
    simp only [Int.toNat_natCast]
    rw [if_neg (by omega), if_neg (by omega)]
    split <;> simp [ByteArray.size]
  · simp [Utf8.runeError, ByteArray.size]
theorem enc_le (r : Int) : (Utf8.encode r).size ≤ 4 := by
  unfold Utf8.encode
  simp only
  repeat' split
  all_goals simp [ByteArray.size]
set_option maxHeartbeats 4000000 in
set_option maxRecDepth 100000 in
theorem idxRune_good (r : Nat) (h1 : 128 ≤ r) (h2 : r ≤ 1114111) (h3 : ¬ r = 65533) (hv : Lib.validRune (r : Int) = true) (w : World) : Calls Tryz.prog 141 #[.string ⟨#[44, 58]⟩, .int .i32 (r : Int)] w fun e w' => e = .returned (.int .i64 (-1)) ∧ Below w.heap.size w w' := by
  have c1 := fun w => Tryz.utf8_ValidRune (r : Int) w
  rw [hv] at c1
  have g1 : ¬ (r : Int) < 128 := by omega
  have g2 : ((r : Int) == 65533) = false := by
    have : ¬ (r : Int) = 65533 := by omega
    simpa using this
  have hcv := conv_rune (r : Int)
  by_cases h4 : r < 2048
  · obtain ⟨a, b, hR, hb⟩ := enc_two r h1 h4
    rw [hR] at hcv
    have cb : ∀ w, Calls Tryz.prog 83 #[.string ⟨#[]⟩, .int .u8 (b.toNat : Int)] w fun e w' => e = .returned (.int .i64 (-1)) ∧ w' = w := fun w => Tryz.strings_IndexByte ⟨#[]⟩ (b.toNat : Int) w
    have hne : ((58 : Int) != (b.toNat : Int)) = true := by
      have : ¬ (58 : Int) = (b.toNat : Int) := by omega
      simpa using this
    have hne2 : ((((⟨#[44, 58]⟩ : ByteArray)[1]'(by decide)).toNat : Int) != (((⟨#[a, b]⟩ : ByteArray)[1]'(by show 1 < 2; omega)).toNat : Int)) = true := hne
    have hw2 : IntKind.i64.wrap 2 = 2 := by decide
    have hsl : ∀ w, (Instr.slice 9 (.string ⟨#[44, 58]⟩) (some (.int .i64 2)) none none).run Tryz.prog w = .ok (.string ⟨#[]⟩) w := fun w => by
      rw [run_slice_string_from_if w 9 ⟨#[44, 58]⟩ .i64 2 Tryz.underlying9, if_pos (by decide)]; rfl
    clear hR hv
    go_enter Tryz.func141, Tryz.ntmps141
    go_wp2_with (go_at_call 154; refine (c1 _).mono ?_; rintro e w' ⟨rfl, rfl⟩)
    go_step3
    go_wp2
    go_loopw [9, 10] (fun s9 s10 wr => s9 = .int .i64 1 ∧ s10 = .int .i64 0 ∧ wr = w') (fun _ _ _ => 0)
    case atStart => exact ⟨rfl, rfl, rfl⟩
    case round =>
      obtain ⟨rfl, rfl, rfl⟩ := hrel
      go_wp2_with fail
      go_step3
      go_wp2_with fail
      go_quiet (fail)
      go_wp2_with fail
      go_quiet (first | exact Calls.quiet_of_same (cb _) | exact quiet_a (fun n => cb (wr.drewN n)) _ _ | exact quiet_b (fun n => cb (wr.drewN n)) _ _)
      go_wp2
      rw [Exit.noGoto_ret]
      simp only [Exit.inBlock]
      show Exit.noGoto _ Exit.ret _ _
      rw [Exit.noGoto_ret]
      simp only [Exit.inBlock, Exit.then]
      rw [Exit.noGoto_ret]
      go_ret
      first | exact ⟨rfl, Below.refl _ _⟩ | exact ⟨rfl, b_drewN (b_drewN (Below.refl _ _) _) _⟩ | exact ⟨rfl, b_drewN (Below.refl _ _) _⟩
  · have h5 := enc_more r (by omega)
    have h6 := enc_le (r : Int)
    generalize Utf8.encode (r : Int) = R at hcv h5 h6
    clear hv
    go_enter Tryz.func141, Tryz.ntmps141
    go_wp2_with (go_at_call 154; refine (c1 _).mono ?_; rintro e w' ⟨rfl, rfl⟩)
    have h7 : ¬ ((R.size : Int) - 1) < 2 := by omega
    go_step3
    go_wp2
    go_loopw [9, 10] (fun s9 s10 wr => s9 = .int .i64 ((R.size : Int) - 1) ∧ s10 = .int .i64 0 ∧ wr = w') (fun _ _ _ => 0)
    case atStart => exact ⟨rfl, rfl, rfl⟩
    case round =>
      obtain ⟨rfl, rfl, rfl⟩ := hrel
      go_wp2
      rw [Exit.noGoto_ret]
      go_ret
      first | exact ⟨rfl, Below.refl _ _⟩ | exact ⟨rfl, b_drewN (b_drewN (Below.refl _ _) _) _⟩ | exact ⟨rfl, b_drewN (Below.refl _ _) _⟩
theorem b_iter {B : Nat} {a w : World} (h : Below B a w) (hB : B ≤ a.heap.size) (s : ByteArray) (pos : Nat) : Below B a (w.iter s pos) := b_alloc h hB _
set_option maxHeartbeats 4000000 in
set_option maxRecDepth 100000 in
theorem idxRune_bad (w : World) : Calls Tryz.prog 141 #[.string ⟨#[44, 58]⟩, .int .i32 65533] w fun e w' => e = .returned (.int .i64 (-1)) ∧ Below w.heap.size w w' := by
  have hB := fun n => b_iter (Below.refl w.heap.size w) (Nat.le_refl _) ⟨#[44, 58]⟩ n
  go_enter Tryz.func141, Tryz.ntmps141
  go_wp2
  go_loopg [5, 6] 2 (fun g _ _ wx => g ≤ 2 ∧ wx = w.iter ⟨#[44, 58]⟩ (2 - g))
  case atStart => exact ⟨Nat.le_refl _, rfl⟩
  case round =>
    obtain ⟨hg, rfl⟩ := hrel
    match gk, hg with
    | 0, _ =>
      have hnx := fun ty => run_next_end (P := Tryz.prog) w ⟨#[44, 58]⟩ 2 ty (by decide)
      go_wp2
      go_ret
      exact ⟨rfl, hB _⟩
    | 1, _ =>
      have hnx := fun ty => run_next_ascii (P := Tryz.prog) w ⟨#[44, 58]⟩ 1 ty (by decide) (by decide)
      go_wp2
      go_roundg 0
      case measure => omega
      case rel => exact ⟨by omega, rfl⟩
    | 2, _ =>
      have hnx := fun ty => run_next_ascii (P := Tryz.prog) w ⟨#[44, 58]⟩ 0 ty (by decide) (by decide)
      go_wp2
      go_roundg 1
      case measure => omega
      case rel => exact ⟨by omega, rfl⟩
end Go.Proofs.YtgjlonilbhlneaaGreatDoor
