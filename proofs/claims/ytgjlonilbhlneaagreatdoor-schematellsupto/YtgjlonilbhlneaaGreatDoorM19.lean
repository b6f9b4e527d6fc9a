/-
  The walk of schema.addLine: a bond's line.
-/
import Derived.Test.YtgjlonilbhlneaaGreatDoorM15
import Derived.Test.YtgjlonilbhlneaaGreatDoorM18
import Derived.Test.YtgjlonilbhlneaaGreatDoorM17
import Derived.Lib.SplitLaws
namespace Go.Proofs.YtgjlonilbhlneaaGreatDoor
open Go.RowKit
set_option linter.unusedVariables false
set_option linter.unusedSimpArgs false

def PartsO (w : World) (base : Nat) (L : List Kd) : Prop := ∀ k ∈ L, w.ownsRow base 9 1 k.vo k.of.length (cellsS k.of) ∧ w.ownsRow base 52 4 k.vf k.fs.length (cellsF k.fs)
def SSt (base g : Nat) (L : List Kd) (B : List Bd) (w : World) : Prop :=
  ∃ vk vb, w.heap[g]? = some (.cells #[vk, vb] 25 (0, 0)) ∧ w.ownsRow base 55 3 vk L.length (cellsK L) ∧ w.ownsRow base 40 5 vb B.length (cellsB B) ∧ PartsO w base L ∧ L.length ≤ 13 ∧ B.length ≤ 13 ∧ base ≤ w.heap.size ∧ g < base
def notTy (w : World) (b : Nat) (t : TypeId) : Prop := ∀ cs f, w.heap[b]? ≠ some (.cells cs t f)
structure Fr (base g : Nat) (w w' : World) : Prop where
  os : w'.os = w.os
  tape : w'.tape = w.tape
  output : w'.output = w.output
  size : w.heap.size ≤ w'.heap.size
  block : ∀ b, b < w.heap.size → b ≠ g → notTy w b 55 → notTy w b 40 → w'.heap[b]? = w.heap[b]?
  old : ∀ b, b < w.heap.size → b ≠ g → b < base → w'.heap[b]? = w.heap[b]?
theorem Fr.of_below {base g : Nat} {w w' : World} (h : Below w.heap.size w w') : Fr base g w w' := ⟨h.os, h.tape, h.output, h.size, fun b hb _ _ _ => h.block b hb, fun b hb _ _ => h.block b hb⟩
theorem SSt.below {base g : Nat} {L : List Kd} {B : List Bd} {w w' : World} (h : SSt base g L B w) (hB : Below w.heap.size w w') : SSt base g L B w' := by
  obtain ⟨vk, vb, h1, h2, h3, h4, h5, h6, h7, h8⟩ := h
  exact ⟨vk, vb, (hB.block g (by omega)).trans h1, own_bel h2 hB, own_bel h3 hB, fun k hk => ⟨own_bel (h4 k hk).1 hB, own_bel (h4 k hk).2 hB⟩, h5, h6, Nat.le_trans h7 hB.size, h8⟩
theorem own_oth {w w2 : World} {base g : Nat} {e e2 : TypeId} {size size2 : Nat} {v v2 u : Value} {n n2 i : Nat} {xs xs2 : List Value} {cs : Array Value} (h : w.ownsRow base e size v n xs) (h2 : w.ownsRow base e2 size2 v2 n2 xs2) (hne : e ≠ e2) (hg : w.heap[g]? = some (.cells cs 25 (0, 0))) (h25 : (25 : TypeId) ≠ e) (hgr : w.grownBy w2 v2.ownBlock) : (w2.setCell ⟨g, i, none⟩ u).ownsRow base e size v n xs := by
  have ha := row_apart h hg h25
  refine ⟨h.1, ?_⟩
  rcases h.2 with h | ⟨b, cap, cur, rfl, hb, hbl, rest⟩
  · exact .inl h
  · have hb2 : v2.ownBlock ≠ some b := row_apart h2 hbl hne
    have hbg : b ≠ g := fun e => ha (by rw [e]; rfl)
    exact .inr ⟨b, cap, cur, rfl, hb, ((heap_setCell_other w2 ⟨g, i, none⟩ b u hbg).trans (hgr.block b (Array.getElem?_eq_some_iff.1 hbl).1 (fun e => hb2 e.symm))).trans hbl, rest⟩
theorem fr_set {w W w2 : World} {base g i : Nat} {e : TypeId} {size n : Nat} {v u : Value} {xs : List Value} (hB : Below w.heap.size w W) (h : W.ownsRow base e size v n xs) (he : e = 55 ∨ e = 40) (hgr : W.grownBy w2 v.ownBlock) : Fr base g w (w2.setCell ⟨g, i, none⟩ u) := by
  refine ⟨hgr.os.trans hB.os, hgr.tape.trans hB.tape, hgr.output.trans hB.output, ?_, fun b hb hne n1 n2 => ?_, fun b hb hne hlt => ?_⟩
  · have := hgr.size
    have := hB.size
    rw [World.size_setCell]
    omega
  · refine (heap_setCell_other w2 ⟨g, i, none⟩ b u hne).trans ((hgr.block b (Nat.lt_of_lt_of_le hb hB.size) (fun e' => ?_)).trans (hB.block b hb))
    rcases h.2 with ⟨rfl, _⟩ | ⟨b', cap, cur, rfl, _, hbl, _⟩
    · cases e'
    · have : b = b' := by simpa [Value.ownBlock] using e'
      subst this
      rw [hB.block b hb] at hbl
      rcases he with rfl | rfl
      · exact n1 _ _ hbl
      · exact n2 _ _ hbl
  · refine (heap_setCell_other w2 ⟨g, i, none⟩ b u hne).trans ((hgr.block b (Nat.lt_of_lt_of_le hb hB.size) (fun e' => ?_)).trans (hB.block b hb))
    rcases h.2 with ⟨rfl, _⟩ | ⟨b', cap, cur, rfl, hb', hbl, _⟩
    · cases e'
    · have : b = b' := by simpa [Value.ownBlock] using e'
      subst this
      omega
def AlPost (base g : Nat) (L : List Kd) (B : List Bd) (ok : Bool) (w : World) (e : Ending) (w' : World) : Prop := e = .returned (.bool ok) ∧ SSt base g L B w' ∧ Fr base g w w'
set_option maxHeartbeats 4000000 in
set_option maxRecDepth 100000 in
theorem addLine_bond {base g : Nat} {L : List Kd} {B : List Bd} {w : World} (hS : SSt base g L B w) {vw : Value} {Wd : List Nm} (hW : IsS w vw Wd) (hE : EV w) (hWl : ∀ x ∈ Wd, x.length < 4294967281) (hok : (bdOf Wd).2 = true) :
    Calls Tryz.prog 36 #[.pointer (some ⟨g, 0, none⟩), vw] w (AlPost base g L (oneMore B (bdOf Wd).1) true w) := by
  have c57 := parseBond_any hW hE hWl
  rw [hok] at c57
  obtain ⟨ao, co, rfl⟩ := isS_sl hW
  obtain ⟨x, hx⟩ : ∃ x, (bdOf Wd).1 = x := ⟨_, rfl⟩
  rw [hx] at c57 ⊢
  have HS : Hid (SSt base g L B w) := hS
  clear hS hW hE hWl hok hx
  go_enter Tryz.func36, Tryz.ntmps36
  go_wp2_with (go_at_call 57; refine c57.mono ?_; rintro e W1 ⟨rfl, hB1⟩; refine Hid.out ?_)
  refine Lib.hid ?_
  have hBx : Below W1.heap.size W1 (W1.alloc (.cells #[.string (bs x.nm), .string (bs x.fr), .string (bs x.tt), .int .i64 x.mn, .int .i64 x.mx] 40)).drew := b_drew1 (b_alloc (Below.refl _ _) (Nat.le_refl _) _)
  have hBw : Below w.heap.size w (W1.alloc (.cells #[.string (bs x.nm), .string (bs x.fr), .string (bs x.tt), .int .i64 x.mn, .int .i64 x.mx] 40)).drew := on1 hB1 hBx (Nat.le_refl _)
  obtain ⟨vk, vb, h1, h2, h3, h4, h5, h6, h7, h8⟩ := HS.out.below hBw
  obtain ⟨a1, c1, rfl⟩ := own_slice h2
  obtain ⟨a2, c2, rfl⟩ := own_slice h3
  have hgW : g < W1.heap.size := by obtain ⟨_, _, _, _, _, _, _, _, q7, q8⟩ := HS.out.below hB1; omega
  have HH : Hid ((W1.alloc (.cells #[.string (bs x.nm), .string (bs x.fr), .string (bs x.tt), .int .i64 x.mn, .int .i64 x.mx] 40)).drew.heap[g]? = some (.cells #[.slice a1 L.length c1, .slice a2 B.length c2] 25 (0, 0)) ∧ (W1.alloc (.cells #[.string (bs x.nm), .string (bs x.fr), .string (bs x.tt), .int .i64 x.mn, .int .i64 x.mx] 40)).drew.ownsRow base 55 3 (.slice a1 L.length c1) L.length (cellsK L) ∧ (W1.alloc (.cells #[.string (bs x.nm), .string (bs x.fr), .string (bs x.tt), .int .i64 x.mn, .int .i64 x.mx] 40)).drew.ownsRow base 40 5 (.slice a2 B.length c2) B.length (cellsB B) ∧ PartsO (W1.alloc (.cells #[.string (bs x.nm), .string (bs x.fr), .string (bs x.tt), .int .i64 x.mn, .int .i64 x.mx] 40)).drew base L ∧ Below w.heap.size w (W1.alloc (.cells #[.string (bs x.nm), .string (bs x.fr), .string (bs x.tt), .int .i64 x.mn, .int .i64 x.mx] 40)).drew ∧ base ≤ (W1.alloc (.cells #[.string (bs x.nm), .string (bs x.fr), .string (bs x.tt), .int .i64 x.mn, .int .i64 x.mx] 40)).drew.heap.size) := ⟨h1, h2, h3, h4, hBw, h7⟩
  have HC58 : Hid (Calls Tryz.prog 58 #[.slice a2 B.length c2, .agg #[.string (bs x.nm), .string (bs x.fr), .string (bs x.tt), .int .i64 x.mn, .int .i64 x.mx]] (W1.alloc (.cells #[.string (bs x.nm), .string (bs x.fr), .string (bs x.tt), .int .i64 x.mn, .int .i64 x.mx] 40)).drew fun e w' => ∃ v', e = .returned v' ∧ w'.ownsRow base 40 5 v' (oneMore B x).length (cellsB (oneMore B x)) ∧ World.grownBy (W1.alloc (.cells #[.string (bs x.nm), .string (bs x.fr), .string (bs x.tt), .int .i64 x.mn, .int .i64 x.mx] 40)).drew w' (Value.slice a2 B.length c2).ownBlock) := withOneB_any base _ B x _ h3 h7 h6
  have og : (W1.alloc (.cells #[.string (bs x.nm), .string (bs x.fr), .string (bs x.tt), .int .i64 x.mn, .int .i64 x.mx] 40)).cell? ⟨g, 1, none⟩ = some (.slice a2 B.length c2) := cellB (i := 1) h1 rfl
  have ogd : (W1.alloc (.cells #[.string (bs x.nm), .string (bs x.fr), .string (bs x.tt), .int .i64 x.mn, .int .i64 x.mx] 40)).drew.cell? ⟨g, 1, none⟩ = some (.slice a2 B.length c2) := og
  have hxn : (W1.alloc (.cells #[.string (bs x.nm), .string (bs x.fr), .string (bs x.tt), .int .i64 x.mn, .int .i64 x.mx] 40)).drew.heap[W1.heap.size]? = some (.cells #[.string (bs x.nm), .string (bs x.fr), .string (bs x.tt), .int .i64 x.mn, .int .i64 x.mx] 40 (0, 0)) := heap_alloc_new W1 _
  have o0 : (W1.alloc (.cells #[.string (bs x.nm), .string (bs x.fr), .string (bs x.tt), .int .i64 x.mn, .int .i64 x.mx] 40)).cell? ⟨W1.heap.size, 0, none⟩ = some (.string (bs x.nm)) := cellB (i := 0) hxn rfl
  have o1 : (W1.alloc (.cells #[.string (bs x.nm), .string (bs x.fr), .string (bs x.tt), .int .i64 x.mn, .int .i64 x.mx] 40)).cell? ⟨W1.heap.size, 1, none⟩ = some (.string (bs x.fr)) := cellB (i := 1) hxn rfl
  have o2 : (W1.alloc (.cells #[.string (bs x.nm), .string (bs x.fr), .string (bs x.tt), .int .i64 x.mn, .int .i64 x.mx] 40)).cell? ⟨W1.heap.size, 2, none⟩ = some (.string (bs x.tt)) := cellB (i := 2) hxn rfl
  have o3 : (W1.alloc (.cells #[.string (bs x.nm), .string (bs x.fr), .string (bs x.tt), .int .i64 x.mn, .int .i64 x.mx] 40)).cell? ⟨W1.heap.size, 3, none⟩ = some (.int .i64 x.mn) := cellB (i := 3) hxn rfl
  have o4 : (W1.alloc (.cells #[.string (bs x.nm), .string (bs x.fr), .string (bs x.tt), .int .i64 x.mn, .int .i64 x.mx] 40)).cell? ⟨W1.heap.size, 4, none⟩ = some (.int .i64 x.mx) := cellB (i := 4) hxn rfl
  have HK : Hid (∀ W2, World.grownBy (W1.alloc (.cells #[.string (bs x.nm), .string (bs x.fr), .string (bs x.tt), .int .i64 x.mn, .int .i64 x.mx] 40)).drew W2 (Value.slice a2 B.length c2).ownBlock → W2.heap[g]? = some (.cells #[.slice a1 L.length c1, .slice a2 B.length c2] 25 (0, 0)) ∧ W2.heap[W1.heap.size]? = some (.cells #[.string (bs x.nm), .string (bs x.fr), .string (bs x.tt), .int .i64 x.mn, .int .i64 x.mx] 40 (0, 0))) := fun W2 hg2 => by
    have hne := row_apart h3 h1 (by decide)
    have hlt : ∀ b, (Value.slice a2 B.length c2).ownBlock = some b → b ≠ W1.heap.size := fun b hb e => by
      subst e
      obtain ⟨vk', vb', q1, q2, q3, _⟩ := HS.out.below hB1
      obtain ⟨vk2, vb2, r1, _⟩ := HS.out.below hBw
      have e1 : W1.heap[g]? = (W1.alloc (.cells #[.string (bs x.nm), .string (bs x.fr), .string (bs x.tt), .int .i64 x.mn, .int .i64 x.mx] 40)).drew.heap[g]? := ((hBx.block g hgW)).symm
      rw [q1, h1] at e1
      have e2 : vb' = .slice a2 B.length c2 := by
        injection e1 with e1
        injection e1 with e1 _ _
        simp at e1
        exact e1.2
      rw [e2] at q3
      have := (q3.lt _ hb).2
      omega
    refine ⟨(hg2.block g (by simp; omega) (fun e => hne e.symm)).trans h1, (hg2.block _ (by simp) (fun e => hlt _ e.symm rfl)).trans hxn⟩
  have hgx : ¬ g = W1.heap.size := by omega
  have hgx' : ¬ W1.heap.size = g := by omega
  clear hB1 hBx hBw h1 h2 h3 h4 h7 hxn c57
  go_wp2
  go_region_law (first | (go_simp; go_at_call 58; refine HC58.out.mono ?_; rintro e W2 ⟨v', rfl, hO2, hg2⟩; obtain ⟨a', c', rfl⟩ := own_slice hO2; obtain ⟨hG2, hX2⟩ := HK.out W2 hg2; have gc := cellB (i := 1) hG2 rfl; have gf := frzB (i := 1) hG2; have x0 := cellB (i := 0) hX2 rfl; have x1 := cellB (i := 1) hX2 rfl; have x2 := cellB (i := 2) hX2 rfl; have x3 := cellB (i := 3) hX2 rfl; have x4 := cellB (i := 4) hX2 rfl; have hX3 := (heap_setCell_other W2 ⟨g, 1, none⟩ W1.heap.size (.slice a' (oneMore B x).length c') hgx').trans hX2; have y0 := cellB (i := 0) hX3 rfl; have y1 := cellB (i := 1) hX3 rfl; have y2 := cellB (i := 2) hX3 rfl; have y3 := cellB (i := 3) hX3 rfl; have y4 := cellB (i := 4) hX3 rfl; have HO2 := Lib.hid hO2; have Hg2 := Lib.hid hg2; have HG2 := Lib.hid hG2; clear hO2 hg2 hG2 hX2 hX3))
  all_goals
    have HF : Hid (AlPost base g L (oneMore B x) true w (.returned (.bool true)) (W2.setCell ⟨g, 1, none⟩ (.slice a' (oneMore B x).length c'))) := by
      refine ⟨rfl, ⟨_, _, (heap_setCell_same W2 g 1 _ 25 _ HG2.out).trans rfl, own_oth HH.out.2.1 HH.out.2.2.1 (by decide) HH.out.1 (by decide) Hg2.out, own_set HO2.out (row_apart HO2.out HG2.out (by decide)) _ _, fun k hk => ⟨own_oth (HH.out.2.2.2.1 k hk).1 HH.out.2.2.1 (by decide) HH.out.1 (by decide) Hg2.out, own_oth (HH.out.2.2.2.1 k hk).2 HH.out.2.2.1 (by decide) HH.out.1 (by decide) Hg2.out⟩, h5, oneMore_len B x h6, ?_, h8⟩, fr_set HH.out.2.2.2.2.1 HH.out.2.2.1 (.inr rfl) Hg2.out⟩
      have := Hg2.out.size
      have := HH.out.2.2.2.2.2
      rw [World.size_setCell]
      omega
    go_wp2
    go_ret
    exact HF.out
end Go.Proofs.YtgjlonilbhlneaaGreatDoor

/-
  The walk of schema.addLine: a kind's line, and what is neither.
-/
namespace Go.Proofs.YtgjlonilbhlneaaGreatDoor
open Go.RowKit
set_option linter.unusedVariables false
set_option linter.unusedSimpArgs false

theorem oneMore_mem {α : Type} {l : List α} {x y : α} (h : y ∈ oneMore l x) : y ∈ l ∨ y = x := by
  unfold oneMore at h
  split at h
  · exact .inl h
  · rcases List.mem_append.1 h with h | h
    · exact .inl h
    · exact .inr (by simpa using h)
def kdGood (q : Nm × List Nm × List Nm) : Bool := areN [q.1] && areN q.2.1 && q.2.2.all fdOk
def kdLine (Wd : List Nm) (B : List Bd) : Option (Nm × List Nm × List Nm) := match kdOf Wd with
  | none => none
  | some q => if (kdGood q && B.isEmpty) = true then some q else none
set_option maxHeartbeats 4000000 in
set_option maxRecDepth 100000 in
theorem addLine_no {base g : Nat} {L : List Kd} {B : List Bd} {w : World} (hS : SSt base g L B w) {vw : Value} {Wd : List Nm} (hW : IsS w vw Wd) (hE : EV w) (hWl : ∀ x ∈ Wd, x.length < 4294967281) (hWk : WdOk Wd) (hok : (bdOf Wd).2 = false) (hno : kdLine Wd B = none) :
    Calls Tryz.prog 36 #[.pointer (some ⟨g, 0, none⟩), vw] w (AlPost base g L B false w) := by
  have c57 := parseBond_any hW hE hWl
  rw [hok] at c57
  have HW : Hid (IsS w vw Wd ∧ EV w) := ⟨hW, hE⟩
  obtain ⟨ao, co, rfl⟩ := isS_sl hW
  obtain ⟨z, hz⟩ : ∃ z, (bdOf Wd).1 = z := ⟨_, rfl⟩
  rw [hz] at c57
  have HS : Hid (SSt base g L B w) := hS
  clear hS hW hE hWl hok hz
  cases hk : kdOf Wd with
  | none =>
    go_enter Tryz.func36, Tryz.ntmps36
    go_wp2_with (go_at_call 57; refine c57.mono ?_; rintro e W1 ⟨rfl, hB1⟩; refine Hid.out ?_)
    refine Lib.hid ?_
    have HBw : Hid (Below w.heap.size w (W1.alloc (.cells #[.string (bs z.nm), .string (bs z.fr), .string (bs z.tt), .int .i64 z.mn, .int .i64 z.mx] 40))) := b_alloc hB1 (Nat.le_refl _) _
    have c59 := parseKind_any (HW.out.1.on HBw.out) (HW.out.2.on HBw.out) hWk
    have hgW : g < (W1.alloc (.cells #[.string (bs z.nm), .string (bs z.fr), .string (bs z.tt), .int .i64 z.mn, .int .i64 z.mx] 40)).heap.size ∧ base ≤ (W1.alloc (.cells #[.string (bs z.nm), .string (bs z.fr), .string (bs z.tt), .int .i64 z.mn, .int .i64 z.mx] 40)).heap.size := by obtain ⟨_, _, _, _, _, _, _, _, q7, q8⟩ := HS.out.below HBw.out; exact ⟨by omega, q7⟩
    unfold KdPost at c59
    clear c57 hB1
    rw [hk] at c59
    clear hno hk
    go_wp2_with (go_at_call 59; refine c59.mono ?_; rintro e W2 ⟨rfl, hB2⟩)
    go_ret
    have hB : Below w.heap.size w (W2.alloc (.cells #[.string ⟨#[]⟩, .slice none 0 0, .slice none 0 0] 55)) := b_alloc (on1 HBw.out hB2 (Nat.le_refl _)) (Nat.le_refl _) _
    exact ⟨rfl, HS.out.below hB, Fr.of_below hB⟩
  | some q =>
    obtain ⟨x1, o, ws⟩ := q
    cases hg : kdGood (x1, o, ws)
    · have hg' : (areN [x1] && areN o && ws.all fdOk) = false := hg
      go_enter Tryz.func36, Tryz.ntmps36
      go_wp2_with (go_at_call 57; refine c57.mono ?_; rintro e W1 ⟨rfl, hB1⟩; refine Hid.out ?_)
      refine Lib.hid ?_
      have HBw : Hid (Below w.heap.size w (W1.alloc (.cells #[.string (bs z.nm), .string (bs z.fr), .string (bs z.tt), .int .i64 z.mn, .int .i64 z.mx] 40))) := b_alloc hB1 (Nat.le_refl _) _
      have c59 := parseKind_any (HW.out.1.on HBw.out) (HW.out.2.on HBw.out) hWk
      have hgW : g < (W1.alloc (.cells #[.string (bs z.nm), .string (bs z.fr), .string (bs z.tt), .int .i64 z.mn, .int .i64 z.mx] 40)).heap.size ∧ base ≤ (W1.alloc (.cells #[.string (bs z.nm), .string (bs z.fr), .string (bs z.tt), .int .i64 z.mn, .int .i64 z.mx] 40)).heap.size := by obtain ⟨_, _, _, _, _, _, _, _, q7, q8⟩ := HS.out.below HBw.out; exact ⟨by omega, q7⟩
      unfold KdPost at c59
      clear c57 hB1
      rw [hk] at c59
      simp only at c59
      unfold KP at c59
      rw [hg'] at c59
      simp only [Bool.false_eq_true, if_false] at c59
      clear hno hk hg hg'
      go_wp2_with (go_at_call 59; refine c59.mono ?_; rintro e W2 ⟨rfl, hB2⟩)
      go_ret
      have hB : Below w.heap.size w (W2.alloc (.cells #[.string ⟨#[]⟩, .slice none 0 0, .slice none 0 0] 55)) := b_alloc (on1 HBw.out hB2 (Nat.le_refl _)) (Nat.le_refl _) _
      exact ⟨rfl, HS.out.below hB, Fr.of_below hB⟩
    · have hg' : (areN [x1] && areN o && ws.all fdOk) = true := hg
      have hBe : ¬ B = [] := fun e => by
        unfold kdLine at hno
        rw [hk] at hno
        simp [hg, e] at hno
      have hBl : (0 : Int) < (B.length : Int) := by
        have : B.length ≠ 0 := fun e => hBe (List.eq_nil_of_length_eq_zero e)
        omega
      go_enter Tryz.func36, Tryz.ntmps36
      go_wp2_with (go_at_call 57; refine c57.mono ?_; rintro e W1 ⟨rfl, hB1⟩; refine Hid.out ?_)
      refine Lib.hid ?_
      have HBw : Hid (Below w.heap.size w (W1.alloc (.cells #[.string (bs z.nm), .string (bs z.fr), .string (bs z.tt), .int .i64 z.mn, .int .i64 z.mx] 40))) := b_alloc hB1 (Nat.le_refl _) _
      have c59 := parseKind_any (HW.out.1.on HBw.out) (HW.out.2.on HBw.out) hWk
      have hgW : g < (W1.alloc (.cells #[.string (bs z.nm), .string (bs z.fr), .string (bs z.tt), .int .i64 z.mn, .int .i64 z.mx] 40)).heap.size ∧ base ≤ (W1.alloc (.cells #[.string (bs z.nm), .string (bs z.fr), .string (bs z.tt), .int .i64 z.mn, .int .i64 z.mx] 40)).heap.size := by obtain ⟨_, _, _, _, _, _, _, _, q7, q8⟩ := HS.out.below HBw.out; exact ⟨by omega, q7⟩
      unfold KdPost at c59
      clear c57 hB1
      rw [hk] at c59
      simp only at c59
      unfold KP at c59
      rw [hg'] at c59
      simp only [if_true] at c59
      clear hno hk hg hg' hBe
      go_wp2_with (go_at_call 59; refine c59.mono ?_; rintro e W2 ⟨⟨vo, vf, rfl, hvo, hvf⟩, hB2⟩; obtain ⟨ao', co', rfl⟩ := own_slice hvo; obtain ⟨af, cf, rfl⟩ := own_slice hvf; refine Hid.out ?_)
      refine Lib.hid ?_
      have hB : Below w.heap.size w (W2.alloc (.cells #[.string (bs x1), .slice ao' o.length co', .slice af ws.length cf] 55)) := b_alloc (on1 HBw.out hB2 (Nat.le_refl _)) (Nat.le_refl _) _
      have HF : Hid (AlPost base g L B false w (.returned (.bool false)) (W2.alloc (.cells #[.string (bs x1), .slice ao' o.length co', .slice af ws.length cf] 55))) := ⟨rfl, HS.out.below hB, Fr.of_below hB⟩
      obtain ⟨vk, vb, h1, h2, h3, _⟩ := HS.out.below hB
      obtain ⟨a2, c2, rfl⟩ := own_slice h3
      have o1 := cellB (i := 1) h1 rfl
      clear hB h1 h2 h3 hvo hvf hB2 c59
      go_wp2
      go_ret
      exact HF.out
end Go.Proofs.YtgjlonilbhlneaaGreatDoor

/-
  The walk of schema.addLine: a kind's line.
-/
namespace Go.Proofs.YtgjlonilbhlneaaGreatDoor
open Go.RowKit
set_option linter.unusedVariables false
set_option linter.unusedSimpArgs false

set_option maxHeartbeats 4000000 in
set_option maxRecDepth 100000 in
theorem addLine_kind {base g : Nat} {L : List Kd} {w : World} (hS : SSt base g L [] w) {vw : Value} {Wd : List Nm} (hW : IsS w vw Wd) (hE : EV w) (hWl : ∀ x ∈ Wd, x.length < 4294967281) (hWk : WdOk Wd) (hok : (bdOf Wd).2 = false) {x1 : Nm} {o ws : List Nm} (hk : kdOf Wd = some (x1, o, ws)) (hg : kdGood (x1, o, ws) = true) :
    Calls Tryz.prog 36 #[.pointer (some ⟨g, 0, none⟩), vw] w fun e w' => ∃ vo vf, AlPost base g (oneMore L ⟨x1, o, ws.map fdOf, vo, vf⟩) [] true w e w' := by
  obtain ⟨B, hB0⟩ : ∃ B : List Bd, B = [] := ⟨_, rfl⟩
  rw [← hB0] at hS
  have c57 := parseBond_any hW hE hWl
  rw [hok] at c57
  have HW : Hid (IsS w vw Wd ∧ EV w) := ⟨hW, hE⟩
  obtain ⟨ao, co, rfl⟩ := isS_sl hW
  obtain ⟨z, hz⟩ : ∃ z, (bdOf Wd).1 = z := ⟨_, rfl⟩
  rw [hz] at c57
  have HS : Hid (SSt base g L B w) := hS
  clear hS hW hE hWl hok hz
  have hBl : ¬ (0 : Int) < (B.length : Int) := by rw [hB0]; simp
  have hg' : (areN [x1] && areN o && ws.all fdOk) = true := hg
  go_enter Tryz.func36, Tryz.ntmps36
  go_wp2_with (go_at_call 57; refine c57.mono ?_; rintro e W1 ⟨rfl, hB1⟩; refine Hid.out ?_)
  refine Lib.hid ?_
  have HBw : Hid (Below w.heap.size w (W1.alloc (.cells #[.string (bs z.nm), .string (bs z.fr), .string (bs z.tt), .int .i64 z.mn, .int .i64 z.mx] 40))) := b_alloc hB1 (Nat.le_refl _) _
  have c59 := parseKind_any (HW.out.1.on HBw.out) (HW.out.2.on HBw.out) hWk
  have hgW : g < (W1.alloc (.cells #[.string (bs z.nm), .string (bs z.fr), .string (bs z.tt), .int .i64 z.mn, .int .i64 z.mx] 40)).heap.size ∧ base ≤ (W1.alloc (.cells #[.string (bs z.nm), .string (bs z.fr), .string (bs z.tt), .int .i64 z.mn, .int .i64 z.mx] 40)).heap.size := by obtain ⟨_, _, _, _, _, _, _, _, q7, q8⟩ := HS.out.below HBw.out; exact ⟨by omega, q7⟩
  unfold KdPost at c59
  clear c57 hB1
  rw [hk] at c59
  simp only at c59
  unfold KP at c59
  rw [hg'] at c59
  simp only [if_true] at c59
  have HB0 : Hid (B = []) := hB0
  clear hk hg hg' hB0
  go_wp2_with (go_at_call 59; refine c59.mono ?_; rintro e W2 ⟨⟨vo, vf, rfl, hvo, hvf⟩, hB2⟩; obtain ⟨ao', co', rfl⟩ := own_slice hvo; obtain ⟨af, cf, rfl⟩ := own_slice hvf; refine Hid.out ?_)
  refine Lib.hid ?_
  have hBy : Below W2.heap.size W2 (W2.alloc (.cells #[.string (bs x1), .slice ao' o.length co', .slice af ws.length cf] 55)).drew := b_drew1 (b_alloc (Below.refl _ _) (Nat.le_refl _) _)
  have hB : Below w.heap.size w (W2.alloc (.cells #[.string (bs x1), .slice ao' o.length co', .slice af ws.length cf] 55)).drew := on1 (on1 HBw.out hB2 (Nat.le_refl _)) hBy (Nat.le_refl _)
  obtain ⟨vk, vb, h1, h2, h3, h4, h5, h6, h7, h8⟩ := HS.out.below hB
  obtain ⟨a1, c1, rfl⟩ := own_slice h2
  obtain ⟨a2, c2, rfl⟩ := own_slice h3
  have hs2 := hB2.size
  have hgW2 : g < W2.heap.size := Nat.lt_of_lt_of_le hgW.1 hs2
  have HH : Hid ((W2.alloc (.cells #[.string (bs x1), .slice ao' o.length co', .slice af ws.length cf] 55)).drew.heap[g]? = some (.cells #[.slice a1 L.length c1, .slice a2 B.length c2] 25 (0, 0)) ∧ (W2.alloc (.cells #[.string (bs x1), .slice ao' o.length co', .slice af ws.length cf] 55)).drew.ownsRow base 55 3 (.slice a1 L.length c1) L.length (cellsK L) ∧ (W2.alloc (.cells #[.string (bs x1), .slice ao' o.length co', .slice af ws.length cf] 55)).drew.ownsRow base 40 5 (.slice a2 B.length c2) B.length (cellsB B) ∧ PartsO (W2.alloc (.cells #[.string (bs x1), .slice ao' o.length co', .slice af ws.length cf] 55)).drew base L ∧ Below w.heap.size w (W2.alloc (.cells #[.string (bs x1), .slice ao' o.length co', .slice af ws.length cf] 55)).drew ∧ base ≤ (W2.alloc (.cells #[.string (bs x1), .slice ao' o.length co', .slice af ws.length cf] 55)).drew.heap.size) := ⟨h1, h2, h3, h4, hB, h7⟩
  have HV : Hid ((W2.alloc (.cells #[.string (bs x1), .slice ao' o.length co', .slice af ws.length cf] 55)).drew.ownsRow base 9 1 (.slice ao' o.length co') o.length (cellsS o) ∧ (W2.alloc (.cells #[.string (bs x1), .slice ao' o.length co', .slice af ws.length cf] 55)).drew.ownsRow base 52 4 (.slice af ws.length cf) (ws.map fdOf).length (cellsF (ws.map fdOf))) := ⟨own_bel (own_base hvo hgW.2) hBy, by rw [List.length_map]; exact own_bel (own_base hvf hgW.2) hBy⟩
  have HC60 : Hid (Calls Tryz.prog 60 #[.slice a1 L.length c1, .agg #[.string (bs x1), .slice ao' o.length co', .slice af ws.length cf]] (W2.alloc (.cells #[.string (bs x1), .slice ao' o.length co', .slice af ws.length cf] 55)).drew fun e w' => ∃ v', e = .returned v' ∧ w'.ownsRow base 55 3 v' (oneMore L (⟨x1, o, ws.map fdOf, .slice ao' o.length co', .slice af ws.length cf⟩ : Kd)).length (cellsK (oneMore L (⟨x1, o, ws.map fdOf, .slice ao' o.length co', .slice af ws.length cf⟩ : Kd))) ∧ World.grownBy (W2.alloc (.cells #[.string (bs x1), .slice ao' o.length co', .slice af ws.length cf] 55)).drew w' (Value.slice a1 L.length c1).ownBlock) := withOneK_any base _ L ⟨x1, o, ws.map fdOf, .slice ao' o.length co', .slice af ws.length cf⟩ _ _ _ _ _ _ rfl rfl _ h2 h7 h5
  have og : (W2.alloc (.cells #[.string (bs x1), .slice ao' o.length co', .slice af ws.length cf] 55)).cell? ⟨g, 0, none⟩ = some (.slice a1 L.length c1) := cellB (i := 0) h1 rfl
  have ogd : (W2.alloc (.cells #[.string (bs x1), .slice ao' o.length co', .slice af ws.length cf] 55)).drew.cell? ⟨g, 0, none⟩ = some (.slice a1 L.length c1) := og
  have og1 : (W2.alloc (.cells #[.string (bs x1), .slice ao' o.length co', .slice af ws.length cf] 55)).cell? ⟨g, 1, none⟩ = some (.slice a2 B.length c2) := cellB (i := 1) h1 rfl
  have hxn : (W2.alloc (.cells #[.string (bs x1), .slice ao' o.length co', .slice af ws.length cf] 55)).drew.heap[W2.heap.size]? = some (.cells #[.string (bs x1), .slice ao' o.length co', .slice af ws.length cf] 55 (0, 0)) := heap_alloc_new W2 _
  have o0 : (W2.alloc (.cells #[.string (bs x1), .slice ao' o.length co', .slice af ws.length cf] 55)).cell? ⟨W2.heap.size, 0, none⟩ = some (.string (bs x1)) := cellB (i := 0) hxn rfl
  have o1 : (W2.alloc (.cells #[.string (bs x1), .slice ao' o.length co', .slice af ws.length cf] 55)).cell? ⟨W2.heap.size, 1, none⟩ = some (.slice ao' o.length co') := cellB (i := 1) hxn rfl
  have o2 : (W2.alloc (.cells #[.string (bs x1), .slice ao' o.length co', .slice af ws.length cf] 55)).cell? ⟨W2.heap.size, 2, none⟩ = some (.slice af ws.length cf) := cellB (i := 2) hxn rfl
  have HK : Hid (∀ W3, World.grownBy (W2.alloc (.cells #[.string (bs x1), .slice ao' o.length co', .slice af ws.length cf] 55)).drew W3 (Value.slice a1 L.length c1).ownBlock → W3.heap[g]? = some (.cells #[.slice a1 L.length c1, .slice a2 B.length c2] 25 (0, 0))) := fun W3 hg3 => (hg3.block g (by simp; omega) (fun e => row_apart h2 h1 (by decide) e.symm)).trans h1
  have hgx : ¬ g = W2.heap.size := by omega
  obtain ⟨ln, hln⟩ : ∃ ln, ln = (oneMore L (⟨x1, o, ws.map fdOf, .slice ao' o.length co', .slice af ws.length cf⟩ : Kd)).length := ⟨_, rfl⟩
  have HLn : Hid (ln = (oneMore L (⟨x1, o, ws.map fdOf, .slice ao' o.length co', .slice af ws.length cf⟩ : Kd)).length) := hln
  rw [← hln] at HC60
  clear hB hBy h1 h2 h3 h4 h7 hxn c59 hvo hvf hB2 hs2 hln
  go_wp2
  go_region_law (first | (go_simp; go_at_call 60; refine HC60.out.mono ?_; rintro e W3 ⟨v', rfl, hO3, hg3⟩; obtain ⟨a', c', rfl⟩ := own_slice hO3; have hG3 := HK.out W3 hg3; have gc := cellB (i := 0) hG3 rfl; have gf := frzB (i := 0) hG3; have HO3 := Lib.hid hO3; have Hg3 := Lib.hid hg3; have HG3 := Lib.hid hG3; clear hO3 hg3 hG3))
  all_goals
    have HF : Hid (∃ vo vf, AlPost base g (oneMore L ⟨x1, o, ws.map fdOf, vo, vf⟩) [] true w (.returned (.bool true)) (W3.setCell ⟨g, 0, none⟩ (.slice a' ln c'))) := by
      refine ⟨.slice ao' o.length co', .slice af ws.length cf, rfl, ⟨_, _, (heap_setCell_same W3 g 0 _ 25 _ HG3.out).trans rfl, ?_, ?_, fun k hk => ?_, oneMore_len L _ h5, Nat.zero_le _, ?_, h8⟩, fr_set HH.out.2.2.2.2.1 HH.out.2.1 (.inl rfl) Hg3.out⟩
      · rw [← HLn.out]; exact own_set HO3.out (row_apart HO3.out HG3.out (by decide)) _ _
      · have := own_oth (i := 0) (u := .slice a' ln c') HH.out.2.2.1 HH.out.2.1 (by decide) HH.out.1 (by decide) Hg3.out
        rw [HB0.out] at this
        rw [HB0.out]
        exact this
      · rcases oneMore_mem hk with hk | rfl
        · exact ⟨own_oth (HH.out.2.2.2.1 k hk).1 HH.out.2.1 (by decide) HH.out.1 (by decide) Hg3.out, own_oth (HH.out.2.2.2.1 k hk).2 HH.out.2.1 (by decide) HH.out.1 (by decide) Hg3.out⟩
        · exact ⟨own_oth HV.out.1 HH.out.2.1 (by decide) HH.out.1 (by decide) Hg3.out, own_oth HV.out.2 HH.out.2.1 (by decide) HH.out.1 (by decide) Hg3.out⟩
      · have := Hg3.out.size
        have := HH.out.2.2.2.2.2
        rw [World.size_setCell]
        omega
    go_wp2
    go_ret
    exact HF.out
end Go.Proofs.YtgjlonilbhlneaaGreatDoor

/-
  The walk of schema.addLine: any line.
-/
namespace Go.Proofs.YtgjlonilbhlneaaGreatDoor
open Go.RowKit
set_option linter.unusedVariables false
set_option linter.unusedSimpArgs false

def kq (k : Kd) : Nm × List Nm × List Fd := (k.nm, k.of, k.fs)
theorem oneMore_map {α β : Type} (f : α → β) (l : List α) (x : α) : (oneMore l x).map f = oneMore (l.map f) (f x) := by
  unfold oneMore
  rw [List.length_map]
  split <;> simp
def alStep (P : List (Nm × List Nm × List Fd)) (B : List Bd) (Wd : List Nm) : Option (List (Nm × List Nm × List Fd) × List Bd) :=
  if (bdOf Wd).2 = true then some (P, oneMore B (bdOf Wd).1) else match kdLine Wd B with
  | none => none
  | some q => some (oneMore P (q.1, q.2.1, q.2.2.map fdOf), B)
def AlAny (base g : Nat) (L : List Kd) (B : List Bd) (Wd : List Nm) (w : World) (e : Ending) (w' : World) : Prop := match alStep (L.map kq) B Wd with
  | none => AlPost base g L B false w e w'
  | some r => ∃ L', L'.map kq = r.1 ∧ AlPost base g L' r.2 true w e w'
theorem addLine_any {base g : Nat} {L : List Kd} {B : List Bd} {w : World} (hS : SSt base g L B w) {vw : Value} {Wd : List Nm} (hW : IsS w vw Wd) (hE : EV w) (hWl : ∀ x ∈ Wd, x.length < 4294967281) (hWk : WdOk Wd) :
    Calls Tryz.prog 36 #[.pointer (some ⟨g, 0, none⟩), vw] w (AlAny base g L B Wd w) := by
  unfold AlAny alStep
  cases hok : (bdOf Wd).2
  · simp only [Bool.false_eq_true, if_false]
    cases hk : kdLine Wd B with
    | none => exact addLine_no hS hW hE hWl hWk hok hk
    | some q =>
      unfold kdLine at hk
      split at hk
      · cases hk
      · rename_i q' hq
        split at hk
        · rename_i hg
          cases hk
          obtain ⟨x1, o, ws⟩ := q
          rw [Bool.and_eq_true] at hg
          obtain ⟨hg, hBe⟩ := hg
          have hB0 : B = [] := List.isEmpty_iff.1 hBe
          subst hB0
          refine (addLine_kind hS hW hE hWl hWk hok hq hg).mono ?_
          rintro e W ⟨vo, vf, h⟩
          exact ⟨_, oneMore_map kq L _, h⟩
        · cases hk
  · simp only [if_true]
    exact (addLine_bond hS hW hE hWl hok).mono fun e W h => ⟨L, rfl, h⟩
end Go.Proofs.YtgjlonilbhlneaaGreatDoor

/-
  A line's words, and their pieces, are no longer than the line.
-/
namespace Go.Proofs.YtgjlonilbhlneaaGreatDoor
open Go.RowKit
set_option linter.unusedVariables false
set_option linter.unusedSimpArgs false

theorem splitB_size (sep : ByteArray) : ∀ (k : Nat) (s : ByteArray), ∀ x ∈ Lib.splitB sep 0 k s, x.size ≤ s.size
  | 0, s, x, hx => by
    rw [Lib.splitB_zero] at hx
    cases List.mem_singleton.1 hx
    exact Nat.le_refl _
  | k + 1, s, x, hx => by
    unfold Lib.splitB at hx
    split at hx
    · cases List.mem_singleton.1 hx
      exact Nat.le_refl _
    · rcases List.mem_cons.1 hx with rfl | hx
      · rw [ByteArray.size_extract]; omega
      · have := splitB_size sep k _ x hx
        rw [ByteArray.size_extract] at this
        omega
theorem pieces_le (c : UInt8) (l : Nm) : ((Lib.splitB ⟨#[c]⟩ 0 (Lib.countB (bs l) ⟨#[c]⟩) (bs l)).map (·.data.toList)).length ≤ l.length + 1 ∧ ∀ x ∈ (Lib.splitB ⟨#[c]⟩ 0 (Lib.countB (bs l) ⟨#[c]⟩) (bs l)).map (·.data.toList), x.length ≤ l.length := by
  constructor
  · rw [List.length_map]
    have h1 := Lib.splitB_length_le ⟨#[c]⟩ 0 (Lib.countB (bs l) ⟨#[c]⟩) (bs l)
    have h2 := Lib.countB_le ⟨#[c]⟩ (Nat.le_refl 1) _ (bs l) (Nat.le_refl _)
    rw [bs_size] at h2
    omega
  · intro x hx
    obtain ⟨y, hy, rfl⟩ := List.mem_map.1 hx
    have h := splitB_size _ _ _ y hy
    rw [bs_size] at h
    have : y.data.toList.length = y.size := Array.length_toList
    omega
theorem wordsL_ok {l : Nm} (h : l.length ≤ 90000000) : WdOk (wordsL l) ∧ ∀ x ∈ wordsL l, x.length < 4294967281 := by
  obtain ⟨h1, h2⟩ := pieces_le 32 l
  refine ⟨⟨Nat.le_trans h1 (by omega), fun x hx => ?_⟩, fun x hx => ?_⟩
  · have hx' : x.length ≤ l.length := h2 x hx
    obtain ⟨q1, q2⟩ := pieces_le 44 x
    exact ⟨by omega, Nat.le_trans q1 (by omega), fun y hy => Nat.lt_of_le_of_lt (q2 y hy) (by omega)⟩
  · have hx' : x.length ≤ l.length := h2 x hx
    omega
end Go.Proofs.YtgjlonilbhlneaaGreatDoor
