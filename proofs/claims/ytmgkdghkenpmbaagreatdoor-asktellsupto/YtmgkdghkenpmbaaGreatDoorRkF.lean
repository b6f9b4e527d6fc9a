/-
  The document's reader: a test; what a step is made of, in memory and in plain words.
-/
import Derived.Test.YtmgkdghkenpmbaaGreatDoorRkE1
import Derived.Test.YtmgkdghkenpmbaaGreatDoorRkE2
import Derived.Test.YtmgkdghkenpmbaaGreatDoorRkE3
import Derived.Test.YtmgkdghkenpmbaaGreatDoorRkE4
import Derived.Test.YtmgkdghkenpmbaaGreatDoorRkE5
import Derived.Test.YtmgkdghkenpmbaaGreatDoorRkE6
namespace Go.Proofs.YtmgkdghkenpmbaaGreatDoor
open Go.RowKit
set_option linter.unusedVariables false
set_option linter.unusedSimpArgs false

theorem howR_sees {r : Nm} (h : ¬ (howR r).2 = 4) : seesB r 61 = true ∨ seesB r 33 = true ∨ seesB r 60 = true := by
  cases h1 : seesB r 61 with
  | true => exact .inl rfl
  | false =>
    cases h2 : seesB r 33 with
    | true => exact .inr (.inl rfl)
    | false =>
      cases h3 : seesB r 60 with
      | true => exact .inr (.inr rfl)
      | false => exact absurd (by rw [howR_4 h1 h2 h3]) h
theorem ktest_any {b : Nat} {s : ByteArray} {r : Nm} {w : World} (h : Rk b s (r, false) w) (hs : s.size ≤ 140737488355328) :
    Calls Tryz.prog 40 #[rp b] w fun e w' => KtAns e (pTest r).2 ∧ Rk b s ((pTest r).1, (pTest r).2.isNone) w' ∧ Gw b w w' := by
  by_cases hn : nameT r = []
  · exact ktest_a h (by unfold maxLen; omega) hn
  · by_cases h4 : (howR (nameD r)).2 = 4
    · exact ktest_b h hs hn h4
    · by_cases he : (parseL (vw false (nameD r).tail)).1 = 0
      · rcases howR_sees h4 with h5 | h5 | h5
        · exact ktest_y1 h hs hn h5 he
        · exact ktest_y2 h hs hn h5 he
        · exact ktest_y3 h hs hn h5 he
      · rcases howR_sees h4 with h5 | h5 | h5
        · exact ktest_n1 h hs hn h5 he
        · exact ktest_n2 h hs hn h5 he
        · exact ktest_n3 h hs hn h5 he
theorem ndS_bad (c : UInt8) (r : Nm) : ndS c (r, true) = (r, true) := by unfold ndS; rw [if_neg (by simp)]
theorem ndS_ok (c : UInt8) (r : Nm) : ndS c (r, false) = if seesB r c = true then (r.tail, false) else (r, true) := by
  unfold ndS; simp
/-- Bytes that are needed, one behind the other. -/
def tkS : Nm → Nm × Bool → Nm × Bool
  | [], σ => σ
  | c :: ws, σ => tkS ws (ndS c σ)
theorem tkS_bad (ws : Nm) (r : Nm) : tkS ws (r, true) = (r, true) := by
  induction ws with
  | nil => rfl
  | cons c q ih => rw [tkS, ndS_bad, ih]
theorem tkS_ok (ws : Nm) : ∀ r : Nm, tkS ws (r, false) = ((takeR ws r).1, !(takeR ws r).2) := by
  induction ws with
  | nil => intro r; rfl
  | cons c q ih =>
    intro r
    rw [tkS, ndS_ok]
    by_cases h : seesB r c = true
    · rw [if_pos h, ih, takeR_hit h]
    · rw [if_neg h, tkS_bad, takeR_miss (by simpa using h)]; rfl
/-- The bond of a step, as the document's reader reads it. -/
def bS1 (r : Nm) : Nm × Bool := ndS 32 (r, false)
def bBk (r : Nm) : Bool := !(bS1 r).2 && seesB (bS1 r).1 60
def bS3 (r : Nm) : Nm × Bool := tkS (ar0 (bBk r)) (bS1 r)
def bS7 (r : Nm) : Nm × Bool := tkS (ar1 (bBk r) ++ [32]) (nmS (bS3 r))
theorem bond_same (r : Nm) : bS7 r = ((pBond r).1, (pBond r).2.isNone) ∧ ∀ n c, (pBond r).2 = some (n, c) → nmV (bS3 r) = n ∧ bBk r = c := by
  by_cases h32 : seesB r 32 = true
  · have e1 : bS1 r = (r.tail, false) := by unfold bS1; rw [ndS_ok, if_pos h32]
    have eb : bBk r = seesB r.tail 60 := by unfold bBk; rw [e1]; simp
    have e3 : bS3 r = ((takeR (ar0 (seesB r.tail 60)) r.tail).1, !(takeR (ar0 (seesB r.tail 60)) r.tail).2) := by unfold bS3; rw [eb, e1, tkS_ok]
    rcases hq : takeR (ar0 (seesB r.tail 60)) r.tail with ⟨q, ok⟩
    rw [hq] at e3
    cases ok with
    | false =>
      have e4 : nmS (bS3 r) = (q, true) := by rw [e3]; exact (nmS_bad q).1
      rw [pBond_b h32 (by rw [hq]), hq]
      unfold bS7
      rw [e4, tkS_bad]
      exact ⟨rfl, fun n c h => by cases h⟩
    | true =>
      simp only [Bool.not_true] at e3
      by_cases hn : nameT q = []
      · have e4 : nmS (bS3 r) = (q, true) := by rw [e3]; exact (nmS_no hn).1
        rw [pBond_c h32 (by rw [hq]) (by rw [hq]; exact hn), hq]
        unfold bS7
        rw [e4, tkS_bad]
        exact ⟨rfl, fun n c h => by cases h⟩
      · have e4 : nmS (bS3 r) = (nameD q, false) ∧ nmV (bS3 r) = nameT q := by rw [e3]; exact nmS_ok hn
        rw [pBond_d h32 hq hn]
        unfold bS7
        rw [e4.1, e4.2, eb, tkS_ok]
        cases (takeR (ar1 (seesB r.tail 60) ++ [32]) (nameD q)).2 with
        | true => exact ⟨rfl, fun n c h => by simp at h; exact h⟩
        | false => exact ⟨rfl, fun n c h => by simp at h⟩
  · have h32' : seesB r 32 = false := by simpa using h32
    have e1 : bS1 r = (r, true) := by unfold bS1; rw [ndS_ok, if_neg h32]
    have e3 : bS3 r = (r, true) := by unfold bS3; rw [e1, tkS_bad]
    unfold bS7
    rw [e3, (nmS_bad r).1, tkS_bad, pBond_a h32']
    exact ⟨rfl, fun n c h => by cases h⟩
/-- A step that is read: what lies in memory on the way. -/
structure KsP (b : Nat) (s : ByteArray) (σ : Nm × Bool) (g5 g0 : Nat) (w : World) (bd : Nm) (back : Bool) (kd : Nm) (v : Value) (W : World) : Prop where
  rk : Rk b s σ W
  r5 : W.heap[g5]? = some (.cells #[.string (bs bd), .bool back, .string (bs kd), v] 29 (0, 0))
  r0 : W.heap[g0]? = some (.cells #[.string ⟨#[]⟩, .bool false, .string ⟨#[]⟩, .slice none 0 0] 29 (0, 0))
  gw : Gw b w W
  n5 : g5 ≠ b
  n0 : g0 ≠ b
  n50 : g5 ≠ g0
  l5 : w.heap.size ≤ g5
  l0 : w.heap.size ≤ g0
section
variable {b : Nat} {s : ByteArray} {σ σ' : Nm × Bool} {g5 g0 : Nat} {w : World} {bd : Nm} {back : Bool} {kd : Nm} {v : Value} {W W' : World}
theorem KsP.call (h : KsP b s σ g5 g0 w bd back kd v W) (hR : Rk b s σ' W') (hG : Gw b W W') : KsP b s σ' g5 g0 w bd back kd v W' :=
  ⟨hR, hG.blk h.n5 h.r5, hG.blk h.n0 h.r0, h.gw.trans hG, h.n5, h.n0, h.n50, h.l5, h.l0⟩
theorem KsP.drewN (h : KsP b s σ g5 g0 w bd back kd v W) (n : Nat) : KsP b s σ g5 g0 w bd back kd v (W.drewN n) := ⟨h.rk.drewN n, h.r5, h.r0, h.gw.drew n, h.n5, h.n0, h.n50, h.l5, h.l0⟩
theorem KsP.alloc (h : KsP b s σ g5 g0 w bd back kd v W) (o : Obj) : KsP b s σ g5 g0 w bd back kd v (W.alloc o) := ⟨h.rk.alloc o, old_block h.r5 o, old_block h.r0 o, h.gw.alloc o, h.n5, h.n0, h.n50, h.l5, h.l0⟩
theorem KsP.set0 (h : KsP b s σ g5 g0 w bd back kd v W) (x : Nm) : KsP b s σ g5 g0 w x back kd v (W.setCell ⟨g5, 0, none⟩ (.string (bs x))) :=
  ⟨h.rk.setO (Ne.symm h.n5) 0 _, set4_0 h.r5 _, (heap_setCell_other W ⟨g5, 0, none⟩ g0 _ (Ne.symm h.n50)).trans h.r0, h.gw.setO h.l5 0 _, h.n5, h.n0, h.n50, h.l5, h.l0⟩
theorem KsP.set1 (h : KsP b s σ g5 g0 w bd back kd v W) (x : Bool) : KsP b s σ g5 g0 w bd x kd v (W.setCell ⟨g5, 1, none⟩ (.bool x)) :=
  ⟨h.rk.setO (Ne.symm h.n5) 1 _, set4_1 h.r5 _, (heap_setCell_other W ⟨g5, 1, none⟩ g0 _ (Ne.symm h.n50)).trans h.r0, h.gw.setO h.l5 1 _, h.n5, h.n0, h.n50, h.l5, h.l0⟩
theorem KsP.set2 (h : KsP b s σ g5 g0 w bd back kd v W) (x : Nm) : KsP b s σ g5 g0 w bd back x v (W.setCell ⟨g5, 2, none⟩ (.string (bs x))) :=
  ⟨h.rk.setO (Ne.symm h.n5) 2 _, set4_2 h.r5 _, (heap_setCell_other W ⟨g5, 2, none⟩ g0 _ (Ne.symm h.n50)).trans h.r0, h.gw.setO h.l5 2 _, h.n5, h.n0, h.n50, h.l5, h.l0⟩
theorem KsP.set3 (h : KsP b s σ g5 g0 w bd back kd v W) (x : Value) : KsP b s σ g5 g0 w bd back kd x (W.setCell ⟨g5, 3, none⟩ x) :=
  ⟨h.rk.setO (Ne.symm h.n5) 3 _, set4_3 h.r5 _, (heap_setCell_other W ⟨g5, 3, none⟩ g0 _ (Ne.symm h.n50)).trans h.r0, h.gw.setO h.l5 3 _, h.n5, h.n0, h.n50, h.l5, h.l0⟩
theorem KsP.own (h : KsP b s σ g5 g0 w bd back kd v W) {o : Option Nat} (hg : W.grownBy W' o) (h1 : o ≠ some b) (h2 : o ≠ some g5) (h3 : o ≠ some g0) (hl : ∀ k, o = some k → w.heap.size ≤ k) : KsP b s σ g5 g0 w bd back kd v W' :=
  ⟨h.rk.own hg h1, (hg.block g5 (Array.getElem?_eq_some_iff.1 h.r5).1 (Ne.symm h2)).trans h.r5, (hg.block g0 (Array.getElem?_eq_some_iff.1 h.r0).1 (Ne.symm h3)).trans h.r0, h.gw.own hg hl, h.n5, h.n0, h.n50, h.l5, h.l0⟩
/-- The step is given back: its four cells, from where it was made to where the result lies. -/
theorem KsP.done (h : KsP b s σ g5 g0 w bd back kd v W) (x0 x1 x2 x3 : Value) :
    Rk b s σ ((((W.setCell ⟨g0, 0, none⟩ x0).setCell ⟨g0, 1, none⟩ x1).setCell ⟨g0, 2, none⟩ x2).setCell ⟨g0, 3, none⟩ x3) ∧ Gw b w ((((W.setCell ⟨g0, 0, none⟩ x0).setCell ⟨g0, 1, none⟩ x1).setCell ⟨g0, 2, none⟩ x2).setCell ⟨g0, 3, none⟩ x3) :=
  ⟨(((h.rk.setO (Ne.symm h.n0) 0 _).setO (Ne.symm h.n0) 1 _).setO (Ne.symm h.n0) 2 _).setO (Ne.symm h.n0) 3 _, (((h.gw.setO h.l0 0 _).setO h.l0 1 _).setO h.l0 2 _).setO h.l0 3 _⟩
end
/-- The result of the document's step, as it lies. -/
theorem res4k {w : World} {g : Nat} {a b c d : Value} {tmps : Array Value} (h2 : tmps.getD 4 undef = .pointer (some ⟨g, 0, none⟩)) (hb : w.heap[g]? = some (.cells #[a, b, c, d] 29 (0, 0))) :
    (results Tryz.f22 tmps).run Tryz.prog w = .ok (.agg #[a, b, c, d]) w := by
  obtain ⟨c0, c1, c2, c3, _, _, _, _⟩ := own4 hb
  simp only [results, show Tryz.f22.results = #[.cell 4 29] from rfl]
  have h3 : tmps[4]?.getD undef = .pointer (some ⟨g, 0, none⟩) := by rw [← h2]; simp
  simp [Sem.run_bind, Result.andThen, h3, go_sem, c0, c1, c2, c3]
/-- What the document's step gives. -/
def KsAns (w w' : World) (e : Ending) (o : Option St) : Prop :=
  ∃ x : Sp, (∃ a n c, x.vt = .slice a n c) ∧ e = .returned x.one ∧ ∀ p, o = some p → x.st = p ∧ w'.ownsRow w.heap.size 33 5 x.vt p.ts.length (cellsT p.ts)
end Go.Proofs.YtmgkdghkenpmbaaGreatDoor
