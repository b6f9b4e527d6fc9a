/-
  The walk of the document's reader: all of it.
-/
import Derived.Test.YtmgkdghkenpmbaaGreatDoorRkH
import Derived.Test.YtmgkdghkenpmbaaGreatDoorRkI
import Derived.Test.YtmgkdghkenpmbaaGreatDoorKpB
namespace Go.Proofs.YtmgkdghkenpmbaaGreatDoor
open Go.RowKit
set_option linter.unusedVariables false
set_option linter.unusedSimpArgs false

theorem kstep_next {b : Nat} {s : ByteArray} {r : Nm} {w : World} (h : Rk b s (r, false) w) (hs : s.size ≤ 10000000) :
    Calls Tryz.prog 22 #[rp b, .bool false] w fun e w' => KsAns w w' e (pStep false r).2 ∧ Rk b s ((pStep false r).1, (pStep false r).2.isNone) w' ∧ Gw b w w' := by
  cases hb : bBk r with
  | false => exact kstep_false h hs hb
  | true => exact kstep_true h hs hb
theorem own_setB {w : World} {base : Nat} {e : TypeId} {size : Nat} {v : Value} {n : Nat} {xs : List Value} (h : w.ownsRow base e size v n xs) {g : Nat} (hg : g < base) (i : Nat) (u : Value) : (w.setCell ⟨g, i, none⟩ u).ownsRow base e size v n xs :=
  ⟨h.1, by
    rcases h.2 with h0 | ⟨g', cap, cur, hv, hb, hh, rest⟩
    · exact .inl h0
    · exact .inr ⟨g', cap, cur, hv, hb, (heap_setCell_other w ⟨g, i, none⟩ g' u (show g' ≠ g by omega)).trans hh, rest⟩⟩
/-- A block of a step, with whatever in it. -/
def Blk4 (w : World) (g : Nat) : Prop := ∃ c0 c1 c2 c3 : Value, w.heap[g]? = some (.cells #[c0, c1, c2, c3] 29 (0, 0))
/-- The steps that the document's reader has read so far. -/
structure KrI (b : Nat) (s : ByteArray) (r0 : Nm) (g6 : Nat) (w : World) (v : Value) (M : List Sp) (σ : Nm × Bool) (wr : World) : Prop where
  rk : Rk b s σ wr
  own : wr.ownsRow (g6 + 1) 29 4 v M.length (cellsS M)
  good : σ.2 = false → (∀ p ∈ M, wr.ownsRow w.heap.size 33 5 p.vt p.st.ts.length (cellsT p.st.ts)) ∧ stepsR true r0 = if σ.1 = [] then ([], some (M.map Sp.st)) else ((stepsR false σ.1).1, (stepsR false σ.1).2.map (M.map Sp.st ++ ·))
  bad : σ.2 = true → stepsR true r0 = (σ.1, none)
  r6 : Blk4 wr g6
  bl : Below w.heap.size w wr
  len : σ.2 = false → M.length + σ.1.length ≤ s.size + 1
  nb : b ≠ g6
  lb : w.heap.size ≤ b
  lg : w.heap.size ≤ g6
/-- How much is yet to be done. -/
def mR (b n : Nat) (w : World) : Nat := match w.cell? ⟨b, 2, none⟩ with
  | some (.bool true) => 0
  | _ => n - atOf b w + 1
theorem mR_bad {b n : Nat} {s : ByteArray} {q : Nm} {w : World} (h : Rk b s (q, true) w) : mR b n w = 0 := by
  obtain ⟨k, _, _, hb⟩ := h
  have : w.cell? ⟨b, 2, none⟩ = some (.bool true) := cell_at hb rfl
  unfold mR; rw [this]
theorem mR_ok {b n : Nat} {s : ByteArray} {q : Nm} {w : World} (h : Rk b s (q, false) w) : mR b n w = n - (s.size - q.length) + 1 := by
  have e := h.atOf.1
  obtain ⟨k, _, _, hb⟩ := h
  have : w.cell? ⟨b, 2, none⟩ = some (.bool false) := cell_at hb rfl
  unfold mR; rw [this, e]
theorem below_gw {w0 w w' : World} {b : Nat} (h : Below w0.heap.size w0 w) (hG : Gw b w w') (hb : w0.heap.size ≤ b) : Below w0.heap.size w0 w' :=
  below_grown h hG h.size (fun k hk => by injection hk with hk; omega)
theorem below_setG {w0 w : World} (h : Below w0.heap.size w0 w) {g : Nat} (hg : w0.heap.size ≤ g) (i : Nat) (u : Value) : Below w0.heap.size w0 (w.setCell ⟨g, i, none⟩ u) :=
  h.setCell (p := ⟨g, i, none⟩) hg u
/-- The step lies where it was laid. -/
abbrev four (w : World) (g : Nat) (x : Sp) : World := (((w.setCell ⟨g, 0, none⟩ (.string (bs x.st.bd))).setCell ⟨g, 1, none⟩ (.bool x.st.back)).setCell ⟨g, 2, none⟩ (.string (bs x.st.kd))).setCell ⟨g, 3, none⟩ x.vt
theorem own_blk {w w' : World} {g : Nat} {o : Option Nat} (h : Blk4 w g) (hg : w.grownBy w' o) (hne : o ≠ some g) : Blk4 w' g := by
  obtain ⟨c0, c1, c2, c3, h⟩ := h
  exact ⟨c0, c1, c2, c3, (hg.block g (Array.getElem?_eq_some_iff.1 h).1 (Ne.symm hne)).trans h⟩
/-- What lies behind one round, whatever was read. -/
theorem krI_step {b : Nat} {s : ByteArray} {r0 : Nm} {g6 : Nat} {w : World} {v : Value} {M : List Sp} {q : Nm} {wr W1 W2 : World} {x : Sp} {o : Obj} {a1 : Option Addr} {n1 c1 : Nat}
    (h : KrI b s r0 g6 w v M (q, false) wr) (hq : ¬ q = []) (hR1 : Rk b s ((pStep false q).1, (pStep false q).2.isNone) W1) (hG1 : Gw b wr W1)
    (hx : ∀ p, (pStep false q).2 = some p → x.st = p ∧ W1.ownsRow wr.heap.size 33 5 x.vt p.ts.length (cellsT p.ts))
    (hown : W2.ownsRow (g6 + 1) 29 4 (.slice a1 n1 c1) (M.length + 1) (cellsS M ++ x.cells)) (hgrow : ((four W1 g6 x).alloc o).grownBy W2 v.ownBlock) :
    KrI b s r0 g6 w (.slice a1 n1 c1) (M ++ [x]) ((pStep false q).1, (pStep false q).2.isNone) W2 := by
  have hge := own_ge h.own
  have hne6 : v.ownBlock ≠ some g6 := fun e => by have := hge _ e; omega
  obtain ⟨c0, d1, c2, c3, h6⟩ := h.r6
  have h61 : W1.heap[g6]? = some (.cells #[c0, d1, c2, c3] 29 (0, 0)) := hG1.blk (Ne.symm h.nb) h6
  have h62 := four_blk h61 (.string (bs x.st.bd)) (.bool x.st.back) (.string (bs x.st.kd)) x.vt
  have hRf : Rk b s ((pStep false q).1, (pStep false q).2.isNone) ((four W1 g6 x).alloc o) := ((((hR1.setO h.nb 0 _).setO h.nb 1 _).setO h.nb 2 _).setO h.nb 3 _).alloc o
  have hOf : ((four W1 g6 x).alloc o).ownsRow (g6 + 1) 29 4 v M.length (cellsS M) := (own_setB (own_setB (own_setB (own_setB (own_kt h.own (h.rk.kt hG1 (by decide))) (by omega) 0 _) (by omega) 1 _) (by omega) 2 _) (by omega) 3 _).alloc o
  have hneb : v.ownBlock ≠ some b := by
    intro e
    obtain ⟨kk, _, _, hbb⟩ := hRf
    rcases hOf.2 with ⟨rfl, _⟩ | ⟨g', cap, cur, rfl, _, hg', _⟩
    · cases e
    · have e2 : g' = b := by simpa [Value.ownBlock] using e
      subst e2; rw [hbb] at hg'; injection hg' with e3; injection e3 with _ e4; exact absurd e4 (by decide)
  have hBf : Below w.heap.size w ((four W1 g6 x).alloc o) := b_alloc (below_setG (below_setG (below_setG (below_setG (below_gw h.bl hG1 h.lb) h.lg 0 _) h.lg 1 _) h.lg 2 _) h.lg 3 _) o
  have hK : Kt 33 W1 W2 := ((four_kt h61 _ _ _ _).trans ((Kt.refl 33 _).alloc o)).trans (Kt.of_own hOf (by decide) hgrow)
  have hlen : (M ++ [x]).length = M.length + 1 := by simp
  have hcl : cellsS (M ++ [x]) = cellsS M ++ x.cells := by rw [cellsS_app]; simp [cellsS]
  have hg := h.good rfl
  simp only [if_neg hq] at hg
  refine ⟨hRf.own hgrow hneb, ?_, ?_, ?_, own_blk (show Blk4 ((four W1 g6 x).alloc o) g6 from ⟨_, _, _, _, old_block h62 o⟩) hgrow hne6, below_grown hBf hgrow hBf.size (fun k hk => by have := hge k hk; have := h.lg; omega), ?_, h.nb, h.lb, h.lg⟩
  · rw [hlen, hcl]; exact hown
  · intro hn
    simp only at hn
    rcases hp : (pStep false q).2 with _ | p
    · rw [hp] at hn; cases hn
    · obtain ⟨e1, e2⟩ := hx p hp
      refine ⟨fun y hy => ?_, ?_⟩
      · rcases List.mem_append.1 hy with hy | hy
        · exact own_kt (own_kt (hg.1 y hy) (h.rk.kt hG1 (by decide))) hK
        · rw [List.mem_singleton.1 hy, e1]
          exact own_kt (own_base e2 h.bl.size) hK
      · rw [hg.2]
        by_cases h0 : (pStep false q).1 = []
        · rw [if_pos h0, stepsR_end hp h0]; simp [e1]
        · rw [if_neg h0, stepsR_on hp h0]
          simp only [Option.map_map]
          congr 2; funext l; simp [e1]
  · intro hn
    simp only at hn
    rcases hp : (pStep false q).2 with _ | p
    · rw [hg.2, stepsR_no hp]; rfl
    · rw [hp] at hn; cases hn
  · intro hn
    simp only at hn
    have hl := h.len rfl
    simp only at hl
    have := pStep_len (f := false) (r := q) (by cases hp : (pStep false q).2 with | none => rw [hp] at hn; cases hn | some p => rfl)
    simp only [hlen]; omega
end Go.Proofs.YtmgkdghkenpmbaaGreatDoor
