/-
  Changes one by one, in plain words; and how a list of them lies in memory.
-/
import Derived.Test.YtkmkhadacppdnaaGreatDoorM24
import Derived.Deep.MidRow
import Derived.Deep.WholeRow
import Derived.Test.YtkmkhadacppdnaaGreatDoorM13
import Derived.Test.YtkmkhadacppdnaaGreatDoorM16
namespace Go.Proofs.YtkmkhadacppdnaaGreatDoor
open Go.RowKit
set_option linter.unusedVariables false
set_option linter.unusedSimpArgs false

theorem nmAt_c (L : List Kd) (n : Nm) : nmAt (L.map Kd.cz) n = nmAt L n := by unfold nmAt; rw [idxK_c]
theorem fdsAt_c (L : List Kd) (n : Nm) : fdsAt (L.map Kd.cz) n = fdsAt L n := by
  unfold fdsAt
  rw [nmAt_c, List.getElem?_map]
  cases L[nmAt L n]? <;> rfl
theorem usK_c (L : List Kd) (n : Nm) : usK (L.map Kd.cz) n = usK L n := by
  unfold usK
  rw [List.any_map]
  rfl
theorem e4_c (L : List Kd) (n f : Nm) : e4 (L.map Kd.cz) n f = e4 L n f := by unfold e4; rw [idxK_c, fdsAt_c]
theorem cE_c (L : List Kd) (B : List Bd) (c : Ch) : cE (L.map Kd.cz) B c = cE L B c := by
  unfold cE e2 e3 e7
  rw [idxK_c, usK_c, fdsAt_c, e4_c]
theorem map_eraseIdx {α β : Type} (f : α → β) : ∀ (l : List α) (i : Nat), (l.eraseIdx i).map f = (l.map f).eraseIdx i
  | [], _ => rfl
  | a :: r, 0 => rfl
  | a :: r, i + 1 => by
    show f a :: (r.eraseIdx i).map f = f a :: (r.map f).eraseIdx i
    rw [map_eraseIdx f r i]
theorem setFs_c (L : List Kd) (n : Nm) (g : List Fd) : (setFs (L.map Kd.cz) n g).map kq3 = (setFs L n g).map kq3 := by
  unfold setFs
  rw [nmAt_c, List.getElem?_map]
  cases h : L[nmAt L n]? with
  | none =>
    show (L.map Kd.cz).map kq3 = L.map kq3
    rw [List.map_map]; rfl
  | some k =>
    show ((L.map Kd.cz).set (nmAt L n) _).map kq3 = (L.set (nmAt L n) _).map kq3
    rw [List.map_set, List.map_set, List.map_map]
    rfl
theorem cK_c (L : List Kd) (c : Ch) : (cK (L.map Kd.cz) c).map kq3 = (cK L c).map kq3 := by
  have e0 : (L.map Kd.cz).map kq3 = L.map kq3 := by rw [List.map_map]; rfl
  unfold cK
  rw [nmAt_c, fdsAt_c]
  split
  · rw [List.map_append, List.map_append, e0]
  · split
    · rw [map_eraseIdx, map_eraseIdx, e0]
    · split
      · exact setFs_c L _ _
      · split
        · exact setFs_c L _ _
        · split
          · exact setFs_c L _ _
          · exact e0
theorem cE_kq {L M : List Kd} (h : M.map kq3 = L.map kq3) (B : List Bd) (c : Ch) : cE M B c = cE L B c := by rw [← cE_c M, ← cE_c L, cz_kq h]
theorem cK_kq {L M : List Kd} (h : M.map kq3 = L.map kq3) (c : Ch) : (cK M c).map kq3 = (cK L c).map kq3 := by rw [← cK_c M, ← cK_c L, cz_kq h]
theorem apE_kq {L M : List Kd} (h : M.map kq3 = L.map kq3) (B : List Bd) (c : Ch) : apE M B c = apE L B c := by
  unfold apE
  rw [cE_kq h, sErr_kq (cK_kq h c)]

/-- Changes one by one: the fault, where it is, what came. -/
def goC : List Ch → Nat → List Kd → List Bd → Int × Nat × List Kd × List Bd
  | [], _, L, B => (0, 0, L, B)
  | c :: r, k, L, B => if apE L B c = 0 then goC r (k + 1) (cK L c) (cB B c) else (apE L B c, k, [], [])
/-- All changes of any schema. -/
def allA (L : List Kd) (B : List Bd) (l : List Ch) : Int × Nat × List Kd × List Bd := if 40 < l.length then (4, 0, [], []) else if (sErr L B).2 = 0 then goC l 0 L B else ((sErr L B).2, 0, [], [])
theorem goC_step {l : List Ch} {k : Nat} {c : Ch} {L : List Kd} {B : List Bd} (hc : l[k]? = some c) (h : apE L B c = 0) : goC (l.drop k) k L B = goC (l.drop (k + 1)) (k + 1) (cK L c) (cB B c) := by
  rw [dropK hc]
  conv => lhs; unfold goC
  rw [if_pos h]
theorem goC_stop {l : List Ch} {k : Nat} {c : Ch} {L : List Kd} {B : List Bd} (hc : l[k]? = some c) (h : ¬ apE L B c = 0) : goC (l.drop k) k L B = (apE L B c, k, [], []) := by
  rw [dropK hc]
  conv => lhs; unfold goC
  rw [if_neg h]
theorem goC_end {l : List Ch} {k : Nat} {L : List Kd} {B : List Bd} (h : l.length ≤ k) : goC (l.drop k) k L B = (0, 0, L, B) := by rw [List.drop_eq_nil_of_le h]; rfl
theorem apE_right {L : List Kd} {B : List Bd} {c : Ch} (h : apE L B c = 0) : (sErr (cK L c) (cB B c)).2 = 0 := by
  unfold apE at h
  split at h
  · exact h
  · rename_i hn; exact absurd h hn

/-- Changes lie there. -/
def LiesC (w : World) (b off : Nat) (l : List Ch) : Prop := ∀ k c, l[k]? = some c → w.rangeAt b (off + k * 18) c.cells ∧ ChIs w c
/-- The value is this list of changes. -/
def IsC (w : World) (v : Value) (l : List Ch) : Prop := ∃ ao cp, v = .slice ao l.length cp ∧ l.length ≤ maxLen ∧ (l = [] ∨ ∃ b off, ao = some ⟨b, off, none⟩ ∧ b < w.heap.size ∧ LiesC w b off l)
theorem LiesC.on {w w' : World} {b off : Nat} {l : List Ch} (h : LiesC w b off l) (hb : b < w.heap.size) (hB : Below w.heap.size w w') : LiesC w' b off l := fun k c hk =>
  ⟨fun j v hj => (hB.cell (p := ⟨b, off + k * 18 + j, none⟩) hb).trans ((h k c hk).1 j v hj), (h k c hk).2.on hB⟩
/-- A whole struct, stored into the block that was made last. -/
theorem wpList_store_new {P : Program} {ops : Array Oper} {rest : List Oper} {o : Oper} {a : Act} {w : World} {Q : Exit → Act → World → Prop} (hgd : o.guard = none) (ty : TypeId) (x y : Operand) (ho : o.op = .store ty x y) (old cells : Array Value)
    (hx : a.eval x = .pointer (some ⟨w.heap.size, 0, none⟩)) (hy : a.eval y = .agg cells) (hi : (P.info? ty).map (·.size) = some cells.size) (hs : old.size = cells.size) (h1 : cells.all (·.oneCell') = true)
    (h : wpList P ops Q rest (a.put o.dst undef) (w.alloc (.cells cells ty))) : wpList P ops Q (o :: rest) a (w.alloc (.cells old ty)) := by
  refine wpList_plain hgd fun K hK => ?_
  unfold Oper.wp execOp
  simp only [ho, hx, hy, Instr.storeAt, Instr.sureAddr, Sem.run_bind, Sem.run_pure, Result.andThen_ok, run_storeVar_new (P := P) w ty old cells hi hs h1]
  exact hK _ _ h
/-- What All leaves. -/
def AllP (w : World) (r : Int × Nat × List Kd × List Bd) (e : Ending) (w' : World) : Prop :=
  ∃ uk ub M, e = .returned (.tuple #[.agg #[uk, ub], .int .i64 r.2.1, errV r.1]) ∧ M.map kq3 = r.2.2.1.map kq3 ∧ OwnKs w' w.heap.size uk M ∧ OwnBs w' w.heap.size ub r.2.2.2 ∧ Below w.heap.size w w'
theorem allP_nil {w w' : World} {x : Int} {k : Nat} {e : Ending} (he : e = .returned (.tuple #[.agg #[.slice none 0 0, .slice none 0 0], .int .i64 k, errV x])) (hB : Below w.heap.size w w') : AllP w (x, k, [], []) e w' :=
  ⟨_, _, [], he, rfl, ⟨World.ownsRow_nil _ _ _ _, fun k hk => by cases hk⟩, World.ownsRow_nil _ _ _ _, hB⟩
/-- What stands between two rounds of All. -/
def AlI (W1 : World) (base p : Nat) (L : List Kd) (B : List Bd) (l : List Ch) (k : Nat) (wr : World) : Prop :=
  ∃ Lk Bk M, goC l 0 L B = goC (l.drop k) k Lk Bk ∧ (sErr Lk Bk).2 = 0 ∧ M.map kq3 = Lk.map kq3 ∧ OSc wr base p M Bk ∧ Below base W1 wr
set_option maxHeartbeats 4000000 in
set_option maxRecDepth 100000 in
theorem all_many {w : World} {vk vb vl : Value} {L : List Kd} {B : List Bd} {l : List Ch} (hK : IsK w vk L) (hb : IsB w vb B) (hl : IsC w vl l) (h40 : 40 < l.length) :
    Calls Tryz.prog 12 #[.agg #[vk, vb], vl] w (AllP w (4, 0, [], [])) := by
  obtain ⟨ao, cp, rfl, hm, _⟩ := hl
  obtain ⟨a1, c1, rfl, _⟩ := hK.sln
  obtain ⟨a2, c2, rfl, _⟩ := hb.sln
  have h41 : (40 : Int) < (l.length : Int) := by omega
  have hB0 : Below w.heap.size w ((w.alloc (.cells #[.slice a1 L.length c1, .slice a2 B.length c2] 25)).alloc (.cells #[.slice none 0 0, .slice none 0 0] 25)) := b_alloc (b_alloc (Below.refl _ _) _) _
  unfold maxLen at hm
  clear hK hb
  go_enter Tryz.func12, Tryz.ntmps12
  go_wp2
  refine bodyPost_ret (v := .tuple #[.agg #[.slice none 0 0, .slice none 0 0], .int .i64 0, .iface 65 (.int .i64 4)]) ?_ rfl (allP_nil rfl ?_)
  · simp [results, Tryz.results12, go_sem]
  · first | exact hB0 | exact (hB0.setCell (by simp) _).setCell (by simp) _
end Go.Proofs.YtkmkhadacppdnaaGreatDoor

/-
  kinref2.Change: what it leaves; what stands behind its first rows, and ahead of its last ones.
-/
namespace Go.Proofs.YtkmkhadacppdnaaGreatDoor
open Go.RowKit
set_option linter.unusedVariables false
set_option linter.unusedSimpArgs false

/-- What kinref2.Change leaves. -/
def RcP (w : World) (x : Int) (K : List Kd) (B : List Bd) (e : Ending) (w' : World) : Prop :=
  ∃ uk ub M, e = .returned (.tuple #[.agg #[uk, ub], .int .i64 x]) ∧ (x = 0 → M.map kq3 = K.map kq3 ∧ IsK w' uk M ∧ Parts w' M ∧ IsB w' ub B) ∧ (¬ x = 0 → uk = .slice none 0 0 ∧ ub = .slice none 0 0) ∧ Below w.heap.size w w'

/-- Where lists lie: in the world as it was, or in rows that the call made behind its first four blocks. -/
def AnF (w W : World) (v : Value) (l : List Fd) : Prop := IsF w v l ∨ W.ownsRow (w.heap.size + 4) 33 4 v l.length (cellsF l)
def NwK (w W : World) (v : Value) (L : List Kd) : Prop := ∃ g cap, v = .slice (some ⟨g, 0, none⟩) L.length cap ∧ L.length ≤ cap ∧ cap ≤ maxLen ∧ w.heap.size + 4 ≤ g ∧ g < W.heap.size ∧ LiesK W g 0 L
def NwB (w W : World) (v : Value) (B : List Bd) : Prop := ∃ g cap, v = .slice (some ⟨g, 0, none⟩) B.length cap ∧ B.length ≤ cap ∧ cap ≤ maxLen ∧ w.heap.size + 4 ≤ g ∧ g < W.heap.size ∧ LiesB W g 0 B
def AnK (w W : World) (v : Value) (L : List Kd) : Prop := IsK w v L ∨ W.ownsRow (w.heap.size + 4) 29 3 v L.length (cellsK L) ∨ NwK w W v L
def AnB (w W : World) (v : Value) (B : List Bd) : Prop := IsB w v B ∨ W.ownsRow (w.heap.size + 4) 31 5 v B.length (cellsBd B) ∨ NwB w W v B
theorem NwK.isK {w W : World} {v : Value} {L : List Kd} (h : NwK w W v L) : IsK W v L := by
  obtain ⟨g, cap, rfl, h1, h2, _, h3, h4⟩ := h
  exact .inr ⟨g, 0, cap, rfl, h1, h2, h3, h4⟩
theorem NwB.isB {w W : World} {v : Value} {B : List Bd} (h : NwB w W v B) : IsB W v B := by
  obtain ⟨g, cap, rfl, h1, h2, _, h3, h4⟩ := h
  exact .inr ⟨g, 0, cap, rfl, h1, h2, h3, h4⟩
theorem NwK.keep {w W W' : World} {v : Value} {L : List Kd} (h : NwK w W v L) (hs : W.heap.size ≤ W'.heap.size) (hc : ∀ g i, w.heap.size + 4 ≤ g → g < W.heap.size → W'.cell? ⟨g, i, none⟩ = W.cell? ⟨g, i, none⟩) : NwK w W' v L := by
  obtain ⟨g, cap, rfl, h1, h2, h0, h3, h4⟩ := h
  exact ⟨g, cap, rfl, h1, h2, h0, Nat.lt_of_lt_of_le h3 hs, fun i k hk => ⟨(hc g _ h0 h3).trans (h4 i k hk).1, (hc g _ h0 h3).trans (h4 i k hk).2.1, (hc g _ h0 h3).trans (h4 i k hk).2.2⟩⟩
theorem NwB.keep {w W W' : World} {v : Value} {B : List Bd} (h : NwB w W v B) (hs : W.heap.size ≤ W'.heap.size) (hc : ∀ g i, w.heap.size + 4 ≤ g → g < W.heap.size → W'.cell? ⟨g, i, none⟩ = W.cell? ⟨g, i, none⟩) : NwB w W' v B := by
  obtain ⟨g, cap, rfl, h1, h2, h0, h3, h4⟩ := h
  exact ⟨g, cap, rfl, h1, h2, h0, Nat.lt_of_lt_of_le h3 hs, fun i k hk => ⟨(hc g _ h0 h3).trans (h4 i k hk).1, (hc g _ h0 h3).trans (h4 i k hk).2.1, (hc g _ h0 h3).trans (h4 i k hk).2.2.1, (hc g _ h0 h3).trans (h4 i k hk).2.2.2.1, (hc g _ h0 h3).trans (h4 i k hk).2.2.2.2⟩⟩
theorem set_cells {w W : World} {g : Nat} (h2 : g < w.heap.size + 4) (i : Nat) (u : Value) : ∀ b j, w.heap.size + 4 ≤ b → b < W.heap.size → (W.setCell ⟨g, i, none⟩ u).cell? ⟨b, j, none⟩ = W.cell? ⟨b, j, none⟩ := fun b j hb _ => World.cell?_of_block (a := ⟨b, j, none⟩) (heap_setCell_other W ⟨g, i, none⟩ b u (by show b ≠ g; omega))
/-- What the call has made of the schema. -/
def EnS (w W : World) (uk ub : Value) (M : List Kd) (B : List Bd) : Prop := AnK w W uk M ∧ (∀ k ∈ M, IsS w k.vo k.of ∧ AnF w W k.vf k.fs) ∧ AnB w W ub B ∧ Below w.heap.size w W
theorem EnS.isK {w W : World} {uk ub : Value} {M : List Kd} {B : List Bd} (h : EnS w W uk ub M B) : IsK W uk M := h.1.elim (·.on h.2.2.2) (fun o => o.elim own_isK NwK.isK)
theorem EnS.parts {w W : World} {uk ub : Value} {M : List Kd} {B : List Bd} (h : EnS w W uk ub M B) : Parts W M := fun k hk => ⟨(h.2.1 k hk).1.on h.2.2.2, (h.2.1 k hk).2.elim (·.on h.2.2.2) own_isF⟩
theorem EnS.isB {w W : World} {uk ub : Value} {M : List Kd} {B : List Bd} (h : EnS w W uk ub M B) : IsB W ub B := h.2.2.1.elim (·.on h.2.2.2) (fun o => o.elim (fun o => OwnBs.isB (base := w.heap.size + 4) o) NwB.isB)
theorem EnS.on {w W W' : World} {uk ub : Value} {M : List Kd} {B : List Bd} (h : EnS w W uk ub M B) (hB : Below W.heap.size W W') : EnS w W' uk ub M B :=
  ⟨h.1.imp id (Or.imp (fun o => own_kt o (.of_below hB)) (fun o => o.keep hB.size (fun g i _ hg => hB.cell (p := ⟨g, i, none⟩) hg))), fun k hk => ⟨(h.2.1 k hk).1, (h.2.1 k hk).2.imp id (fun o => own_kt o (.of_below hB))⟩, h.2.2.1.imp id (Or.imp (fun o => own_kt o (.of_below hB)) (fun o => o.keep hB.size (fun g i _ hg => hB.cell (p := ⟨g, i, none⟩) hg))), h.2.2.2.trans (hB.mono h.2.2.2.size)⟩
theorem own_low {w W : World} {e : TypeId} {sz g : Nat} {v : Value} {n : Nat} {xs : List Value} (h : W.ownsRow (w.heap.size + 4) e sz v n xs) (hg : g < w.heap.size + 4) : v.ownBlock ≠ some g := fun e => by have := (h.lt g e).1; omega
theorem EnS.set {w W : World} {uk ub : Value} {M : List Kd} {B : List Bd} (h : EnS w W uk ub M B) {g : Nat} (h1 : w.heap.size ≤ g) (h2 : g < w.heap.size + 4) (i : Nat) (u : Value) : EnS w (W.setCell ⟨g, i, none⟩ u) uk ub M B :=
  ⟨h.1.imp id (Or.imp (fun o => own_set o (own_low o h2) _ _) (fun o => o.keep (by simp) (set_cells h2 _ _))), fun k hk => ⟨(h.2.1 k hk).1, (h.2.1 k hk).2.imp id (fun o => own_set o (own_low o h2) _ _)⟩, h.2.2.1.imp id (Or.imp (fun o => own_set o (own_low o h2) _ _) (fun o => o.keep (by simp) (set_cells h2 _ _))), h.2.2.2.setCell (p := ⟨g, i, none⟩) h1 _⟩

/-- An exit with a fault. -/
theorem rc_err {w W : World} (hB : Below w.heap.size w W) (h2 : W.heap[w.heap.size + 2]? = some (.cells #[.slice none 0 0, .slice none 0 0] 25 (0, 0))) (x : Int) (hx : ¬ x = 0) (K : List Kd) (B : List Bd) :
    ∀ Y, Y = (W.setCell ⟨w.heap.size + 2, 0, none⟩ (.slice none 0 0)).setCell ⟨w.heap.size + 2, 1, none⟩ (.slice none 0 0) → Y.cell? ⟨w.heap.size + 2, 0, none⟩ = some (.slice none 0 0) ∧ Y.cell? ⟨w.heap.size + 2, 1, none⟩ = some (.slice none 0 0) ∧ RcP w x K B (.returned (.tuple #[.agg #[.slice none 0 0, .slice none 0 0], .int .i64 x])) Y := fun Y hY => by
  have t1 : Y.heap[w.heap.size + 2]? = some (.cells #[.slice none 0 0, .slice none 0 0] 25 (0, 0)) := by rw [hY]; exact heap_setCell_same _ _ 1 _ 25 _ (heap_setCell_same W _ 0 _ 25 _ h2)
  refine ⟨cell_at t1 rfl, cell_at t1 rfl, _, _, [], rfl, fun h => absurd h hx, fun _ => ⟨rfl, rfl⟩, ?_⟩
  rw [hY]
  exact (hB.setCell (by show _ ≤ w.heap.size + 2; omega) _).setCell (by show _ ≤ w.heap.size + 2; omega) _
/-- The exit without one. -/
theorem rc_ok {w W : World} {uk ub : Value} {M K : List Kd} {B : List Bd} (h : EnS w W uk ub M B) (hM : M.map kq3 = K.map kq3) (h2 : W.heap[w.heap.size + 2]? = some (.cells #[.slice none 0 0, .slice none 0 0] 25 (0, 0))) :
    ∀ Y, Y = (W.setCell ⟨w.heap.size + 2, 0, none⟩ uk).setCell ⟨w.heap.size + 2, 1, none⟩ ub → Y.cell? ⟨w.heap.size + 2, 0, none⟩ = some uk ∧ Y.cell? ⟨w.heap.size + 2, 1, none⟩ = some ub ∧ RcP w 0 K B (.returned (.tuple #[.agg #[uk, ub], .int .i64 0])) Y := fun Y hY => by
  have t1 : Y.heap[w.heap.size + 2]? = some (.cells #[uk, ub] 25 (0, 0)) := by rw [hY]; exact heap_setCell_same _ _ 1 _ 25 _ (heap_setCell_same W _ 0 _ 25 _ h2)
  have hE : EnS w Y uk ub M B := by rw [hY]; exact (h.set (by omega) (by omega) _ _).set (by omega) (by omega) _ _
  exact ⟨cell_at t1 rfl, cell_at t1 rfl, uk, ub, M, rfl, fun _ => ⟨hM, hE.isK, hE.parts, hE.isB⟩, fun h => absurd rfl h, hE.2.2.2⟩
/-- What stands ahead of the last rows: the call of Right, and what comes of it. -/
def EnF (w : World) (uk ub : Value) (x : Int) (K : List Kd) (B : List Bd) (X : World) : Prop :=
  (X.cell? ⟨w.heap.size + 3, 0, none⟩ = some uk ∧ X.cell? ⟨w.heap.size + 3, 1, none⟩ = some ub ∧ X.heap[w.heap.size + 2]? = some (.cells #[.slice none 0 0, .slice none 0 0] 25 (0, 0))) ∧
  (¬ x = 0 → ∀ Y, Y = (X.setCell ⟨w.heap.size + 2, 0, none⟩ (.slice none 0 0)).setCell ⟨w.heap.size + 2, 1, none⟩ (.slice none 0 0) → Y.cell? ⟨w.heap.size + 2, 0, none⟩ = some (.slice none 0 0) ∧ Y.cell? ⟨w.heap.size + 2, 1, none⟩ = some (.slice none 0 0) ∧ RcP w x K B (.returned (.tuple #[.agg #[.slice none 0 0, .slice none 0 0], .int .i64 x])) Y) ∧
  (x = 0 → ∀ Y, Y = (X.setCell ⟨w.heap.size + 2, 0, none⟩ uk).setCell ⟨w.heap.size + 2, 1, none⟩ ub → Y.cell? ⟨w.heap.size + 2, 0, none⟩ = some uk ∧ Y.cell? ⟨w.heap.size + 2, 1, none⟩ = some ub ∧ RcP w x K B (.returned (.tuple #[.agg #[uk, ub], .int .i64 0])) Y)
theorem rc_end {w W : World} {uk ub : Value} {M K : List Kd} {B : List Bd} (h : EnS w W uk ub M B) (hM : M.map kq3 = K.map kq3) (hz : SzK M) (hzb : SzB B) (h2 : W.heap[w.heap.size + 2]? = some (.cells #[.slice none 0 0, .slice none 0 0] 25 (0, 0))) (h3 : W.heap[w.heap.size + 3]? = some (.cells #[uk, ub] 25 (0, 0))) :
    Calls Tryz.prog 4 #[.agg #[uk, ub]] W fun e X => e = .returned (.int .i64 (sErr K B).2) ∧ EnF w uk ub (sErr K B).2 K B X := by
  refine (rright_any h.isK h.parts hz h.isB hzb).mono ?_
  rintro e X ⟨he, hB⟩
  rw [sErr_kq hM] at he
  have x2 := (hB.block _ (Array.getElem?_eq_some_iff.1 h2).1).trans h2
  have x3 := (hB.block _ (Array.getElem?_eq_some_iff.1 h3).1).trans h3
  exact ⟨he, ⟨cell_at x3 rfl, cell_at x3 rfl, x2⟩, fun hx => rc_err (h.on hB).2.2.2 x2 _ hx K B, fun hx => by rw [hx]; exact rc_ok (h.on hB) hM x2⟩

/-- What stands behind the first rows. -/
def Pro (w : World) (S C : Array Value) (L : List Kd) (B : List Bd) (v9 v10 : Value) (W : World) : Prop :=
  Below w.heap.size w W ∧ W.heap[w.heap.size]? = some (.cells S 25 (0, 0)) ∧ W.heap[w.heap.size + 1]? = some (.cells C 37 (0, 0)) ∧ W.heap[w.heap.size + 2]? = some (.cells #[.slice none 0 0, .slice none 0 0] 25 (0, 0)) ∧ W.heap[w.heap.size + 3]? = some (.cells S 25 (0, 0)) ∧
  W.ownsRow (w.heap.size + 4) 29 3 v9 L.length (cellsK L) ∧ W.ownsRow (w.heap.size + 4) 31 5 v10 B.length (cellsBd B)
theorem Pro.size {w W : World} {S C : Array Value} {L : List Kd} {B : List Bd} {v9 v10 : Value} (h : Pro w S C L B v9 v10 W) : w.heap.size + 4 ≤ W.heap.size := (Array.getElem?_eq_some_iff.1 h.2.2.2.2.1).1
/-- The first blocks are there. -/
def Pr0 (w : World) (S C : Array Value) (W : World) : Prop :=
  Below w.heap.size w W ∧ W.heap[w.heap.size]? = some (.cells S 25 (0, 0)) ∧ W.heap[w.heap.size + 1]? = some (.cells C 37 (0, 0)) ∧ W.heap[w.heap.size + 2]? = some (.cells #[.slice none 0 0, .slice none 0 0] 25 (0, 0)) ∧ W.heap[w.heap.size + 3]? = some (.cells S 25 (0, 0))
theorem Pr0.grown {w W W' : World} {S C : Array Value} (h : Pr0 w S C W) {r : Option Nat} (hg : W.grownBy W' r) (hr : ∀ g, r = some g → w.heap.size + 4 ≤ g) : Pr0 w S C W' := by
  obtain ⟨h0, h1, h2, h3, h4⟩ := h
  have b : ∀ g o, g < w.heap.size + 4 → W.heap[g]? = some o → W'.heap[g]? = some o := fun g o hlt ho => (hg.block g (Array.getElem?_eq_some_iff.1 ho).1 (fun e => by have := hr g e.symm; omega)).trans ho
  exact ⟨below_grown h0 hg h0.size (fun g e => by have := hr g e; omega), b _ _ (by omega) h1, b _ _ (by omega) h2, b _ _ (by omega) h3, b _ _ (by omega) h4⟩
theorem pro_first {w W : World} {vk vb : Value} {C : Array Value} {L : List Kd} (h0 : Pr0 w #[vk, vb] C W) (hK : IsK w vk L) (hP : Parts w L) (hn : L.length ≤ 12) :
    ∀ ty, ∃ v' w', (Builtin.append_ #[22, 22] ty #[.slice none 0 0, vk]).run Tryz.prog W = .ok v' w' ∧ (Pr0 w #[vk, vb] C w' ∧ w'.ownsRow (w.heap.size + 4) 29 3 v' L.length (cellsK L)) := fun ty => by
  obtain ⟨i0, hi0, hz0, hz1, hz2⟩ := info_parts infoKd
  obtain ⟨v', w', r1, r2, r3⟩ := run_clone (P := Tryz.prog) W (w.heap.size + 4) 22 ty 29 i0 _ 3 64 Tryz.underlying22 hi0 hz0 hz1 hz2 rfl (by decide) vk L.length (cellsK L) ((hasKd hK).on h0.1) (cellsK_lenR L) (cellsK_one hP.one) (by unfold maxLen; omega) (by omega) (Array.getElem?_eq_some_iff.1 h0.2.2.2.2).1
  exact ⟨v', w', r1, h0.grown r3 (fun g e => by cases e), r2⟩
theorem pro_next {w W : World} {vk vb v9 : Value} {C : Array Value} {L : List Kd} {B : List Bd} (h0 : Pr0 w #[vk, vb] C W) (h9 : W.ownsRow (w.heap.size + 4) 29 3 v9 L.length (cellsK L)) (hb : IsB w vb B) (hn : B.length ≤ 12) :
    ∀ ty, ∃ v' w', (Builtin.append_ #[23, 23] ty #[.slice none 0 0, vb]).run Tryz.prog W = .ok v' w' ∧ Pro w #[vk, vb] C L B v9 v' w' := fun ty => by
  obtain ⟨i0, hi0, hz0, hz1, hz2⟩ := info_parts infoBdI
  obtain ⟨v', w', r1, r2, r3⟩ := run_clone (P := Tryz.prog) W (w.heap.size + 4) 23 ty 31 i0 _ 5 64 Tryz.underlying23 hi0 hz0 hz1 hz2 rfl (by decide) vb B.length (cellsBd B) ((hasB hb).on h0.1) (flatK_len bd_len B) (bd_oneI B) (by unfold maxLen; omega) (by omega) (Array.getElem?_eq_some_iff.1 h0.2.2.2.2).1
  obtain ⟨q0, q1, q2, q3, q4⟩ := h0.grown r3 (fun g e => by cases e)
  exact ⟨v', w', r1, q0, q1, q2, q3, q4, own_kt h9 (.of_row r3), r2⟩
end Go.Proofs.YtkmkhadacppdnaaGreatDoor

/-
  kinref2.Change of a bond that is added.
-/
namespace Go.Proofs.YtkmkhadacppdnaaGreatDoor
open Go.RowKit
set_option linter.unusedVariables false
set_option linter.unusedSimpArgs false

theorem info25s : (Tryz.prog.info? 25).map (fun i => i.size) = some 2 := by kernel_rfl
set_option maxHeartbeats 8000000 in
set_option maxRecDepth 100000 in
theorem rc_5 {w : World} {vk vb : Value} {L : List Kd} {B : List Bd} (c : Ch) (hK : IsK w vk L) (hP : Parts w L) (hz : SzK L) (hb : IsB w vb B) (hzb : SzB B) (hs : (sErr L B).2 = 0) (hc : ChIs w c) (hcz : ChSz c) (hw : c.wh = 5) :
    Calls Tryz.prog 5 #[.agg #[vk, vb], c.one] w (RcP w ((sErr L (B ++ [c.bd])).2) (L) (B ++ [c.bd])) := by
  obtain ⟨hG, hn, hnb⟩ := good_of hs
  obtain ⟨wh, nm, ⟨kn, ko, kf, vo, vf⟩, ⟨bn, bf, bt, mn, mx⟩, ⟨fn, ft, fm, fk⟩, vt, vn, vs, tn⟩ := c
  obtain ⟨a1, c1, rfl, _⟩ := hK.sln
  obtain ⟨a2, c2, rfl, _⟩ := hb.sln
  obtain ⟨ao, lo1, co, q1⟩ := hc.1.sl
  obtain ⟨af, lf1, cf, q2⟩ := hc.2.sl
  simp only at q1 q2 hw hc hcz ⊢
  subst q1 q2 hw
  obtain ⟨W0, hW0⟩ : ∃ W0, W0 = ((w.alloc (.cells #[.slice a1 L.length c1, .slice a2 B.length c2] 25)).alloc (.cells #[.int .i64 5, .string (bs nm), .string (bs kn), .slice ao lo1 co, .slice af lf1 cf, .string (bs bn), .string (bs bf), .string (bs bt), .int .i64 mn, .int .i64 mx, .string (bs fn), .int .i64 ft, .bool fm, .bool fk, .int .i64 vt, .int .i64 vn, .string (bs vs), .string (bs tn)] 37)).alloc (.cells #[.slice none 0 0, .slice none 0 0] 25) := ⟨_, rfl⟩
  have hB0 : Below w.heap.size w W0 := by rw [hW0]; exact b_alloc (b_alloc (b_alloc (Below.refl _ _) _) _) _
  have hs0 : W0.heap.size = w.heap.size + 3 := by rw [hW0]; simp
  have n0 : W0.heap[w.heap.size]? = some (.cells #[.slice a1 L.length c1, .slice a2 B.length c2] 25 (0, 0)) := by rw [hW0]; exact (heap_alloc_old _ _ (by simp; omega)).trans ((heap_alloc_old _ _ (by simp)).trans (heap_alloc_new w _))
  have n1 : W0.heap[w.heap.size + 1]? = some (.cells #[.int .i64 5, .string (bs nm), .string (bs kn), .slice ao lo1 co, .slice af lf1 cf, .string (bs bn), .string (bs bf), .string (bs bt), .int .i64 mn, .int .i64 mx, .string (bs fn), .int .i64 ft, .bool fm, .bool fk, .int .i64 vt, .int .i64 vn, .string (bs vs), .string (bs tn)] 37 (0, 0)) := by
    have := heap_alloc_new (w.alloc (.cells #[.slice a1 L.length c1, .slice a2 B.length c2] 25)) (.cells #[.int .i64 5, .string (bs nm), .string (bs kn), .slice ao lo1 co, .slice af lf1 cf, .string (bs bn), .string (bs bf), .string (bs bt), .int .i64 mn, .int .i64 mx, .string (bs fn), .int .i64 ft, .bool fm, .bool fk, .int .i64 vt, .int .i64 vn, .string (bs vs), .string (bs tn)] 37)
    rw [World.size_alloc] at this; rw [hW0]; exact (heap_alloc_old _ _ (by simp)).trans this
  have n2 : W0.heap[w.heap.size + 2]? = some (.cells #[.slice none 0 0, .slice none 0 0] 25 (0, 0)) := by
    have := heap_alloc_new ((w.alloc (.cells #[.slice a1 L.length c1, .slice a2 B.length c2] 25)).alloc (.cells #[.int .i64 5, .string (bs nm), .string (bs kn), .slice ao lo1 co, .slice af lf1 cf, .string (bs bn), .string (bs bf), .string (bs bt), .int .i64 mn, .int .i64 mx, .string (bs fn), .int .i64 ft, .bool fm, .bool fk, .int .i64 vt, .int .i64 vn, .string (bs vs), .string (bs tn)] 37)) (.cells #[.slice none 0 0, .slice none 0 0] 25)
    rw [World.size_alloc, World.size_alloc] at this; rw [hW0]; exact this
  obtain ⟨W1, hW1⟩ : ∃ W1, W1 = W0.alloc (.cells #[.slice a1 L.length c1, .slice a2 B.length c2] 25) := ⟨_, rfl⟩
  have hB1 : Below W0.heap.size W0 W1 := by rw [hW1]; exact b_alloc (Below.refl _ _) _
  have m3 : W1.heap[w.heap.size + 3]? = some (.cells #[.slice a1 L.length c1, .slice a2 B.length c2] 25 (0, 0)) := by
    have := heap_alloc_new W0 (.cells #[.slice a1 L.length c1, .slice a2 B.length c2] 25)
    rw [hs0] at this; rw [hW1]; exact this
  have h0 : Pr0 w #[.slice a1 L.length c1, .slice a2 B.length c2] #[.int .i64 5, .string (bs nm), .string (bs kn), .slice ao lo1 co, .slice af lf1 cf, .string (bs bn), .string (bs bf), .string (bs bt), .int .i64 mn, .int .i64 mx, .string (bs fn), .int .i64 ft, .bool fm, .bool fk, .int .i64 vt, .int .i64 vn, .string (bs vs), .string (bs tn)] W1 := ⟨on1K hB0 hB1 (Nat.le_refl _), (hB1.block _ (by omega)).trans n0, (hB1.block _ (by omega)).trans n1, (hB1.block _ (by omega)).trans n2, m3⟩
  have P1 := Lib.hid (pro_first h0 hK hP hn)
  have P2 : Hid (∀ W v9, Pr0 w #[.slice a1 L.length c1, .slice a2 B.length c2] #[.int .i64 5, .string (bs nm), .string (bs kn), .slice ao lo1 co, .slice af lf1 cf, .string (bs bn), .string (bs bf), .string (bs bt), .int .i64 mn, .int .i64 mx, .string (bs fn), .int .i64 ft, .bool fm, .bool fk, .int .i64 vt, .int .i64 vn, .string (bs vs), .string (bs tn)] W → W.ownsRow (w.heap.size + 4) 29 3 v9 L.length (cellsK L) → ∀ ty, ∃ v' w', (Builtin.append_ #[23, 23] ty #[.slice none 0 0, .slice a2 B.length c2]).run Tryz.prog W = .ok v' w' ∧ Pro w #[.slice a1 L.length c1, .slice a2 B.length c2] #[.int .i64 5, .string (bs nm), .string (bs kn), .slice ao lo1 co, .slice af lf1 cf, .string (bs bn), .string (bs bf), .string (bs bt), .int .i64 mn, .int .i64 mx, .string (bs fn), .int .i64 ft, .bool fm, .bool fk, .int .i64 vt, .int .i64 vn, .string (bs vs), .string (bs tn)] L B v9 v' w') := fun W v9 q0 q9 => pro_next q0 q9 hb hnb
  have ck := rkind_any (hK.on h0.1) hn nm
  have cb := rbond_any (hb.on h0.1) hnb nm
  have d0 : W0.cell? ⟨w.heap.size, 0, none⟩ = some (.slice a1 L.length c1) := cell_at n0 rfl
  have d1 : W0.cell? ⟨w.heap.size, 1, none⟩ = some (.slice a2 B.length c2) := cell_at n0 rfl
  have e0 : W1.cell? ⟨w.heap.size, 0, none⟩ = some (.slice a1 L.length c1) := cell_at h0.2.1 rfl
  have e1 : W1.cell? ⟨w.heap.size, 1, none⟩ = some (.slice a2 B.length c2) := cell_at h0.2.1 rfl
  have e2 : W1.cell? ⟨w.heap.size + 1, 1, none⟩ = some (.string (bs nm)) := cell_at h0.2.2.1 rfl
  have HK : Hid (IsK w (.slice a1 L.length c1) L ∧ Parts w L ∧ SzK L ∧ IsB w (.slice a2 B.length c2) B ∧ SzB B) := ⟨hK, hP, hz, hb, hzb⟩
  have HCC := Lib.hid hc
  have HCZ := Lib.hid hcz
  have HG := Lib.hid hG
  have HS := Lib.hid hs
  have HW1 := Lib.hid hW1
  have HS0 := Lib.hid hs0
  generalize hX : (sErr L (B ++ [(⟨bn, bf, bt, mn, mx⟩ : Bd)])).2 = x
  have HA : Hid (∀ v9 v10 W3, Pro w #[.slice a1 L.length c1, .slice a2 B.length c2] #[.int .i64 5, .string (bs nm), .string (bs kn), .slice ao lo1 co, .slice af lf1 cf, .string (bs bn), .string (bs bf), .string (bs bt), .int .i64 mn, .int .i64 mx, .string (bs fn), .int .i64 ft, .bool fm, .bool fk, .int .i64 vt, .int .i64 vn, .string (bs vs), .string (bs tn)] L B v9 v10 W3 → ∀ ty, ∃ v' w', (Builtin.append_ #[23, 23] ty #[v10, .slice (some ⟨W3.heap.size, 0, none⟩) 1 1]).run Tryz.prog (W3.alloc (.cells #[.string (bs bn), .string (bs bf), .string (bs bt), .int .i64 mn, .int .i64 mx] 31)) = .ok v' w' ∧ ((∃ a c, v' = .slice a (B.length + 1) c) ∧ (w'.cell? ⟨w.heap.size + 3, 1, none⟩ = some (.slice a2 B.length c2) ∧ w'.frozen? ⟨w.heap.size + 3, 1, none⟩ = false) ∧ ∀ Z, Z = w'.setCell ⟨w.heap.size + 3, 1, none⟩ v' → (Z.cell? ⟨w.heap.size + 3, 0, none⟩ = some (.slice a1 L.length c1) ∧ Z.cell? ⟨w.heap.size + 3, 1, none⟩ = some v') ∧ Calls Tryz.prog 4 #[.agg #[.slice a1 L.length c1, v']] Z fun e X => e = .returned (.int .i64 x) ∧ EnF w (.slice a1 L.length c1) v' x L (B ++ [⟨bn, bf, bt, mn, mx⟩]) X)) := fun v9 v10 W3 h3 ty => by
    obtain ⟨i0, hi0, hz0, hz1, hz2⟩ := info_parts infoBdI
    obtain ⟨q0, q1, q2, q3, q4, q9, q10⟩ := h3
    have hsz : w.heap.size + 4 ≤ W3.heap.size := (Array.getElem?_eq_some_iff.1 q4).1
    have hBa : Below W3.heap.size W3 (W3.alloc (.cells #[.string (bs bn), .string (bs bf), .string (bs bt), .int .i64 mn, .int .i64 mx] 31)) := b_alloc (Below.refl _ _) _
    have na := heap_alloc_new W3 (.cells #[.string (bs bn), .string (bs bf), .string (bs bt), .int .i64 mn, .int .i64 mx] 31)
    have p0 : Pr0 w #[.slice a1 L.length c1, .slice a2 B.length c2] #[.int .i64 5, .string (bs nm), .string (bs kn), .slice ao lo1 co, .slice af lf1 cf, .string (bs bn), .string (bs bf), .string (bs bt), .int .i64 mn, .int .i64 mx, .string (bs fn), .int .i64 ft, .bool fm, .bool fk, .int .i64 vt, .int .i64 vn, .string (bs vs), .string (bs tn)] (W3.alloc (.cells #[.string (bs bn), .string (bs bf), .string (bs bt), .int .i64 mn, .int .i64 mx] 31)) := Pr0.grown (W := W3) ⟨q0, q1, q2, q3, q4⟩ (grown_of_below hBa none) (fun g e => by cases e)
    obtain ⟨v', w', r1, r2, r3⟩ := run_appC (P := Tryz.prog) _ (w.heap.size + 4) 23 ty 31 i0 _ 5 64 Tryz.underlying23 hi0 hz0 hz1 hz2 rfl (by decide) v10 B.length (cellsBd B) (q10.alloc _) (.slice (some ⟨W3.heap.size, 0, none⟩) 1 1) 1 [.string (bs bn), .string (bs bf), .string (bs bt), .int .i64 mn, .int .i64 mx] ⟨_, 1, rfl, .inr ⟨W3.heap.size, 0, rfl, (Array.getElem?_eq_some_iff.1 na).1, fun j u hu => by
      rw [Addr.add_lit, Nat.zero_add]
      exact cell_at na (by simpa using hu)⟩⟩ rfl (fun u hu => by simp at hu; rcases hu with rfl | rfl | rfl | rfl | rfl <;> rfl) (by unfold maxLen; omega) (by omega) (Nat.le_trans hsz hBa.size)
    obtain ⟨u0, u1, u2, u3, u4⟩ := p0.grown r3 (fun g e => (q10.lt g e).1)
    have e5 : cellsBd (B ++ [⟨bn, bf, bt, mn, mx⟩]) = cellsBd B ++ [.string (bs bn), .string (bs bf), .string (bs bt), .int .i64 mn, .int .i64 mx] := by simp [cellsBd, Bd.cells]
    have r2' : w'.ownsRow (w.heap.size + 4) 31 5 v' (B ++ [(⟨bn, bf, bt, mn, mx⟩ : Bd)]).length (cellsBd (B ++ [⟨bn, bf, bt, mn, mx⟩])) := by rw [e5, List.length_append]; exact r2
    have hshape : ∃ a c, v' = .slice a (B.length + 1) c := own_slice r2
    refine ⟨v', w', r1, hshape, ⟨cell_at u4 rfl, frz_at u4⟩, fun Z hZ => ?_⟩
    have z3 : Z.heap[w.heap.size + 3]? = some (.cells #[.slice a1 L.length c1, v'] 25 (0, 0)) := by rw [hZ]; exact (heap_setCell_same w' _ 1 _ 25 _ u4)
    have z2 : Z.heap[w.heap.size + 2]? = some (.cells #[.slice none 0 0, .slice none 0 0] 25 (0, 0)) := by rw [hZ]; exact (heap_setCell_other w' ⟨w.heap.size + 3, 1, none⟩ (w.heap.size + 2) v' (by show w.heap.size + 2 ≠ w.heap.size + 3; omega)).trans u3
    have hE : EnS w w' (.slice a1 L.length c1) v' L (B ++ [⟨bn, bf, bt, mn, mx⟩]) := ⟨.inl HK.out.1, fun k hk => ⟨(HK.out.2.1 k hk).1, .inl (HK.out.2.1 k hk).2⟩, .inr (.inl r2'), u0⟩
    have hEZ : EnS w Z (.slice a1 L.length c1) v' L (B ++ [⟨bn, bf, bt, mn, mx⟩]) := by rw [hZ]; exact hE.set (by omega) (by omega) _ _
    have := rc_end hEZ rfl HK.out.2.2.1 (fun y hy => by
      rcases List.mem_append.1 hy with hy | hy
      · exact HK.out.2.2.2.2 y hy
      · simp only [List.mem_singleton] at hy; rw [hy]; exact HCZ.out.2.2.1) z2 z3
    rw [hX] at this
    exact ⟨⟨cell_at z3 rfl, cell_at z3 rfl⟩, this⟩
  clear hK hP hz hb hzb hc hcz hG hs n0 n1 n2 hB0 hB1 m3 h0 hW1 hs0
  go_enter Tryz.func5, Tryz.ntmps5
  go_upto_region 1 with fail
  rw [← hW0]
  clear hW0
  go_upto_region 2 with (refine wpList_store_new rfl 25 (.tmp 6) (.tmp 24) rfl _ _ rfl rfl info25s rfl rfl ?_)
  rw [← HW1.out, HS0.out]
  clear d0 d1 HW1 HS0
  go_upto_region 6 with (first | (go_at_call 14; refine ck.mono ?_; rintro e w' ⟨rfl, hw'⟩; obtain rfl := hw'.symm) | (go_at_call 15; refine cb.mono ?_; rintro e w' ⟨rfl, hw'⟩; obtain rfl := hw'.symm))
  go_upto_region 7 with (refine wpList_append_E rfl (.tmp 35) (.tmp 37) 22 rfl (.slice none 0 0) (.slice a1 L.length c1) (by first | rfl | simp [Act.eval, Act.put]) (by first | rfl | simp [Act.eval, Act.put]) (P1.out _) ?_; rintro v9 W2 ⟨h02, h9⟩)
  have f1 : W2.cell? ⟨w.heap.size, 1, none⟩ = some (.slice a2 B.length c2) := cell_at h02.2.1 rfl
  have P2' := Lib.hid (P2.out W2 v9 h02 h9)
  clear e0 e1 e2 P1 P2 h02 h9 ck cb
  go_upto_region 8 with (refine wpList_append_E rfl (.tmp 39) (.tmp 41) 23 rfl (.slice none 0 0) (.slice a2 B.length c2) (by first | rfl | simp [Act.eval, Act.put]) (by first | rfl | simp [Act.eval, Act.put]) (P2'.out _) ?_; rintro v10 W3 h3)
  clear f1 P2'
  have HA' := Lib.hid (HA.out v9 v10 W3 h3)
  obtain ⟨q0, q1, q2, q3, q4, q9, q10⟩ := h3
  obtain ⟨a10, c10, rfl⟩ := own_slice q10
  obtain ⟨a9, c9, rfl⟩ := own_slice q9
  have k0 : W3.cell? ⟨w.heap.size + 1, 0, none⟩ = some (.int .i64 5) := cell_at q2 rfl
  have k5 : W3.cell? ⟨w.heap.size + 1, 5, none⟩ = some (.string (bs bn)) := cell_at q2 rfl
  have k6 : W3.cell? ⟨w.heap.size + 1, 6, none⟩ = some (.string (bs bf)) := cell_at q2 rfl
  have k7 : W3.cell? ⟨w.heap.size + 1, 7, none⟩ = some (.string (bs bt)) := cell_at q2 rfl
  have k8 : W3.cell? ⟨w.heap.size + 1, 8, none⟩ = some (.int .i64 mn) := cell_at q2 rfl
  have k9 : W3.cell? ⟨w.heap.size + 1, 9, none⟩ = some (.int .i64 mx) := cell_at q2 rfl
  clear q0 q1 q2 q3 q4 q9 q10 HA hX HK HCC HCZ HG HS
  go_upto_region 73 with (refine wpList_append_E rfl (.tmp 227) (.tmp 230) 23 rfl (.slice a10 B.length c10) (.slice (some ⟨W3.heap.size, 0, none⟩) 1 1) (by first | rfl | simp [Act.eval, Act.put]) (by first | rfl | simp [Act.eval, Act.put]) (HA'.out _) ?_; rintro v1 w1 ⟨⟨a', c', rfl⟩, ⟨z0, z1⟩, z2⟩; have HZ := Lib.hid z2; clear z2)
  obtain ⟨⟨y0, y1⟩, cR⟩ := HZ.out _ rfl
  clear HZ HA'
  go_upto_region 74 with (go_at_call 4; refine cR.mono ?_; rintro e X ⟨rfl, hE⟩)
  have HE := Lib.hid hE
  clear hE cR y0 y1 z0 z1 k0 k5 k6 k7 k8 k9
  by_cases hx : x = 0
  · obtain ⟨t0, t1, hR⟩ := HE.out.2.2 hx _ rfl
    obtain ⟨y0, y1, y2⟩ := HE.out.1
    have g0 := cell_at (i := 0) y2 rfl
    have g1 := cell_at (i := 1) y2 rfl
    have g2 := frz_at (i := 0) y2
    have g3 := frz_at (i := 1) y2
    have HR := Lib.hid hR
    have HT : Hid (_ ∧ _) := ⟨t0, t1⟩
    clear y2 hR t0 t1 HE
    subst hx
    go_wp2
    obtain ⟨t0, t1⟩ := HT.out
    refine bodyPost_ret (v := .tuple #[.agg #[.slice a1 L.length c1, .slice a' (B.length + 1) c'], .int .i64 0]) ?_ rfl ?_
    · simp [results, Tryz.results5, go_sem, t0, t1]
    · exact HR.out
  · obtain ⟨t0, t1, hR⟩ := HE.out.2.1 hx _ rfl
    obtain ⟨y0, y1, y2⟩ := HE.out.1
    have g0 := cell_at (i := 0) y2 rfl
    have g1 := cell_at (i := 1) y2 rfl
    have g2 := frz_at (i := 0) y2
    have g3 := frz_at (i := 1) y2
    have HR := Lib.hid hR
    have HT : Hid (_ ∧ _) := ⟨t0, t1⟩
    clear y2 hR t0 t1 HE
    go_wp2
    obtain ⟨t0, t1⟩ := HT.out
    refine bodyPost_ret (v := .tuple #[.agg #[.slice none 0 0, .slice none 0 0], .int .i64 x]) ?_ rfl ?_
    · simp [results, Tryz.results5, go_sem, t0, t1]
    · exact HR.out
end Go.Proofs.YtkmkhadacppdnaaGreatDoor
