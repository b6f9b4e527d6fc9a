/-
  Changes one by one, in plain words; and how a list of them lies in memory.
-/
import Derived.Test.YtkmkhadacppdnaaDoorChQ
import Derived.Deep.MidRow
import Derived.Deep.WholeRow
namespace Go.Proofs.YtkmkhadacppdnaaDoor
open Go.RowKit
set_option linter.unusedVariables false
set_option linter.unusedSimpArgs false

theorem nmAt_c (L : List Kd) (n : Nm) : nmAt (L.map Kd.cz) n = nmAt L n := by unfold nmAt; rw [idxK_c]
theorem fdsAt_c (L : List Kd) (n : Nm) : fdsAt (L.map Kd.cz) n = fdsAt L n := by
  unfold fdsAt
  rw [nmAt_c, List.getElem?_map]
  cases L[nmAt L n]? <;> rfl
theorem usK_c (L : List Kd) (n : Nm) : usK (L.map Kd.cz) n = usK L n := by
  unfold usK
  rw [List.any_map]
  rfl
theorem e4_c (L : List Kd) (n f : Nm) : e4 (L.map Kd.cz) n f = e4 L n f := by unfold e4; rw [idxK_c, fdsAt_c]
theorem cE_c (L : List Kd) (B : List Bd) (c : Ch) : cE (L.map Kd.cz) B c = cE L B c := by
  unfold cE e2 e3 e7
  rw [idxK_c, usK_c, fdsAt_c, e4_c]
theorem map_eraseIdx {α β : Type} (f : α → β) : ∀ (l : List α) (i : Nat), (l.eraseIdx i).map f = (l.map f).eraseIdx i
  | [], _ => rfl
  | a :: r, 0 => rfl
  | a :: r, i + 1 => by
    show f a :: (r.eraseIdx i).map f = f a :: (r.map f).eraseIdx i
    rw [map_eraseIdx f r i]
theorem setFs_c (L : List Kd) (n : Nm) (g : List Fd) : (setFs (L.map Kd.cz) n g).map kq3 = (setFs L n g).map kq3 := by
  unfold setFs
  rw [nmAt_c, List.getElem?_map]
  cases h : L[nmAt L n]? with
  | none =>
    show (L.map Kd.cz).map kq3 = L.map kq3
    rw [List.map_map]; rfl
  | some k =>
    show ((L.map Kd.cz).set (nmAt L n) _).map kq3 = (L.set (nmAt L n) _).map kq3
    rw [List.map_set, List.map_set, List.map_map]
    rfl
theorem cK_c (L : List Kd) (c : Ch) : (cK (L.map Kd.cz) c).map kq3 = (cK L c).map kq3 := by
  have e0 : (L.map Kd.cz).map kq3 = L.map kq3 := by rw [List.map_map]; rfl
  unfold cK
  rw [nmAt_c, fdsAt_c]
  split
  · rw [List.map_append, List.map_append, e0]
  · split
    · rw [map_eraseIdx, map_eraseIdx, e0]
    · split
      · exact setFs_c L _ _
      · split
        · exact setFs_c L _ _
        · split
          · exact setFs_c L _ _
          · exact e0
theorem cE_kq {L M : List Kd} (h : M.map kq3 = L.map kq3) (B : List Bd) (c : Ch) : cE M B c = cE L B c := by rw [← cE_c M, ← cE_c L, cz_kq h]
theorem cK_kq {L M : List Kd} (h : M.map kq3 = L.map kq3) (c : Ch) : (cK M c).map kq3 = (cK L c).map kq3 := by rw [← cK_c M, ← cK_c L, cz_kq h]
theorem apE_kq {L M : List Kd} (h : M.map kq3 = L.map kq3) (B : List Bd) (c : Ch) : apE M B c = apE L B c := by
  unfold apE
  rw [cE_kq h, sErr_kq (cK_kq h c)]

/-- Changes one by one: the fault, where it is, what came. -/
def goC : List Ch → Nat → List Kd → List Bd → Int × Nat × List Kd × List Bd
  | [], _, L, B => (0, 0, L, B)
  | c :: r, k, L, B => if apE L B c = 0 then goC r (k + 1) (cK L c) (cB B c) else (apE L B c, k, [], [])
/-- All changes of any schema. -/
def allA (L : List Kd) (B : List Bd) (l : List Ch) : Int × Nat × List Kd × List Bd := if 40 < l.length then (4, 0, [], []) else if (sErr L B).2 = 0 then goC l 0 L B else ((sErr L B).2, 0, [], [])
theorem goC_step {l : List Ch} {k : Nat} {c : Ch} {L : List Kd} {B : List Bd} (hc : l[k]? = some c) (h : apE L B c = 0) : goC (l.drop k) k L B = goC (l.drop (k + 1)) (k + 1) (cK L c) (cB B c) := by
  rw [dropK hc]
  conv => lhs; unfold goC
  rw [if_pos h]
theorem goC_stop {l : List Ch} {k : Nat} {c : Ch} {L : List Kd} {B : List Bd} (hc : l[k]? = some c) (h : ¬ apE L B c = 0) : goC (l.drop k) k L B = (apE L B c, k, [], []) := by
  rw [dropK hc]
  conv => lhs; unfold goC
  rw [if_neg h]
theorem goC_end {l : List Ch} {k : Nat} {L : List Kd} {B : List Bd} (h : l.length ≤ k) : goC (l.drop k) k L B = (0, 0, L, B) := by rw [List.drop_eq_nil_of_le h]; rfl
theorem apE_right {L : List Kd} {B : List Bd} {c : Ch} (h : apE L B c = 0) : (sErr (cK L c) (cB B c)).2 = 0 := by
  unfold apE at h
  split at h
  · exact h
  · rename_i hn; exact absurd h hn

/-- Changes lie there. -/
def LiesC (w : World) (b off : Nat) (l : List Ch) : Prop := ∀ k c, l[k]? = some c → w.rangeAt b (off + k * 18) c.cells ∧ ChIs w c
/-- The value is this list of changes. -/
def IsC (w : World) (v : Value) (l : List Ch) : Prop := ∃ ao cp, v = .slice ao l.length cp ∧ l.length ≤ maxLen ∧ (l = [] ∨ ∃ b off, ao = some ⟨b, off, none⟩ ∧ b < w.heap.size ∧ LiesC w b off l)
theorem LiesC.on {w w' : World} {b off : Nat} {l : List Ch} (h : LiesC w b off l) (hb : b < w.heap.size) (hB : Below w.heap.size w w') : LiesC w' b off l := fun k c hk =>
  ⟨fun j v hj => (hB.cell (p := ⟨b, off + k * 18 + j, none⟩) hb).trans ((h k c hk).1 j v hj), (h k c hk).2.on hB⟩
/-- A whole struct, stored into the block that was made last. -/
theorem wpList_store_new {P : Program} {ops : Array Oper} {rest : List Oper} {o : Oper} {a : Act} {w : World} {Q : Exit → Act → World → Prop} (hgd : o.guard = none) (ty : TypeId) (x y : Operand) (ho : o.op = .store ty x y) (old cells : Array Value)
    (hx : a.eval x = .pointer (some ⟨w.heap.size, 0, none⟩)) (hy : a.eval y = .agg cells) (hi : (P.info? ty).map (·.size) = some cells.size) (hs : old.size = cells.size) (h1 : cells.all (·.oneCell') = true)
    (h : wpList P ops Q rest (a.put o.dst undef) (w.alloc (.cells cells ty))) : wpList P ops Q (o :: rest) a (w.alloc (.cells old ty)) := by
  refine wpList_plain hgd fun K hK => ?_
  unfold Oper.wp execOp
  simp only [ho, hx, hy, Instr.storeAt, Instr.sureAddr, Sem.run_bind, Sem.run_pure, Result.andThen_ok, run_storeVar_new (P := P) w ty old cells hi hs h1]
  exact hK _ _ h
/-- What All leaves. -/
def AllP (w : World) (r : Int × Nat × List Kd × List Bd) (e : Ending) (w' : World) : Prop :=
  ∃ uk ub M, e = .returned (.tuple #[.agg #[uk, ub], .int .i64 r.2.1, errV r.1]) ∧ M.map kq3 = r.2.2.1.map kq3 ∧ OwnKs w' w.heap.size uk M ∧ OwnBs w' w.heap.size ub r.2.2.2 ∧ Below w.heap.size w w'
theorem allP_nil {w w' : World} {x : Int} {k : Nat} {e : Ending} (he : e = .returned (.tuple #[.agg #[.slice none 0 0, .slice none 0 0], .int .i64 k, errV x])) (hB : Below w.heap.size w w') : AllP w (x, k, [], []) e w' :=
  ⟨_, _, [], he, rfl, ⟨World.ownsRow_nil _ _ _ _, fun k hk => by cases hk⟩, World.ownsRow_nil _ _ _ _, hB⟩
/-- What stands between two rounds of All. -/
def AlI (W1 : World) (base p : Nat) (L : List Kd) (B : List Bd) (l : List Ch) (k : Nat) (wr : World) : Prop :=
  ∃ Lk Bk M, goC l 0 L B = goC (l.drop k) k Lk Bk ∧ (sErr Lk Bk).2 = 0 ∧ M.map kq3 = Lk.map kq3 ∧ OSc wr base p M Bk ∧ Below base W1 wr
set_option maxHeartbeats 4000000 in
set_option maxRecDepth 100000 in
theorem all_many {w : World} {vk vb vl : Value} {L : List Kd} {B : List Bd} {l : List Ch} (hK : IsK w vk L) (hb : IsB w vb B) (hl : IsC w vl l) (h40 : 40 < l.length) :
    Calls Tryd.prog 7 #[.agg #[vk, vb], vl] w (AllP w (4, 0, [], [])) := by
  obtain ⟨ao, cp, rfl, hm, _⟩ := hl
  obtain ⟨a1, c1, rfl, _⟩ := hK.sln
  obtain ⟨a2, c2, rfl, _⟩ := hb.sln
  have h41 : (40 : Int) < (l.length : Int) := by omega
  have hB0 : Below w.heap.size w ((w.alloc (.cells #[.slice a1 L.length c1, .slice a2 B.length c2] 25)).alloc (.cells #[.slice none 0 0, .slice none 0 0] 25)) := b_alloc (b_alloc (Below.refl _ _) _) _
  unfold maxLen at hm
  clear hK hb
  go_enter Tryd.func7, Tryd.ntmps7
  go_wp2
  refine bodyPost_ret (v := .tuple #[.agg #[.slice none 0 0, .slice none 0 0], .int .i64 0, .iface 48 (.int .i64 4)]) ?_ rfl (allP_nil rfl ?_)
  · simp [results, Tryd.results7, go_sem]
  · first | exact hB0 | exact (hB0.setCell (by simp) _).setCell (by simp) _
end Go.Proofs.YtkmkhadacppdnaaDoor
