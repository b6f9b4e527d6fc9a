/-
  A list of faults of the call's own, and another one behind it.
-/
import Derived.Test.YtjjnfnlkfojehaaKeep
import Derived.Laws.OwnMore
namespace Go.Proofs.Ytjjnfnlkfojehaa
open Go.RowKit
set_option linter.unusedVariables false
set_option linter.unusedSimpArgs false

theorem cellsX_one (l : List Ft) : ∀ u ∈ cellsX l, u.oneCell' = true := by
  intro u hu
  obtain ⟨f, _, hf⟩ := List.mem_flatMap.1 hu
  exact ft_one f u hf
theorem run_appX {w : World} {base base2 : Nat} {u1 u2 : Value} {l1 l2 : List Ft} (h1 : OwnX w base u1 l1) (h2 : OwnX w base2 u2 l2) (hl : l1.length + l2.length ≤ 100000) (hb : base ≤ w.heap.size) (ty : TypeId) :
    ∃ v' w', (Builtin.append_ #[34, 34] ty #[u1, u2]).run Try.prog w = .ok v' w' ∧ OwnX w' base v' (l1 ++ l2) ∧ w.grownBy w' u1.ownBlock := by
  obtain ⟨i0, hi0, hz0, hz1, hz2⟩ := info_parts infoX
  rcases h2.2 with ⟨rfl, hn⟩ | ⟨g, cap, cur, rfl, hbb, hg, rest⟩
  · have e : l2 = [] := List.eq_nil_of_length_eq_zero hn
    subst e
    refine ⟨u1, w, run_append_owned_none w base 34 ty 40 i0 3 Try.underlying34 hi0 u1 _ _ h1, by rw [List.append_nil]; exact h1, ⟨rfl, rfl, rfl, Nat.le_refl _, fun _ _ _ => rfl⟩⟩
  · obtain ⟨v', w', r1, r2, r3, _⟩ := run_append_own (P := Try.prog) w base 34 ty 40 i0 _ 3 32 Try.underlying34 hi0 hz0 hz1 hz2 rfl (by decide) u1 l1.length (cellsX l1) h1 ⟨g, 0, none⟩ l2.length cap (cellsX l2) (cellsX_len l2) (h2.cells rfl) (cellsX_one l2) (by unfold maxLen; omega) (by omega) hb
    exact ⟨v', w', r1, by unfold OwnX; rw [cellsX_app, List.length_append]; exact r2, r3⟩
theorem wp_appX {w : World} {o : Oper} {a : Act} {K : Act → World → Prop} {Q : Exit → Act → World → Prop} (s x : Operand) (ho : o.op = .call { callee := .builtin .append, args := #[s, x], argTypes := #[34, 34] })
    {base base2 : Nat} {u1 u2 : Value} {l1 l2 : List Ft} (hs : a.eval s = u1) (hx : a.eval x = u2) (h1 : OwnX w base u1 l1) (h2 : OwnX w base2 u2 l2) (hl : l1.length + l2.length ≤ 100000) (hb : base ≤ w.heap.size)
    (hK : ∀ v' w', OwnX w' base v' (l1 ++ l2) → w.grownBy w' u1.ownBlock → K (a.put o.dst v') w') : o.wp Try.prog a w K Q := by
  obtain ⟨v', w', hr, r2, r3⟩ := run_appX h1 h2 hl hb o.type
  unfold Oper.wp execOp
  simp only [ho, resolve, invoke, builtin, Sem.run_bind, Sem.run_pure, Result.andThen_ok, List.map_toArray, List.map_cons, List.map_nil, hs, hx, hr]
  exact hK v' w' r2 r3
theorem wpList_appX {w : World} {ops : Array Oper} {rest : List Oper} {o : Oper} {a : Act} {Q : Exit → Act → World → Prop} (hg : o.guard = none) (s x : Operand) (ho : o.op = .call { callee := .builtin .append, args := #[s, x], argTypes := #[34, 34] })
    {base base2 : Nat} {u1 u2 : Value} {l1 l2 : List Ft} (hs : a.eval s = u1) (hx : a.eval x = u2) (h1 : OwnX w base u1 l1) (h2 : OwnX w base2 u2 l2) (hl : l1.length + l2.length ≤ 100000) (hb : base ≤ w.heap.size)
    (hK : ∀ v' w', OwnX w' base v' (l1 ++ l2) → w.grownBy w' u1.ownBlock → wpList Try.prog ops Q rest (a.put o.dst v') w') : wpList Try.prog ops Q (o :: rest) a w := by
  refine wpList_plain hg fun K hK' => ?_
  exact wp_appX s x ho hs hx h1 h2 hl hb (fun v' w' r1 r2 => hK' _ _ (hK v' w' r1 r2))
theorem step_appX {w : World} {ops : Array Oper} {o : Oper} {a : Act} {K : Act → World → Prop} {Q : Exit → Act → World → Prop} {E : Prop} (hg : o.guard = none) (s x : Operand) (ho : o.op = .call { callee := .builtin .append, args := #[s, x], argTypes := #[34, 34] })
    {base base2 : Nat} {u1 u2 : Value} {l1 l2 : List Ft} (hs : a.eval s = u1) (hx : a.eval x = u2) (h1 : OwnX w base u1 l1) (h2 : OwnX w base2 u2 l2) (hl : l1.length + l2.length ≤ 100000) (hb : base ≤ w.heap.size)
    (hK : ∀ v' w', OwnX w' base v' (l1 ++ l2) → w.grownBy w' u1.ownBlock → K (a.put o.dst v') w') :
    if Region.wanted o (yielded ops a.tmps) = true then Oper.wp Try.prog o a w K Q else E := by
  have hw : Region.wanted o (yielded ops a.tmps) = true := by simp [Region.wanted, hg]
  rw [if_pos hw]
  exact wp_appX s x ho hs hx h1 h2 hl hb hK
/-- A list of one. -/
theorem own_one (w : World) {base : Nat} (hb : base ≤ w.heap.size) (f : Ft) : OwnX (w.alloc (.cells #[.int .i64 f.wh, .int .i64 f.id, .string f.nm] 40)) base (.slice (some ⟨w.heap.size, 0, none⟩) 1 1) [f] := by
  have := World.ownsRow_lit (e := 40) (size := 3) (base := base) w #[.int .i64 f.wh, .int .i64 f.id, .string f.nm] 1 hb (by unfold maxLen; omega) rfl
  simpa [cellsX, Ft.cells, OwnX] using this
theorem own_but {w w' : World} {base : Nat} {u : Value} {l : List Ft} {bt : Nat} (h : OwnX w base u l) (hg : w.grownBy w' (some bt)) (hb : bt < base) : OwnX w' base u l := by
  refine World.ownsRow.kept h hg ?_
  cases hu : u.ownBlock with
  | none => exact .inl rfl
  | some g =>
    right
    intro e
    have := (World.ownsRow.lt h g hu).1
    have : g = bt := by simpa using e
    omega
end Go.Proofs.Ytjjnfnlkfojehaa
