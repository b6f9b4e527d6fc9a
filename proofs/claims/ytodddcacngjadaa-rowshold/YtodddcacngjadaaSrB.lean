/-
  Lists of records that a call made; the walks of copied and Sort.
-/
import Derived.Test.YtodddcacngjadaaSrA
import Derived.Test.YtodddcacngjadaaRsD
namespace Go.Proofs.Ytodddcacngjadaa
open Go.RowKit
set_option linter.unusedVariables false
set_option linter.unusedSimpArgs false

theorem infoP : (Try.prog.info? 26).map (fun i => (i.zero, i.size, i.bytes)) = some (some (.agg #[.string ⟨#[]⟩, .int .i64 0, .int .i64 0, .string ⟨#[]⟩]), 4, 48) := by kernel_rfl
theorem own_isR {w : World} {base : Nat} {v : Value} {M : List Pr} (h : w.ownsRow base 26 4 v M.length (cellsOf M)) : IsR w v M := by
  have hc : ∀ g, v.ownBlock = some g → ∀ j u, (cellsOf M)[j]? = some u → w.cell? ((⟨g, 0, none⟩ : Addr).add j) = some u := fun g hg => h.cells hg
  rcases h.2 with ⟨rfl, h0⟩ | ⟨g, cap, cur, rfl, hb, hg, hle, hcm, hcs, ht⟩
  · exact ⟨none, 0, by rw [h0], .inl (List.eq_nil_of_length_eq_zero h0)⟩
  · refine ⟨_, cap, rfl, .inr ⟨g, 0, rfl, (Array.getElem?_eq_some_iff.1 hg).1, fun k p hp => ?_⟩⟩
    obtain ⟨a0, a1, a2, a3⟩ := cellsOf_at hp
    have d0 := hc g rfl _ _ a0
    have d1 := hc g rfl _ _ a1
    have d2 := hc g rfl _ _ a2
    have d3 := hc g rfl _ _ a3
    rw [Addr.add_lit] at d0 d1 d2 d3
    exact ⟨d0, by rw [Nat.add_assoc]; exact d1, by rw [Nat.add_assoc]; exact d2, by rw [Nat.add_assoc]; exact d3⟩
theorem run_append_nothing {P : Program} {w : World} (t ty e : TypeId) (i : TypeInfo) (c : Nat) (ht : P.underlying t = some (.slice e)) (hi : P.info? e = some i) :
    (Builtin.append_ #[t, t] ty #[.slice none 0 0, .slice none 0 c]).run P w = .ok (.slice none 0 0) w := by
  simp [Builtin.append_, run_underlying ht, sizeOf, typeInfo, hi, Builtin.lenOf, Builtin.firstCells]
theorem wpList_append_nothing {P : Program} {w : World} {ops : Array Oper} {rest : List Oper} {o : Oper} {a : Act} {Q : Exit → Act → World → Prop} (hgd : o.guard = none) (s x : Operand) (t : TypeId)
    (ho : o.op = .call { callee := .builtin .append, args := #[s, x], argTypes := #[t, t] }) (e : TypeId) (i : TypeInfo) (c : Nat) (ht : P.underlying t = some (.slice e)) (hi : P.info? e = some i) (hs : a.eval s = .slice none 0 0) (hx : a.eval x = .slice none 0 c)
    (h : wpList P ops Q rest (a.put o.dst (.slice none 0 0)) w) : wpList P ops Q (o :: rest) a w := by
  refine wpList_plain hgd fun K hK => ?_
  have hrun := run_append_nothing (P := P) (w := w) t o.type e i c ht hi
  unfold Oper.wp
  simp [execOp, ho, resolve, invoke, builtin, hs, hx, hrun, Result.andThen]
  exact hK _ _ h
set_option maxHeartbeats 1000000 in
/-- A record with memory of its own. -/
theorem copied_any {v : Value} {rc : List Pr} {w : World} (h : IsR w v rc) (hl : rc.length ≤ 8) :
    Calls Try.prog 14 #[v] w fun e w' => ∃ u, e = .returned u ∧ w'.ownsRow w.heap.size 26 4 u rc.length (cellsOf rc) ∧ Below w.heap.size w w' := by
  obtain ⟨i0, hi0, hz0, hz1, hz2⟩ := info_parts infoP
  obtain ⟨ao, c, rfl, h0 | ⟨b, off, rfl, hb, hL⟩⟩ := h
  · subst h0
    cases ao with
    | none =>
      go_enter Try.func14, Try.ntmps14
      go_wp2_with (at_builtin; refine wpList_append_nothing rfl _ _ 28 rfl 26 i0 c Try.underlying28 hi0 rfl rfl ?_)
      go_ret
      exact ⟨_, rfl, World.ownsRow_nil _ _ _ _, Below.refl _ _⟩
    | some ad =>
      go_enter Try.func14, Try.ntmps14
      go_wp2_with (at_builtin; refine wpList_append_own _ rfl _ _ 28 rfl w.heap.size 26 i0 _ 4 48 Try.underlying28 hi0 hz0 hz1 hz2 rfl (by decide) (.slice none 0 0) 0 [] rfl (World.ownsRow_nil _ _ _ _) ad 0 c [] rfl rfl (fun j u hu => by simp at hu) (fun u hu => by simp at hu) (by decide) (by decide) (Nat.le_refl _) ?_; intro v1 w1 hown hgrow _)
      go_ret
      exact ⟨_, rfl, hown, below_grown (Below.refl _ _) hgrow (Nat.le_refl _) (fun k hk => by simp [Value.ownBlock] at hk)⟩
  · have HM : Hid (0 + rc.length ≤ maxLen ∧ (0 + rc.length) * 48 ≤ 140737488355328) := ⟨by unfold maxLen; omega, by omega⟩
    have hcl := lies_cells (fun k p hp => hL k p hp)
    have HC := Lib.hid hcl
    clear hcl hL
    go_enter Try.func14, Try.ntmps14
    go_wp2_with (at_builtin; refine wpList_append_own _ rfl _ _ 28 rfl w.heap.size 26 i0 _ 4 48 Try.underlying28 hi0 hz0 hz1 hz2 rfl (by decide) (.slice none 0 0) 0 [] rfl (World.ownsRow_nil _ _ _ _) ⟨b, off, none⟩ rc.length c (cellsOf rc) rfl (cellsOf_len rc) HC.out (cellsOf_one rc) HM.out.1 HM.out.2 (Nat.le_refl _) ?_; intro v1 w1 hown hgrow _)
    go_ret
    rw [Nat.zero_add, List.nil_append] at hown
    exact ⟨_, rfl, hown, below_grown (Below.refl _ _) hgrow (Nat.le_refl _) (fun k hk => by simp [Value.ownBlock] at hk)⟩
/-- Records of the call's own, in a row of its own. -/
def OwnRs (w : World) (base : Nat) (v : Value) (M : List (List Pr)) : Prop := ∃ C : List Value, C.length = M.length ∧ w.ownsRow base 28 1 v M.length C ∧ ∀ (j : Nat) u rc, C[j]? = some u → M[j]? = some rc → w.ownsRow base 26 4 u rc.length (cellsOf rc)
theorem ownRs_nil (w : World) (base : Nat) : OwnRs w base (.slice none 0 0) [] := ⟨[], rfl, World.ownsRow_nil _ _ _ _, fun j u rc h => by simp at h⟩
theorem OwnRs.on {w w' : World} {base : Nat} {v : Value} {M : List (List Pr)} (h : OwnRs w base v M) (hB : Below w.heap.size w w') : OwnRs w' base v M := by
  obtain ⟨C, hl, ho, hC⟩ := h
  exact ⟨C, hl, own_kt ho (Kt.of_below hB), fun j u rc h1 h2 => own_kt (hC j u rc h1 h2) (Kt.of_below hB)⟩
theorem OwnRs.isRs {w : World} {base : Nat} {v : Value} {M : List (List Pr)} (h : OwnRs w base v M) : ∃ L : List Rv, L.map Rv.rc = M ∧ IsRs w v L := by
  obtain ⟨C, hl, ho, hC⟩ := h
  have hz : (List.zipWith Rv.mk C M).length = M.length := by simp [hl]
  refine ⟨List.zipWith Rv.mk C M, ?_, ?_⟩
  · rw [List.map_zipWith]
    show List.zipWith (fun _ y => y) C M = M
    apply List.ext_getElem?
    intro j
    rw [List.getElem?_zipWith]
    cases hm : M[j]? with
    | none => cases C[j]? <;> rfl
    | some rc =>
      have hj : j < C.length := by rw [hl]; exact (List.getElem?_eq_some_iff.1 hm).1
      rw [List.getElem?_eq_getElem hj]
  · have hc : ∀ g, v.ownBlock = some g → ∀ j u, C[j]? = some u → w.cell? ((⟨g, 0, none⟩ : Addr).add j) = some u := fun g hg => ho.cells hg
    rcases ho.2 with ⟨rfl, h0⟩ | ⟨g, cap, cur, rfl, hb, hg, hle, hcm, hcs, ht⟩
    · exact ⟨none, 0, by rw [hz, h0], .inl (List.eq_nil_of_length_eq_zero (by rw [hz, h0]))⟩
    · refine ⟨_, cap, by rw [hz], .inr ⟨g, 0, rfl, (Array.getElem?_eq_some_iff.1 hg).1, fun j x hx => ?_⟩⟩
      rw [List.getElem?_zipWith] at hx
      cases hcj : C[j]? with
      | none => rw [hcj] at hx; simp at hx
      | some u =>
        cases hmj : M[j]? with
        | none => rw [hcj, hmj] at hx; simp at hx
        | some rc =>
          rw [hcj, hmj] at hx
          obtain rfl : Rv.mk u rc = x := by simpa using hx
          have d0 := hc g rfl j u hcj
          rw [Addr.add_lit] at d0
          exact ⟨d0, own_isR (hC j u rc hcj hmj)⟩
theorem OwnRs.sl {w : World} {base : Nat} {v : Value} {M : List (List Pr)} (h : OwnRs w base v M) : ∃ ao cp, v = .slice ao M.length cp := by
  obtain ⟨C, hl, ho, hC⟩ := h
  exact own_slice ho
/-- One record more. -/
theorem ownRs_step {wr W1 w1 : World} {base : Nat} {v u v1 : Value} {M : List (List Pr)} {C : List Value} {rc : List Pr} (hl : C.length = M.length) (ho : wr.ownsRow base 28 1 v M.length C) (hC : ∀ (j : Nat) u rc, C[j]? = some u → M[j]? = some rc → wr.ownsRow base 26 4 u rc.length (cellsOf rc)) (hbs : base ≤ wr.heap.size)
    (hB1 : Below wr.heap.size wr W1) (hu : W1.ownsRow wr.heap.size 26 4 u rc.length (cellsOf rc)) (o : Obj) (hown : w1.ownsRow base 28 1 v1 (M.length + 1) (C ++ [u])) (hg : (W1.alloc o).grownBy w1 v.ownBlock) : OwnRs w1 base v1 (M ++ [rc]) := by
  have hk : (W1.alloc o).ownsRow base 28 1 v M.length C := (own_kt ho (Kt.of_below hB1)).alloc _
  have hkt : Kt 26 (W1.alloc o) w1 := Kt.of_own hk (by decide) hg
  refine ⟨C ++ [u], by simp [hl], by rw [List.length_append]; exact hown, fun j u' rc' hu' hrc' => ?_⟩
  by_cases hj : j < M.length
  · rw [List.getElem?_append_left (by omega)] at hu' hrc'
    exact own_kt ((own_kt (hC j u' rc' hu' hrc') (Kt.of_below hB1)).alloc _) hkt
  · have hjl := (List.getElem?_eq_some_iff.1 hrc').1
    simp at hjl
    obtain rfl : j = M.length := by omega
    rw [List.getElem?_append_right (by omega), hl, Nat.sub_self] at hu'
    rw [List.getElem?_append_right (by omega), Nat.sub_self] at hrc'
    obtain rfl : u = u' := by simpa using hu'
    obtain rfl : rc = rc' := by simpa using hrc'
    exact own_kt ((own_base hu hbs).alloc _) hkt
end Go.Proofs.Ytodddcacngjadaa
