/-
  The walk of kind.kinOf.
-/
import Derived.Test.YtgjlonilbhlneaaDoorKinB
namespace Go.Proofs.YtgjlonilbhlneaaDoor
open Go.RowKit
set_option linter.unusedVariables false
set_option linter.unusedSimpArgs false

/-- What stands between two rounds. -/
def KR (w : World) (L : List Kd) (nm0 : Nm) (v3 v4 i : Value) (wr : World) : Prop :=
  ∃ (j : Nat) (ns : List Nm) (kk : List Kd), j ≤ L.length ∧ i = .int .i64 ((j : Int) - 1) ∧ ns.length + 4 * j ≤ 1 + 4 * L.length ∧ kk.length + j ≤ L.length ∧
    back L.reverse [nm0] = kk ++ back (L.take j).reverse ns ∧ (∀ k ∈ kk, k ∈ L) ∧ wr.ownsRow w.heap.size 9 1 v3 ns.length (cellsS ns) ∧ wr.ownsRow w.heap.size 33 3 v4 kk.length (cellsK kk) ∧ Below w.heap.size w wr
theorem take_rev {L : List Kd} {k : Nat} {p : Kd} (h : L[k]? = some p) : (L.take (k + 1)).reverse = p :: (L.take k).reverse := by rw [takeK h]; simp
theorem kr_no {w wr : World} {L : List Kd} {nm0 : Nm} {k : Nat} {p : Kd} {ns : List Nm} {kk : List Kd} {v3 v4 i : Value} (hp : L[k]? = some p) (hn : hasN ns p.nm = false) (hi : i = .int .i64 ((k : Int) - 1))
    (h1 : ns.length + 4 * (k + 1) ≤ 1 + 4 * L.length) (h2 : kk.length + (k + 1) ≤ L.length) (h3 : back L.reverse [nm0] = kk ++ back (L.take (k + 1)).reverse ns) (h4 : ∀ k ∈ kk, k ∈ L)
    (ho3 : wr.ownsRow w.heap.size 9 1 v3 ns.length (cellsS ns)) (ho4 : wr.ownsRow w.heap.size 33 3 v4 kk.length (cellsK kk)) (hB : Below w.heap.size w wr) : KR w L nm0 v3 v4 i wr := by
  have hk := (List.getElem?_eq_some_iff.1 hp).1
  refine ⟨k, ns, kk, by omega, hi, by omega, by omega, ?_, h4, ho3, ho4, hB⟩
  rw [h3, take_rev hp]
  simp [back, hn]
theorem kr_yes {w wr : World} {L : List Kd} {nm0 : Nm} {k : Nat} {p : Kd} {ns : List Nm} {kk : List Kd} {v3 v4 i : Value} (hp : L[k]? = some p) (hn : hasN ns p.nm = true) (hi : i = .int .i64 ((k : Int) - 1))
    (h1 : ns.length + 4 * (k + 1) ≤ 1 + 4 * L.length) (h2 : kk.length + (k + 1) ≤ L.length) (h3 : back L.reverse [nm0] = kk ++ back (L.take (k + 1)).reverse ns) (h4 : ∀ k ∈ kk, k ∈ L) (h5 : p.of.length ≤ 4)
    (ho3 : wr.ownsRow w.heap.size 9 1 v3 (ns.length + p.of.length) (cellsS ns ++ cellsS p.of)) (ho4 : wr.ownsRow w.heap.size 33 3 v4 (kk.length + 1) (cellsK kk ++ p.cells)) (hB : Below w.heap.size w wr) : KR w L nm0 v3 v4 i wr := by
  have hk := (List.getElem?_eq_some_iff.1 hp).1
  refine ⟨k, ns ++ p.of, kk ++ [p], by omega, hi, by simp; omega, by simp; omega, ?_, ?_, ?_, ?_, hB⟩
  · rw [h3, take_rev hp]
    simp [back, hn]
  · intro x hx
    rcases List.mem_append.1 hx with hx | hx
    · exact h4 x hx
    · have : x = p := by simpa using hx
      subst this; exact List.mem_of_getElem? hp
  · rw [cellsS_app, List.length_append]; exact ho3
  · rw [cellsK_app, List.length_append]
    have : cellsK [p] = p.cells := by simp [cellsK]
    rw [this]; exact ho4
/-- append of a list of names, nil or not. -/
theorem app_names {w : World} {ops : Array Oper} {rest : List Oper} {o : Oper} {a : Act} {Q : Exit → Act → World → Prop} (hgd : o.guard = none) (s x : Operand)
    (ho : o.op = .call { callee := .builtin .append, args := #[s, x], argTypes := #[30, 30] }) (base : Nat)
    (v : Value) (ns l : List Nm) (hs : a.eval s = v) (hown : w.ownsRow base 9 1 v ns.length (cellsS ns)) (u : Value) (hx : a.eval x = u) (hl : IsS w u l) (h63 : ns.length + l.length ≤ 1000) (hbase : base ≤ w.heap.size)
    (h : ∀ v' w', w'.ownsRow base 9 1 v' (ns.length + l.length) (cellsS ns ++ cellsS l) → w.grownBy w' v.ownBlock → wpList Tryd.prog ops Q rest (a.put o.dst v') w') : wpList Tryd.prog ops Q (o :: rest) a w := by
  obtain ⟨i0, hi0, hz0, hz1, hz2⟩ := info_parts info9
  rcases hl with ⟨ao, c0, rfl, rfl, hc0, hcn⟩ | ⟨b, off, cap, rfl, hc, hm, hb, hl⟩
  · cases ao with
    | some ad =>
      refine wpList_append_own w hgd s x 30 ho base 9 i0 _ 1 16 Tryd.underlying30 hi0 hz0 hz1 hz2 rfl (by decide) v ns.length (cellsS ns) hs hown ad 0 c0 [] hx rfl (fun j u hu => by simp at hu) (fun u hu => by simp at hu) (by unfold maxLen; omega) (by omega) hbase (fun v' w' h1 h2 _ => h v' w' h1 h2)
    | none =>
      obtain rfl := hcn rfl
      refine wpList_append_own_none hgd s x 30 ho base 9 i0 1 Tryd.underlying30 hi0 v ns.length (cellsS ns) hs hown hx ?_
      exact h v w (by simpa [cellsS] using hown) ⟨rfl, rfl, rfl, Nat.le_refl _, fun _ _ _ => rfl⟩
  · refine wpList_append_own w hgd s x 30 ho base 9 i0 _ 1 16 Tryd.underlying30 hi0 hz0 hz1 hz2 rfl (by decide) v ns.length (cellsS ns) hs hown ⟨b, off, none⟩ l.length cap (cellsS l) hx (cellsS_len l) ?_ (cellsS_one l) (by unfold maxLen; omega) (by omega) hbase (fun v' w' h1 h2 _ => h v' w' h1 h2)
    intro j u hu
    rw [Addr.add_lit]
    unfold cellsS at hu
    rw [List.getElem?_map] at hu
    cases hn : l[j]? with
    | none => rw [hn] at hu; cases hu
    | some n =>
      rw [hn] at hu
      obtain rfl := Option.some.inj hu
      exact hl j n hn

set_option maxHeartbeats 4000000 in
set_option maxRecDepth 100000 in
theorem kinOf_some (b off cap : Nat) (L : List Kd) (z : Kd) (w : World) (hz : L.getLast? = some z) (hb : b < w.heap.size) (hL : LiesK w b off L) (hP : Parts w L) (hS : Small L) (hn : L.length ≤ 12) :
    Calls Tryd.prog 29 #[.slice (some ⟨b, off, none⟩) L.length cap] w fun e w' => ∃ v, e = .returned v ∧ w'.ownsRow w.heap.size 33 3 v (kinOf L).length (cellsK (kinOf L)) ∧ Below w.heap.size w w' := by
  obtain ⟨i0, hi0, hz0, hz1, hz2⟩ := info_parts info61
  have hl0 : 0 < L.length := by
    rcases Nat.eq_zero_or_pos L.length with h | h
    · rw [List.eq_nil_of_length_eq_zero h] at hz; simp at hz
    · exact h
  obtain ⟨m, hm⟩ : ∃ m, L.length = m + 1 := ⟨L.length - 1, by omega⟩
  have hzm : L[m]? = some z := by rw [List.getLast?_eq_getElem?, hm] at hz; simpa using hz
  obtain ⟨c0, c1, c2⟩ := hL m z hzm
  have hK : kinOf L = (back L.reverse [z.nm]).reverse := by unfold kinOf; rw [hz]
  have HH : Hid (LiesK w b off L ∧ Parts w L ∧ Small L ∧ L.length ≤ 12 ∧ L.length = m + 1 ∧ kinOf L = (back L.reverse [z.nm]).reverse) := ⟨hL, hP, hS, hn, hm, hK⟩
  have hm12 : m < 12 := by omega
  rw [hm]
  clear hz hL hP hS hn hzm hK hl0 hm c1 c2
  go_enter Tryd.func29, Tryd.ntmps29
  go_wp2
  go_loopw [3, 4, 5] (fun v3 v4 i wr => KR w L z.nm v3 v4 i wr) (fun _ _ i _ => (intOf i + 1).toNat)
  case atStart =>
    obtain ⟨hL, hP, hS, hn, hm, hK⟩ := HH.out
    refine ⟨m + 1, [z.nm], [], by omega, by simp, by simp; omega, by simp; omega, by rw [← hm, List.take_length]; rfl, by simp, ?_, World.ownsRow_nil _ _ _ _, b_alloc (Below.refl _ _) (Nat.le_refl _) _⟩
    exact own_lit #[.string (bs z.nm)] 1 rfl (by decide)
  case round =>
    obtain ⟨j, ns, kk, hj, rfl, h1, h2, h3, h4, ho3, ho4, hB⟩ := hrel
    cases j with
    | zero =>
      have HK : Hid (kinOf L = kk.reverse) := by
        show _ = _
        rw [HH.out.2.2.2.2.2, h3]; simp [back]
      have hone : OneK kk := fun k hk => HH.out.2.1.one k (h4 k hk)
      have cr := reverse_own ho4 hone (by have := HH.out.2.2.2.1; omega)
      have HB : Hid (Below w.heap.size w wr) := hB
      clear h1 h2 h3 h4 ho3 hj hone hB
      go_wp2_with (go_at_call 45; refine cr.mono ?_; rintro e w' ⟨rfl, hown, hbel⟩)
      go_ret
      refine ⟨_, rfl, ?_, hbel _ _ HB.out (Nat.le_refl _)⟩
      rw [HK.out]; simpa using hown
    | succ k =>
      obtain ⟨hL, hP, hS, hn, hm, hK⟩ := HH.out
      have hkl : k < L.length := by omega
      obtain ⟨p, hp⟩ : ∃ p, L[k]? = some p := ⟨L[k], by simp [hkl]⟩
      obtain ⟨d0, d1, d2⟩ := hL k p hp
      have e0 := (hB.cell (p := ⟨b, off + k * 3, none⟩) hb).trans d0
      have e1 := (hB.cell (p := ⟨b, off + k * 3 + 1, none⟩) hb).trans d1
      have e2 := (hB.cell (p := ⟨b, off + k * 3 + 2, none⟩) hb).trans d2
      have hpm : p ∈ L := List.mem_of_getElem? hp
      have cc := contains_any (own_isS ho3) (by omega) p.nm
      have ek : (((k + 1 : Nat) : Int) - 1) = (k : Int) := by omega
      have hk1 : k < m + 1 := by omega
      have HR : Hid (L[k]? = some p ∧ ns.length + 4 * (k + 1) ≤ 1 + 4 * L.length ∧ kk.length + (k + 1) ≤ L.length ∧ back L.reverse [z.nm] = kk ++ back (L.take (k + 1)).reverse ns ∧ (∀ k ∈ kk, k ∈ L) ∧ p.of.length ≤ 4 ∧ L.length ≤ 12 ∧ p.vo.oneCell' = true ∧ p.vf.oneCell' = true) :=
        ⟨hp, h1, h2, h3, h4, (hS p hpm).1, hn, (hP.one p hpm).1, (hP.one p hpm).2⟩
      have HO : Hid (wr.ownsRow w.heap.size 9 1 u3 ns.length (cellsS ns) ∧ wr.ownsRow w.heap.size 33 3 u4 kk.length (cellsK kk) ∧ Below w.heap.size w wr ∧ IsS w p.vo p.of) := ⟨ho3, ho4, hB, (hP p hpm).1⟩
      rw [ek]
      clear hL hP hS hn hm hK hkl hp d0 d1 d2 h1 h2 h3 h4 ho3 ho4 hB hpm ek hj
      cases hq : hasN ns p.nm with
      | false =>
        have HQ : Hid (hasN ns p.nm = false) := hq
        rw [hq] at cc
        clear hq
        go_wp2_with (go_at_call 40; refine cc.mono ?_; rintro e w' ⟨rfl, rfl⟩)
        refine ⟨?_, ?_⟩
        · have R : KR w L z.nm u3 u4 (.int .i64 ((k : Int) - 1)) w' := kr_no HR.out.1 HQ.out rfl HR.out.2.1 HR.out.2.2.1 HR.out.2.2.2.1 HR.out.2.2.2.2.1 HO.out.1 HO.out.2.1 HO.out.2.2.1
          first | exact R | ((repeat apply Exists.intro); refine ⟨?_, rfl⟩; exact R)
        · simp [intOf]
          try omega
      | true =>
        have HQ : Hid (hasN ns p.nm = true) := hq
        rw [hq] at cc
        clear hq
        go_wp2_with (go_at_call 40; refine cc.mono ?_; rintro e w' ⟨rfl, rfl⟩; refine Hid.out ?_)
        refine Lib.hid ?_
        have hB0 : Below w.heap.size w (w'.alloc (.cells #[.string (bs p.nm), p.vo, p.vf] 33)) := b_alloc HO.out.2.2.1 (Nat.le_refl _) _
        have hcl : ∀ u ∈ p.cells, u.oneCell' = true := by
          intro u hu
          simp [Kd.cells] at hu
          rcases hu with rfl | rfl | rfl
          · rfl
          · exact HR.out.2.2.2.2.2.2.2.1
          · exact HR.out.2.2.2.2.2.2.2.2
        have HM : Hid (kk.length + 1 ≤ maxLen ∧ (kk.length + 1) * 64 ≤ 140737488355328) := by
          have h1 := HR.out.2.2.1
          have h2 := HR.out.2.2.2.2.2.2.1
          unfold maxLen; exact ⟨by omega, by omega⟩
        go_wp2_with (at_builtin; refine wpList_append_own _ rfl (.tmp 28) (.tmp 33) 22 rfl w.heap.size 33 i0 _ 3 64 Tryd.underlying22 hi0 hz0 hz1 hz2 rfl (by decide) u4 kk.length (cellsK kk) rfl (HO.out.2.1.alloc _) ⟨w'.heap.size, 0, none⟩ 1 1 p.cells rfl rfl (new_at _ _ _) hcl HM.out.1 HM.out.2 hB0.size ?_; intro v1 w1 hown1 hgrow1 _; refine Hid.out ?_)
        refine Lib.hid ?_
        have hB1 : Below w.heap.size w w1 := hB0.grown hgrow1 hB0.size (fun k hk => (HO.out.2.1.lt k hk).1)
        have ho3 : w1.ownsRow w.heap.size 9 1 u3 ns.length (cellsS ns) := (HO.out.1.alloc _).kept hgrow1 (own_apart HO.out.1 HO.out.2.1 (by decide))
        have g1 := (hB1.cell (p := ⟨b, off + k * 3 + 1, none⟩) hb).trans ((HO.out.2.2.1.cell (p := ⟨b, off + k * 3 + 1, none⟩) hb).symm.trans e1)
        have HN : Hid (ns.length + p.of.length ≤ 1000) := by
          have h1 := HR.out.2.1
          have h2 := HR.out.2.2.2.2.2.2.1
          have h3 := HR.out.2.2.2.2.2.1
          show _ ≤ _
          omega
        have HO3 : Hid (w1.ownsRow w.heap.size 9 1 u3 ns.length (cellsS ns) ∧ w1.ownsRow w.heap.size 33 3 v1 (kk.length + 1) (cellsK kk ++ p.cells) ∧ IsS w1 p.vo p.of) := ⟨ho3, hown1, HO.out.2.2.2.on hB1⟩
        clear e0 e1 e2 hown1 ho3 cc
        go_wp2_with (at_builtin; refine app_names rfl (.tmp 35) (.tmp 40) rfl w.heap.size u3 ns p.of rfl HO3.out.1 p.vo rfl HO3.out.2.2 HN.out hB1.size ?_; intro v2 w2 hown2 hgrow2; refine Hid.out ?_)
        refine Lib.hid ?_
        have hB2 : Below w.heap.size w w2 := hB1.grown hgrow2 hB1.size (fun k hk => (HO3.out.1.lt k hk).1)
        have ho4 : w2.ownsRow w.heap.size 33 3 v1 (kk.length + 1) (cellsK kk ++ p.cells) := HO3.out.2.1.kept hgrow2 (own_apart HO3.out.2.1 HO3.out.1 (by decide))
        have R : KR w L z.nm v2 v1 (.int .i64 ((k : Int) - 1)) w2 := kr_yes HR.out.1 HQ.out rfl HR.out.2.1 HR.out.2.2.1 HR.out.2.2.2.1 HR.out.2.2.2.2.1 HR.out.2.2.2.2.2.1 hown2 ho4 hB2
        have HRR : Hid (KR w L z.nm v2 v1 (.int .i64 ((k : Int) - 1)) w2) := R
        clear R hown2 ho4
        go_wp2
        refine ⟨?_, ?_⟩
        · first | exact HRR.out | ((repeat apply Exists.intro); refine ⟨?_, rfl⟩; exact HRR.out)
        · simp [intOf]
          try omega
end Go.Proofs.YtgjlonilbhlneaaDoor
