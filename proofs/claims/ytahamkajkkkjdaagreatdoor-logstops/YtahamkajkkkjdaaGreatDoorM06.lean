import Derived.Test.YtahamkajkkkjdaaGreatDoorM05
namespace Go.Proofs.YtahamkajkkkjdaaGreatDoor
open Go.RowKit
set_option linter.unusedVariables false
set_option linter.unusedSimpArgs false
def KR (w : World) (L : List Kd) (nm0 : Nm) (v3 v4 i : Value) (wr : World) : Prop :=
  ∃ (j : Nat) (ns : List Nm) (kk : List Kd), j ≤ L.length ∧ i = .int .i64 ((j : Int) - 1) ∧ ns.length + 4 * j ≤ 1 + 4 * L.length ∧ kk.length + j ≤ L.length ∧
    back L.reverse [nm0] = kk ++ back (L.take j).reverse ns ∧ (∀ k ∈ kk, k ∈ L) ∧ wr.ownsRow w.heap.size 9 1 v3 ns.length (cellsS ns) ∧ wr.ownsRow w.heap.size 30 3 v4 kk.length (cellsK kk) ∧ Below w.heap.size w wr
theorem take_rev {L : List Kd} {k : Nat} {p : Kd} (h : L[k]? = some p) : (L.take (k + 1)).reverse = p :: (L.take k).reverse := by rw [takeK h]; simp
theorem kr_no {w wr : World} {L : List Kd} {nm0 : Nm} {k : Nat} {p : Kd} {ns : List Nm} {kk : List Kd} {v3 v4 i : Value} (hp : L[k]? = some p) (hn : hasN ns p.nm = false) (hi : i = .int .i64 ((k : Int) - 1))
    (h1 : ns.length + 4 * (k + 1) ≤ 1 + 4 * L.length) (h2 : kk.length + (k + 1) ≤ L.length) (h3 : back L.reverse [nm0] = kk ++ back (L.take (k + 1)).reverse ns) (h4 : ∀ k ∈ kk, k ∈ L)
    (ho3 : wr.ownsRow w.heap.size 9 1 v3 ns.length (cellsS ns)) (ho4 : wr.ownsRow w.heap.size 30 3 v4 kk.length (cellsK kk)) (hB : Below w.heap.size w wr) : KR w L nm0 v3 v4 i wr := by
  have hk := (List.getElem?_eq_some_iff.1 hp).1
  refine ⟨k, ns, kk, by omega, hi, by omega, by omega, ?_, h4, ho3, ho4, hB⟩
  rw [h3, take_rev hp]
  simp [back, hn]
theorem kr_yes {w wr : World} {L : List Kd} {nm0 : Nm} {k : Nat} {p : Kd} {ns : List Nm} {kk : List Kd} {v3 v4 i : Value} (hp : L[k]? = some p) (hn : hasN ns p.nm = true) (hi : i = .int .i64 ((k : Int) - 1))
    (h1 : ns.length + 4 * (k + 1) ≤ 1 + 4 * L.length) (h2 : kk.length + (k + 1) ≤ L.length) (h3 : back L.reverse [nm0] = kk ++ back (L.take (k + 1)).reverse ns) (h4 : ∀ k ∈ kk, k ∈ L) (h5 : p.of.length ≤ 4)
    (ho3 : wr.ownsRow w.heap.size 9 1 v3 (ns.length + p.of.length) (cellsS ns ++ cellsS p.of)) (ho4 : wr.ownsRow w.heap.size 30 3 v4 (kk.length + 1) (cellsK kk ++ p.cells)) (hB : Below w.heap.size w wr) : KR w L nm0 v3 v4 i wr := by
  have hk := (List.getElem?_eq_some_iff.1 hp).1
  refine ⟨k, ns ++ p.of, kk ++ [p], by omega, hi, by simp; omega, by simp; omega, ?_, ?_, ?_, ?_, hB⟩
  · rw [h3, take_rev hp]
    simp [back, hn]
  · intro x hx
    rcases List.mem_append.1 hx with hx | hx
    · exact h4 x hx
    · have : x = p := by simpa using hx
      subst this; exact List.mem_of_getElem? hp
  · rw [cellsS_app, List.length_append]; exact ho3
  · rw [cellsK_app, List.length_append]
    have : cellsK [p] = p.cells := by simp [cellsK]
    rw [this]; exact ho4
theorem app_names {w : World} {ops : Array Oper} {rest : List Oper} {o : Oper} {a : Act} {Q : Exit → Act → World → Prop} (hgd : o.guard = none) (s x : Operand)
    (ho : o.op = .call { callee := .builtin .append, args := #[s, x], argTypes := #[27, 27] }) (base : Nat)
    (v : Value) (ns l : List Nm) (hs : a.eval s = v) (hown : w.ownsRow base 9 1 v ns.length (cellsS ns)) (u : Value) (hx : a.eval x = u) (hl : IsS w u l) (h63 : ns.length + l.length ≤ 1000) (hbase : base ≤ w.heap.size)
    (h : ∀ v' w', w'.ownsRow base 9 1 v' (ns.length + l.length) (cellsS ns ++ cellsS l) → w.grownBy w' v.ownBlock → wpList Tryz.prog ops Q rest (a.put o.dst v') w') : wpList Tryz.prog ops Q (o :: rest) a w := by
  obtain ⟨i0, hi0, hz0, hz1, hz2⟩ := info_parts info9
  rcases hl with ⟨ao, c0, rfl, rfl, hc0, hcn⟩ | ⟨b, off, cap, rfl, hc, hm, hb, hl⟩
  · cases ao with
    | some ad =>
      refine wpList_append_own w hgd s x 27 ho base 9 i0 _ 1 16 Tryz.underlying27 hi0 hz0 hz1 hz2 rfl (by decide) v ns.length (cellsS ns) hs hown ad 0 c0 [] hx rfl (fun j u hu => by simp at hu) (fun u hu => by simp at hu) (by unfold maxLen; omega) (by omega) hbase (fun v' w' h1 h2 _ => h v' w' h1 h2)
    | none =>
      obtain rfl := hcn rfl
      refine wpList_append_own_none hgd s x 27 ho base 9 i0 1 Tryz.underlying27 hi0 v ns.length (cellsS ns) hs hown hx ?_
      exact h v w (by simpa [cellsS] using hown) ⟨rfl, rfl, rfl, Nat.le_refl _, fun _ _ _ => rfl⟩
  · refine wpList_append_own w hgd s x 27 ho base 9 i0 _ 1 16 Tryz.underlying27 hi0 hz0 hz1 hz2 rfl (by decide) v ns.length (cellsS ns) hs hown ⟨b, off, none⟩ l.length cap (cellsS l) hx (cellsS_len l) ?_ (cellsS_one l) (by unfold maxLen; omega) (by omega) hbase (fun v' w' h1 h2 _ => h v' w' h1 h2)
    intro j u hu
    rw [Addr.add_lit]
    unfold cellsS at hu
    rw [List.getElem?_map] at hu
    cases hn : l[j]? with
    | none => rw [hn] at hu; cases hu
    | some n =>
      rw [hn] at hu
      obtain rfl := Option.some.inj hu
      exact hl j n hn
set_option maxHeartbeats 4000000 in
set_option maxRecDepth 100000 in
theorem kinOf_some (b off cap : Nat) (L : List Kd) (z : Kd) (w : World) (hz : L.getLast? = some z) (hb : b < w.heap.size) (hL : LiesK w b off L) (hP : Parts w L) (hS : Small L) (hn : L.length ≤ 12) :
    Calls Tryz.prog 43 #[.slice (some ⟨b, off, none⟩) L.length cap] w fun e w' => ∃ v, e = .returned v ∧ w'.ownsRow w.heap.size 30 3 v (kinOf L).length (cellsK (kinOf L)) ∧ Below w.heap.size w w' := by
  obtain ⟨i0, hi0, hz0, hz1, hz2⟩ := info_parts info61
  have hl0 : 0 < L.length := by
    rcases Nat.eq_zero_or_pos L.length with h | h
    · rw [List.eq_nil_of_length_eq_zero h] at hz; simp at hz
    · exact h
  obtain ⟨m, hm⟩ : ∃ m, L.length = m + 1 := ⟨L.length - 1, by omega⟩
  have hzm : L[m]? = some z := by rw [List.getLast?_eq_getElem?, hm] at hz; simpa using hz
  obtain ⟨c0, c1, c2⟩ := hL m z hzm
  have hK : kinOf L = (back L.reverse [z.nm]).reverse := by unfold kinOf; rw [hz]
  have HH : Hid (LiesK w b off L ∧ Parts w L ∧ Small L ∧ L.length ≤ 12 ∧ L.length = m + 1 ∧ kinOf L = (back L.reverse [z.nm]).reverse) := ⟨hL, hP, hS, hn, hm, hK⟩
  have hm12 : m < 12 := by omega
  rw [hm]
  clear hz hL hP hS hn hzm hK hl0 hm c1 c2
  go_enter Tryz.func43, Tryz.ntmps43
  go_wp2
  go_loopw [3, 4, 5] (fun v3 v4 i wr => KR w L z.nm v3 v4 i wr) (fun _ _ i _ => (intOf i + 1).toNat)
  case atStart =>
    obtain ⟨hL, hP, hS, hn, hm, hK⟩ := HH.out
    refine ⟨m + 1, [z.nm], [], by omega, by simp, by simp; omega, by simp; omega, by rw [← hm, List.take_length]; rfl, by simp, ?_, World.ownsRow_nil _ _ _ _, b_allocKC (Below.refl _ _) (Nat.le_refl _) _⟩
    exact own_lit #[.string (bs z.nm)] 1 rfl (by decide)
  case round =>
    obtain ⟨j, ns, kk, hj, rfl, h1, h2, h3, h4, ho3, ho4, hB⟩ := hrel
    cases j with
    | zero =>
      have HK : Hid (kinOf L = kk.reverse) := by
        show _ = _
        rw [HH.out.2.2.2.2.2, h3]; simp [back]
      have hone : OneK kk := fun k hk => HH.out.2.1.one k (h4 k hk)
      have cr := reverse_own ho4 hone (by have := HH.out.2.2.2.1; omega)
      have HB : Hid (Below w.heap.size w wr) := hB
      clear h1 h2 h3 h4 ho3 hj hone hB
      go_wp2_with (go_at_call 71; refine cr.mono ?_; rintro e w' ⟨rfl, hown, hbel⟩)
      go_ret
      refine ⟨_, rfl, ?_, hbel _ _ HB.out (Nat.le_refl _)⟩
      rw [HK.out]; simpa using hown
    | succ k =>
      obtain ⟨hL, hP, hS, hn, hm, hK⟩ := HH.out
      have hkl : k < L.length := by omega
      obtain ⟨p, hp⟩ : ∃ p, L[k]? = some p := ⟨L[k], by simp [hkl]⟩
      obtain ⟨d0, d1, d2⟩ := hL k p hp
      have e0 := (hB.cell (p := ⟨b, off + k * 3, none⟩) hb).trans d0
      have e1 := (hB.cell (p := ⟨b, off + k * 3 + 1, none⟩) hb).trans d1
      have e2 := (hB.cell (p := ⟨b, off + k * 3 + 2, none⟩) hb).trans d2
      have hpm : p ∈ L := List.mem_of_getElem? hp
      have cc := contains_any (own_isS ho3) (by omega) p.nm
      have ek : (((k + 1 : Nat) : Int) - 1) = (k : Int) := by omega
      have hk1 : k < m + 1 := by omega
      have HR : Hid (L[k]? = some p ∧ ns.length + 4 * (k + 1) ≤ 1 + 4 * L.length ∧ kk.length + (k + 1) ≤ L.length ∧ back L.reverse [z.nm] = kk ++ back (L.take (k + 1)).reverse ns ∧ (∀ k ∈ kk, k ∈ L) ∧ p.of.length ≤ 4 ∧ L.length ≤ 12 ∧ p.vo.oneCell' = true ∧ p.vf.oneCell' = true) :=
        ⟨hp, h1, h2, h3, h4, (hS p hpm).1, hn, (hP.one p hpm).1, (hP.one p hpm).2⟩
      have HO : Hid (wr.ownsRow w.heap.size 9 1 u3 ns.length (cellsS ns) ∧ wr.ownsRow w.heap.size 30 3 u4 kk.length (cellsK kk) ∧ Below w.heap.size w wr ∧ IsS w p.vo p.of) := ⟨ho3, ho4, hB, (hP p hpm).1⟩
      rw [ek]
      clear hL hP hS hn hm hK hkl hp d0 d1 d2 h1 h2 h3 h4 ho3 ho4 hB hpm ek hj
      cases hq : hasN ns p.nm with
      | false =>
        have HQ : Hid (hasN ns p.nm = false) := hq
        rw [hq] at cc
        clear hq
        go_wp2_with (go_at_call 66; refine cc.mono ?_; rintro e w' ⟨rfl, rfl⟩)
        refine ⟨?_, ?_⟩
        · have R : KR w L z.nm u3 u4 (.int .i64 ((k : Int) - 1)) w' := kr_no HR.out.1 HQ.out rfl HR.out.2.1 HR.out.2.2.1 HR.out.2.2.2.1 HR.out.2.2.2.2.1 HO.out.1 HO.out.2.1 HO.out.2.2.1
          first | exact R | ((repeat apply Exists.intro); refine ⟨?_, rfl⟩; exact R)
        · simp [intOf]
          try omega
      | true =>
        have HQ : Hid (hasN ns p.nm = true) := hq
        rw [hq] at cc
        clear hq
        go_wp2_with (go_at_call 66; refine cc.mono ?_; rintro e w' ⟨rfl, rfl⟩; refine Hid.out ?_)
        refine Lib.hid ?_
        have hB0 : Below w.heap.size w (w'.alloc (.cells #[.string (bs p.nm), p.vo, p.vf] 30)) := b_allocKC HO.out.2.2.1 (Nat.le_refl _) _
        have hcl : ∀ u ∈ p.cells, u.oneCell' = true := by
          intro u hu
          simp [Kd.cells] at hu
          rcases hu with rfl | rfl | rfl
          · rfl
          · exact HR.out.2.2.2.2.2.2.2.1
          · exact HR.out.2.2.2.2.2.2.2.2
        have HM : Hid (kk.length + 1 ≤ maxLen ∧ (kk.length + 1) * 64 ≤ 140737488355328) := by
          have h1 := HR.out.2.2.1
          have h2 := HR.out.2.2.2.2.2.2.1
          unfold maxLen; exact ⟨by omega, by omega⟩
        go_wp2_with (at_builtin; refine wpList_append_own _ rfl (.tmp 28) (.tmp 33) 31 rfl w.heap.size 30 i0 _ 3 64 Tryz.underlying31 hi0 hz0 hz1 hz2 rfl (by decide) u4 kk.length (cellsK kk) rfl (HO.out.2.1.alloc _) ⟨w'.heap.size, 0, none⟩ 1 1 p.cells rfl rfl (new_atC _ _ _) hcl HM.out.1 HM.out.2 hB0.size ?_; intro v1 w1 hown1 hgrow1 _; refine Hid.out ?_)
        refine Lib.hid ?_
        have hB1 : Below w.heap.size w w1 := hB0.grown hgrow1 hB0.size (fun k hk => (HO.out.2.1.lt k hk).1)
        have ho3 : w1.ownsRow w.heap.size 9 1 u3 ns.length (cellsS ns) := (HO.out.1.alloc _).kept hgrow1 (own_apartC HO.out.1 HO.out.2.1 (by decide))
        have g1 := (hB1.cell (p := ⟨b, off + k * 3 + 1, none⟩) hb).trans ((HO.out.2.2.1.cell (p := ⟨b, off + k * 3 + 1, none⟩) hb).symm.trans e1)
        have HN : Hid (ns.length + p.of.length ≤ 1000) := by
          have h1 := HR.out.2.1
          have h2 := HR.out.2.2.2.2.2.2.1
          have h3 := HR.out.2.2.2.2.2.1
          show _ ≤ _
          omega
        have HO3 : Hid (w1.ownsRow w.heap.size 9 1 u3 ns.length (cellsS ns) ∧ w1.ownsRow w.heap.size 30 3 v1 (kk.length + 1) (cellsK kk ++ p.cells) ∧ IsS w1 p.vo p.of) := ⟨ho3, hown1, HO.out.2.2.2.on hB1⟩
        clear e0 e1 e2 hown1 ho3 cc
        go_wp2_with (at_builtin; refine app_names rfl (.tmp 35) (.tmp 40) rfl w.heap.size u3 ns p.of rfl HO3.out.1 p.vo rfl HO3.out.2.2 HN.out hB1.size ?_; intro v2 w2 hown2 hgrow2; refine Hid.out ?_)
        refine Lib.hid ?_
        have hB2 : Below w.heap.size w w2 := hB1.grown hgrow2 hB1.size (fun k hk => (HO3.out.1.lt k hk).1)
        have ho4 : w2.ownsRow w.heap.size 30 3 v1 (kk.length + 1) (cellsK kk ++ p.cells) := HO3.out.2.1.kept hgrow2 (own_apartC HO3.out.2.1 HO3.out.1 (by decide))
        have R : KR w L z.nm v2 v1 (.int .i64 ((k : Int) - 1)) w2 := kr_yes HR.out.1 HQ.out rfl HR.out.2.1 HR.out.2.2.1 HR.out.2.2.2.1 HR.out.2.2.2.2.1 HR.out.2.2.2.2.2.1 hown2 ho4 hB2
        have HRR : Hid (KR w L z.nm v2 v1 (.int .i64 ((k : Int) - 1)) w2) := R
        clear R hown2 ho4
        go_wp2
        refine ⟨?_, ?_⟩
        · first | exact HRR.out | ((repeat apply Exists.intro); refine ⟨?_, rfl⟩; exact HRR.out)
        · simp [intOf]
          try omega
theorem b_drewKC {B : Nat} {a w : World} (h : Below B a w) : ∀ n, Below B a (w.drewN n) := fun n => ⟨h.os, h.tape, h.output, h.size, h.block⟩
theorem isS_take {w : World} {b off cap k : Nat} {l : List Nm} (hb : b < w.heap.size) (hm : cap ≤ maxLen) (hc : l.length ≤ cap) (hk : k ≤ l.length) (h : LiesS w b off l) : IsS w (.slice (some ⟨b, off, none⟩) k cap) (l.take k) :=
  .inr ⟨b, off, cap, by rw [List.length_take_of_le hk], by rw [List.length_take_of_le hk]; omega, hm, hb, h.take k⟩
set_option maxHeartbeats 4000000 in
set_option maxRecDepth 100000 in
theorem checkOf_some (va : Value) (A : List Kd) (b off cap : Nat) (l : List Nm) (w : World) (hA : IsK w va A) (hA12 : A.length ≤ 12) (hb : b < w.heap.size) (hL : LiesS w b off l) (hm : cap ≤ maxLen) (hc : l.length ≤ cap) (hn : l.length ≤ 4) :
    Calls Tryz.prog 40 #[va, .slice (some ⟨b, off, none⟩) l.length cap] w fun e w' => e = .returned (errV (oChk A [] l)) ∧ Below w.heap.size w w' := by
  have HA : Hid (IsK w va A ∧ A.length ≤ 12) := ⟨hA, hA12⟩
  clear hA hA12
  unfold maxLen at hm
  go_enter Tryz.func40, Tryz.ntmps40
  go_wp2
  go_loopw [9] (fun i wr => ∃ k : Nat, k ≤ l.length ∧ i = .int .i64 k ∧ oChk A [] l = oChk A (l.take k) (l.drop k) ∧ Below w.heap.size w wr) (fun i _ => l.length - (intOf i).toNat)
  case atStart => exact ⟨0, Nat.zero_le _, rfl, rfl, Below.refl _ _⟩
  case round =>
    obtain ⟨k, hk, rfl, hi, hB⟩ := hrel
    have HI : Hid (oChk A [] l = oChk A (l.take k) (l.drop k)) := hi
    clear hi
    by_cases hlt : k < l.length
    · obtain ⟨p, hp⟩ : ∃ p, l[k]? = some p := ⟨l[k], by simp [hlt]⟩
      have d0 := (hB.cell (p := ⟨b, off + k, none⟩) hb).trans (hL k p hp)
      have HD : Hid (l.drop k = p :: l.drop (k + 1) ∧ l.take (k + 1) = l.take k ++ [p]) := ⟨dropK hp, takeK hp⟩
      have c1 := index_anyC (HA.out.1.on hB) HA.out.2 p
      have HZ : Hid (LiesS w b off l) := hL
      clear hp hL
      rcases idxK_spec p A 0 with hx | ⟨j, q, hx, _, _⟩
      · have H : Hid (oChk A [] l = 5) := by
          show _ = _
          rw [HI.out, HD.out.1]; unfold oChk; rw [if_pos hx]
        rw [hx] at c1
        clear HI HD hx
        go_wp2_with (go_at_call 39; refine c1.mono ?_; rintro e w' ⟨rfl, hB1⟩)
        go_ret
        exact ⟨ret_v (by rw [H.out]; rfl), on1KC hB hB1 (Nat.le_refl _)⟩
      · have hne : ¬ idxK p A 0 = -1 := by omega
        rw [hx] at c1
        clear hx
        simp only [Nat.zero_add] at c1
        have cn := fun (w2 : World) (h2 : IsS w2 (.slice (some ⟨b, off, none⟩) k cap) (l.take k)) => contains_any h2 (by simp; omega) p
        have HT : Hid (∀ w2, Below w.heap.size w w2 → IsS w2 (.slice (some ⟨b, off, none⟩) k cap) (l.take k)) := fun w2 h2 => isS_take (Nat.lt_of_lt_of_le hb h2.size) (by unfold maxLen; omega) hc (by omega) (HZ.out.on hb h2)
        cases hq : hasN (l.take k) p with
        | true =>
          have H : Hid (oChk A [] l = 7) := by
            show _ = _
            rw [HI.out, HD.out.1]; unfold oChk; rw [if_neg hne, if_pos hq]
          rw [hq] at cn
          clear HI HD hne hq
          go_wp2_with (go_at_call 39; refine c1.mono ?_; rintro e W1 ⟨rfl, hB1⟩; refine Hid.out ?_)
          refine Lib.hid ?_
          have hB2 := on1KC hB hB1 (Nat.le_refl _)
          have c2 := cn W1 (HT.out W1 hB2)
          clear cn c1
          go_wp2_with (go_at_call 66; refine c2.mono ?_; rintro e W2 ⟨rfl, rfl⟩)
          go_ret
          exact ⟨ret_v (by rw [H.out]; rfl), hB2⟩
        | false =>
          have H : Hid (oChk A [] l = oChk A (l.take (k + 1)) (l.drop (k + 1))) := by
            show _ = _
            rw [HI.out, HD.out.1, HD.out.2]
            conv => lhs; unfold oChk
            rw [if_neg hne, if_neg (by rw [hq]; decide)]
          rw [hq] at cn
          clear HI HD hne hq
          go_wp2_with (go_at_call 39; refine c1.mono ?_; rintro e W1 ⟨rfl, hB1⟩; refine Hid.out ?_)
          refine Lib.hid ?_
          have hB2 := on1KC hB hB1 (Nat.le_refl _)
          have c2 := cn W1 (HT.out W1 hB2)
          clear cn c1
          go_wp2_with (go_at_call 66; refine c2.mono ?_; rintro e W2 ⟨rfl, rfl⟩)
          go_roundw
          case rel => exact ⟨k + 1, by omega, by go_num, H.out, hB2⟩
          case measure => simp [intOf]; omega
    · have hd : l.drop k = [] := List.drop_eq_nil_of_le (by omega)
      have H : Hid (oChk A [] l = 0) := by
        show _ = _
        rw [HI.out, hd]; rfl
      clear HI hd hL
      go_wp2
      go_ret
      exact ⟨ret_v (by rw [H.out]; rfl), hB⟩
set_option maxHeartbeats 1000000 in
theorem checkOf_nil (va : Value) (ao : Option Addr) (c : Nat) (w : World) : Calls Tryz.prog 40 #[va, .slice ao 0 c] w fun e w' => e = .returned .nilIface ∧ Below w.heap.size w w' := by
  go_enter Tryz.func40, Tryz.ntmps40
  go_wp2
  go_loopw [9] (fun i wr => i = .int .i64 0 ∧ wr = w) (fun i _ => 0)
  case atStart => exact ⟨rfl, rfl⟩
  case round =>
    obtain ⟨rfl, rfl⟩ := hrel
    go_wp2
    go_ret
    exact ⟨rfl, Below.refl _ _⟩
theorem checkOf_any {va vo : Value} {A : List Kd} {l : List Nm} {w : World} (hA : IsK w va A) (hA12 : A.length ≤ 12) (h : IsS w vo l) (hn : l.length ≤ 4) :
    Calls Tryz.prog 40 #[va, vo] w fun e w' => e = .returned (errV (oChk A [] l)) ∧ Below w.heap.size w w' := by
  rcases h with ⟨ao, c, rfl, rfl, _⟩ | ⟨b, off, cap, rfl, hcap, hm, hb, hl⟩
  · exact checkOf_nil va ao c w
  · exact checkOf_some va A b off cap l w hA hA12 hb hl hm hcap hn
def prvF (L : List Fd) (k : Nat) : Option Fd := if k = 0 then none else L[k - 1]?
theorem prvF_s {L : List Fd} {k : Nat} {q : Fd} (h : L[k]? = some q) : prvF L (k + 1) = some q := by unfold prvF; rw [if_neg (by omega)]; simpa using h
theorem fChk_step {o : Option Fd} {f : Fd} {r : List Fd} (h : fBad o f = 0) : fChk o (f :: r) = fChk (some f) r := by
  conv => lhs; unfold fChk
  rw [if_pos h]
theorem fChk_stop {o : Option Fd} {f : Fd} {r : List Fd} (h : ¬ fBad o f = 0) : fChk o (f :: r) = fBad o f := by
  conv => lhs; unfold fChk
  rw [if_neg h]
set_option maxHeartbeats 16000000 in
set_option maxRecDepth 100000 in
theorem checkFields_some (b off cap : Nat) (L : List Fd) (w : World) (hb : b < w.heap.size) (hL : LiesF w b off L) (hs : ∀ f ∈ L, f.nm.length ≤ maxLen) (hn : L.length ≤ 8) :
    Calls Tryz.prog 41 #[.slice (some ⟨b, off, none⟩) L.length cap] w fun e w' => e = .returned (errV (fChk none L)) ∧ Below w.heap.size w w' := by
  go_enter Tryz.func41, Tryz.ntmps41
  go_wp2
  go_loopw [8] (fun i wr => ∃ k : Nat, k ≤ L.length ∧ i = .int .i64 k ∧ fChk none L = fChk (prvF L k) (L.drop k) ∧ Below w.heap.size w wr) (fun i _ => L.length - (intOf i).toNat)
  case atStart => exact ⟨0, Nat.zero_le _, rfl, rfl, Below.refl _ _⟩
  case round =>
    obtain ⟨k, hk, rfl, hc, hB⟩ := hrel
    have HC : Hid (fChk none L = fChk (prvF L k) (L.drop k)) := hc
    clear hc
    by_cases hlt : k < L.length
    · obtain ⟨p, hp⟩ : ∃ p, L[k]? = some p := ⟨L[k], by simp [hlt]⟩
      obtain ⟨c0, c1, c2, c3⟩ := hL k p hp
      have z1 := hs p (List.mem_of_getElem? hp)
      obtain ⟨f, t, must, key⟩ := p
      simp only at c0 c1 c2 c3 z1
      have d0 := (hB.cell (p := ⟨b, off + k * 4, none⟩) hb).trans c0
      have d1 := (hB.cell (p := ⟨b, off + k * 4 + 1, none⟩) hb).trans c1
      have d2 := (hB.cell (p := ⟨b, off + k * 4 + 2, none⟩) hb).trans c2
      have d3 := (hB.cell (p := ⟨b, off + k * 4 + 3, none⟩) hb).trans c3
      have HP : Hid (L[k]? = some ⟨f, t, must, key⟩) := hp
      have HD : Hid (L.drop k = ⟨f, t, must, key⟩ :: L.drop (k + 1)) := dropK hp
      have hbr : b < wr.heap.size := Nat.lt_of_lt_of_le hb hB.size
      have hbn : ¬ b = wr.heap.size := by omega
      have nm := fun w => name_any (bs f) w (by rw [bs_size]; exact z1)
      simp only [bs_data] at nm
      have HZ : Hid (L.length ≤ 8 ∧ LiesF w b off L) := ⟨hn, hL⟩
      clear c0 c1 c2 c3 hp hs hL z1
      by_cases h1 : nErr f = 0
      · have nm' : ∀ w, Calls Tryz.prog 25 #[.string (bs f)] w fun e w' => e = .returned .nilIface ∧ w' = w := fun w => by
          have := nm w; rw [h1] at this; exact this
        clear nm
        by_cases ht : t = 1 ∨ t = 2 ∨ t = 3
        · by_cases hkm : (key && !must) = true
          · have H : Hid (errV (fChk none L) = .iface 76 (.int .i64 3)) := by
              have hbad : fBad (prvF L k) ⟨f, t, must, key⟩ = 3 := by unfold fBad; rw [if_pos h1, if_pos ht, if_pos hkm]
              show _ = _
              rw [HC.out, HD.out, fChk_stop (by rw [hbad]; decide), hbad]; rfl
            have hk1 : key = true ∧ must = false := by simpa using hkm
            obtain ⟨rfl, rfl⟩ := hk1
            clear HC HD HP HZ h1 hkm
            rcases ht with rfl | rfl | rfl
            all_goals
              go_wp2_with (go_at_call 25; refine (nm' _).mono ?_; rintro e w' ⟨rfl, rfl⟩)
              go_ret
              exact ⟨ret_v H.out.symm, b_allocKC hB (Nat.le_refl _) _⟩
          · have hk1 : (key = false) ∨ (key = true ∧ must = true) := by
              cases key <;> cases must <;> simp_all
            by_cases hk0 : k = 0
            · subst hk0
              have hstep : Hid (fChk none L = fChk (prvF L (0 + 1)) (L.drop (0 + 1))) := by
                have hbad : fBad (prvF L 0) ⟨f, t, must, key⟩ = 0 := by unfold fBad; rw [if_pos h1, if_pos ht, if_neg hkm]; rfl
                show _ = _
                have := HC.out; rw [HD.out, fChk_step hbad] at this
                rw [this, prvF_s HP.out]
              clear HC HD HP HZ h1 hkm
              simp only [Nat.zero_mul, Nat.add_zero] at d0 d1 d2 d3
              rcases hk1 with rfl | ⟨rfl, rfl⟩
              all_goals
                rcases ht with rfl | rfl | rfl
                all_goals
                  go_wp2_with (go_at_call 25; refine (nm' _).mono ?_; rintro e w' ⟨rfl, rfl⟩)
                  go_quiet (fail)
                  go_wp2
                  go_roundw
                  case rel => exact ⟨0 + 1, by omega, by go_num, hstep.out, b_drewKC (b_allocKC hB (Nat.le_refl _) _) _⟩
                  case measure => simp [intOf]; omega
            · obtain ⟨q, hq⟩ : ∃ q, L[k - 1]? = some q := ⟨L[k - 1], by simp⟩
              have hprv : prvF L k = some q := by unfold prvF; rw [if_neg hk0]; exact hq
              obtain ⟨c0, _⟩ := HZ.out.2 (k - 1) q hq
              have e0 := (hB.cell (p := ⟨b, off + (k - 1) * 4, none⟩) hb).trans c0
              have hw1 : IntKind.i64.wrap ((k - 1 : Nat) : Int) = ((k - 1 : Nat) : Int) := by rw [IntKind.wrap_i64]; omega
              have hb1 : ((k - 1 : Nat) : Int) < (L.length : Int) := by omega
              have hg : 0 < k := by omega
              have hcast : (k : Int) - 1 = ((k - 1 : Nat) : Int) := by omega
              clear c0 hq
              cases h3 : (Op.bytesLess f q.nm || f == q.nm) with
              | true =>
                have H : Hid (errV (fChk none L) = .iface 76 (.int .i64 7)) := by
                  have hbad : fBad (prvF L k) ⟨f, t, must, key⟩ = 7 := by unfold fBad; rw [if_pos h1, if_pos ht, if_neg hkm, hprv]; simp only; rw [if_pos h3]
                  show _ = _
                  rw [HC.out, HD.out, fChk_stop (by rw [hbad]; decide), hbad]; rfl
                have h4 : (Op.bytesLess f q.nm = true) ∨ (Op.bytesLess f q.nm = false ∧ (f == q.nm) = true) := by
                  cases h5 : Op.bytesLess f q.nm
                  · right; rw [h5, Bool.false_or] at h3; exact ⟨rfl, h3⟩
                  · left; rfl
                clear HC HD HP HZ h1 hkm hprv h3
                rcases hk1 with rfl | ⟨rfl, rfl⟩
                all_goals
                  rcases ht with rfl | rfl | rfl
                  all_goals
                    rcases h4 with h4 | ⟨h4, h5⟩
                    all_goals
                      go_wp2_with (go_at_call 25; refine (nm' _).mono ?_; rintro e w' ⟨rfl, rfl⟩)
                      go_quiet (fail)
                      go_wp2
                      go_ret
                      exact ⟨ret_v H.out.symm, b_drewKC (b_allocKC hB (Nat.le_refl _) _) _⟩
              | false =>
                have hstep : Hid (fChk none L = fChk (prvF L (k + 1)) (L.drop (k + 1))) := by
                  have hbad : fBad (prvF L k) ⟨f, t, must, key⟩ = 0 := by unfold fBad; rw [if_pos h1, if_pos ht, if_neg hkm, hprv]; simp only; rw [if_neg (by rw [h3]; decide)]
                  show _ = _
                  have := HC.out; rw [HD.out, fChk_step hbad] at this
                  rw [this, prvF_s HP.out]
                obtain ⟨h4, h5⟩ := (Bool.or_eq_false_iff).1 h3
                clear HC HD HP HZ h1 hkm hprv h3
                rcases hk1 with rfl | ⟨rfl, rfl⟩
                all_goals
                  rcases ht with rfl | rfl | rfl
                  all_goals
                    go_wp2_with (go_at_call 25; refine (nm' _).mono ?_; rintro e w' ⟨rfl, rfl⟩)
                    go_quiet (fail)
                    go_wp2
                    go_roundw
                    case rel => exact ⟨k + 1, by omega, by go_num, hstep.out, b_drewKC (b_allocKC hB (Nat.le_refl _) _) _⟩
                    case measure => simp [intOf]; omega
        · have H : Hid (errV (fChk none L) = .iface 76 (.int .i64 8)) := by
            have hbad : fBad (prvF L k) ⟨f, t, must, key⟩ = 8 := by unfold fBad; rw [if_pos h1, if_neg ht]
            show _ = _
            rw [HC.out, HD.out, fChk_stop (by rw [hbad]; decide), hbad]; rfl
          have b1 : (t != 1) = true := by simp; omega
          have b2 : (t != 2) = true := by simp; omega
          have b3 : (t != 3) = true := by simp; omega
          clear HC HD HP HZ h1 ht
          go_wp2_with (go_at_call 25; refine (nm' _).mono ?_; rintro e w' ⟨rfl, rfl⟩)
          go_ret
          exact ⟨ret_v H.out.symm, b_allocKC hB (Nat.le_refl _) _⟩
      · have nm' : ∀ w, Calls Tryz.prog 25 #[.string (bs f)] w fun e w' => e = .returned (.iface 76 (.int .i64 (nErr f))) ∧ w' = w := fun w => by
          have := nm w; rw [errV_ne h1] at this; exact this
        have H : Hid (errV (fChk none L) = .iface 76 (.int .i64 (nErr f))) := by
          have hbad : fBad (prvF L k) ⟨f, t, must, key⟩ = nErr f := by unfold fBad; rw [if_neg h1]
          show _ = _
          rw [HC.out, HD.out, fChk_stop (by rw [hbad]; exact h1), hbad, errV_ne h1]
        clear HC HD HP HZ nm h1
        go_wp2_with (go_at_call 25; refine (nm' _).mono ?_; rintro e w' ⟨rfl, rfl⟩)
        go_ret
        exact ⟨ret_v H.out.symm, b_allocKC hB (Nat.le_refl _) _⟩
    · have hd : L.drop k = [] := List.drop_eq_nil_of_le (by omega)
      have H : Hid (errV (fChk none L) = .nilIface) := by
        show _ = _
        rw [HC.out, hd]; cases prvF L k <;> rfl
      clear HC hd
      go_wp2
      go_ret
      exact ⟨ret_v H.out.symm, hB⟩
set_option maxHeartbeats 1000000 in
theorem checkFields_nil (ao : Option Addr) (c : Nat) (w : World) : Calls Tryz.prog 41 #[.slice ao 0 c] w fun e w' => e = .returned .nilIface ∧ Below w.heap.size w w' := by
  go_enter Tryz.func41, Tryz.ntmps41
  go_wp2
  go_loopw [8] (fun i wr => i = .int .i64 0 ∧ wr = w) (fun i _ => 0)
  case atStart => exact ⟨rfl, rfl⟩
  case round =>
    obtain ⟨rfl, rfl⟩ := hrel
    go_wp2
    go_ret
    exact ⟨rfl, Below.refl _ _⟩
theorem checkFields_any {v : Value} {l : List Fd} {w : World} (h : IsF w v l) (hs : ∀ f ∈ l, f.nm.length ≤ maxLen) (hn : l.length ≤ 8) :
    Calls Tryz.prog 41 #[v] w fun e w' => e = .returned (errV (fChk none l)) ∧ Below w.heap.size w w' := by
  rcases h with ⟨ao, c, rfl, rfl, _⟩ | ⟨b, off, cap, rfl, hcap, hm, hb, hl⟩
  · exact checkFields_nil ao c w
  · exact checkFields_some b off cap l w hb hl hs hn
end Go.Proofs.YtahamkajkkkjdaaGreatDoor
