/-
  kinref2.Change: the faults that its first rows tell.
-/
import Derived.Test.YtkmkhadacppdnaaGreatDoorM25
namespace Go.Proofs.YtkmkhadacppdnaaGreatDoor
open Go.RowKit
set_option linter.unusedVariables false
set_option linter.unusedSimpArgs false

set_option maxHeartbeats 8000000 in
set_option maxRecDepth 100000 in
theorem rc_8n {w : World} {vk vb : Value} {L : List Kd} {B : List Bd} (c : Ch) (hK : IsK w vk L) (hP : Parts w L) (hz : SzK L) (hb : IsB w vb B) (hzb : SzB B) (hs : (sErr L B).2 = 0) (hc : ChIs w c) (hcz : ChSz c) (hw : c.wh = 8) (hx : idxB c.nm B 0 = -1) :
    Calls Tryz.prog 5 #[.agg #[vk, vb], c.one] w (RcP w (5) (L) (B)) := by
  obtain ⟨hG, hn, hnb⟩ := good_of hs
  obtain ⟨wh, nm, ⟨kn, ko, kf, vo, vf⟩, ⟨bn, bf, bt, mn, mx⟩, ⟨fn, ft, fm, fk⟩, vt, vn, vs, tn⟩ := c
  obtain ⟨a1, c1, rfl, _⟩ := hK.sln
  obtain ⟨a2, c2, rfl, _⟩ := hb.sln
  obtain ⟨ao, lo1, co, q1⟩ := hc.1.sl
  obtain ⟨af, lf1, cf, q2⟩ := hc.2.sl
  simp only at q1 q2 hw hc hcz hx ⊢
  subst q1 q2 hw
  obtain ⟨W0, hW0⟩ : ∃ W0, W0 = ((w.alloc (.cells #[.slice a1 L.length c1, .slice a2 B.length c2] 25)).alloc (.cells #[.int .i64 8, .string (bs nm), .string (bs kn), .slice ao lo1 co, .slice af lf1 cf, .string (bs bn), .string (bs bf), .string (bs bt), .int .i64 mn, .int .i64 mx, .string (bs fn), .int .i64 ft, .bool fm, .bool fk, .int .i64 vt, .int .i64 vn, .string (bs vs), .string (bs tn)] 37)).alloc (.cells #[.slice none 0 0, .slice none 0 0] 25) := ⟨_, rfl⟩
  have hB0 : Below w.heap.size w W0 := by rw [hW0]; exact b_alloc (b_alloc (b_alloc (Below.refl _ _) _) _) _
  have hs0 : W0.heap.size = w.heap.size + 3 := by rw [hW0]; simp
  have n0 : W0.heap[w.heap.size]? = some (.cells #[.slice a1 L.length c1, .slice a2 B.length c2] 25 (0, 0)) := by rw [hW0]; exact (heap_alloc_old _ _ (by simp; omega)).trans ((heap_alloc_old _ _ (by simp)).trans (heap_alloc_new w _))
  have n1 : W0.heap[w.heap.size + 1]? = some (.cells #[.int .i64 8, .string (bs nm), .string (bs kn), .slice ao lo1 co, .slice af lf1 cf, .string (bs bn), .string (bs bf), .string (bs bt), .int .i64 mn, .int .i64 mx, .string (bs fn), .int .i64 ft, .bool fm, .bool fk, .int .i64 vt, .int .i64 vn, .string (bs vs), .string (bs tn)] 37 (0, 0)) := by
    have := heap_alloc_new (w.alloc (.cells #[.slice a1 L.length c1, .slice a2 B.length c2] 25)) (.cells #[.int .i64 8, .string (bs nm), .string (bs kn), .slice ao lo1 co, .slice af lf1 cf, .string (bs bn), .string (bs bf), .string (bs bt), .int .i64 mn, .int .i64 mx, .string (bs fn), .int .i64 ft, .bool fm, .bool fk, .int .i64 vt, .int .i64 vn, .string (bs vs), .string (bs tn)] 37)
    rw [World.size_alloc] at this; rw [hW0]; exact (heap_alloc_old _ _ (by simp)).trans this
  have n2 : W0.heap[w.heap.size + 2]? = some (.cells #[.slice none 0 0, .slice none 0 0] 25 (0, 0)) := by
    have := heap_alloc_new ((w.alloc (.cells #[.slice a1 L.length c1, .slice a2 B.length c2] 25)).alloc (.cells #[.int .i64 8, .string (bs nm), .string (bs kn), .slice ao lo1 co, .slice af lf1 cf, .string (bs bn), .string (bs bf), .string (bs bt), .int .i64 mn, .int .i64 mx, .string (bs fn), .int .i64 ft, .bool fm, .bool fk, .int .i64 vt, .int .i64 vn, .string (bs vs), .string (bs tn)] 37)) (.cells #[.slice none 0 0, .slice none 0 0] 25)
    rw [World.size_alloc, World.size_alloc] at this; rw [hW0]; exact this
  obtain ⟨W1, hW1⟩ : ∃ W1, W1 = W0.alloc (.cells #[.slice a1 L.length c1, .slice a2 B.length c2] 25) := ⟨_, rfl⟩
  have hB1 : Below W0.heap.size W0 W1 := by rw [hW1]; exact b_alloc (Below.refl _ _) _
  have m3 : W1.heap[w.heap.size + 3]? = some (.cells #[.slice a1 L.length c1, .slice a2 B.length c2] 25 (0, 0)) := by
    have := heap_alloc_new W0 (.cells #[.slice a1 L.length c1, .slice a2 B.length c2] 25)
    rw [hs0] at this; rw [hW1]; exact this
  have h0 : Pr0 w #[.slice a1 L.length c1, .slice a2 B.length c2] #[.int .i64 8, .string (bs nm), .string (bs kn), .slice ao lo1 co, .slice af lf1 cf, .string (bs bn), .string (bs bf), .string (bs bt), .int .i64 mn, .int .i64 mx, .string (bs fn), .int .i64 ft, .bool fm, .bool fk, .int .i64 vt, .int .i64 vn, .string (bs vs), .string (bs tn)] W1 := ⟨on1K hB0 hB1 (Nat.le_refl _), (hB1.block _ (by omega)).trans n0, (hB1.block _ (by omega)).trans n1, (hB1.block _ (by omega)).trans n2, m3⟩
  have P1 := Lib.hid (pro_first h0 hK hP hn)
  have P2 : Hid (∀ W v9, Pr0 w #[.slice a1 L.length c1, .slice a2 B.length c2] #[.int .i64 8, .string (bs nm), .string (bs kn), .slice ao lo1 co, .slice af lf1 cf, .string (bs bn), .string (bs bf), .string (bs bt), .int .i64 mn, .int .i64 mx, .string (bs fn), .int .i64 ft, .bool fm, .bool fk, .int .i64 vt, .int .i64 vn, .string (bs vs), .string (bs tn)] W → W.ownsRow (w.heap.size + 4) 29 3 v9 L.length (cellsK L) → ∀ ty, ∃ v' w', (Builtin.append_ #[23, 23] ty #[.slice none 0 0, .slice a2 B.length c2]).run Tryz.prog W = .ok v' w' ∧ Pro w #[.slice a1 L.length c1, .slice a2 B.length c2] #[.int .i64 8, .string (bs nm), .string (bs kn), .slice ao lo1 co, .slice af lf1 cf, .string (bs bn), .string (bs bf), .string (bs bt), .int .i64 mn, .int .i64 mx, .string (bs fn), .int .i64 ft, .bool fm, .bool fk, .int .i64 vt, .int .i64 vn, .string (bs vs), .string (bs tn)] L B v9 v' w') := fun W v9 q0 q9 => pro_next q0 q9 hb hnb
  have ck := rkind_any (hK.on h0.1) hn nm
  have cb := rbond_any (hb.on h0.1) hnb nm
  have d0 : W0.cell? ⟨w.heap.size, 0, none⟩ = some (.slice a1 L.length c1) := cell_at n0 rfl
  have d1 : W0.cell? ⟨w.heap.size, 1, none⟩ = some (.slice a2 B.length c2) := cell_at n0 rfl
  have e0 : W1.cell? ⟨w.heap.size, 0, none⟩ = some (.slice a1 L.length c1) := cell_at h0.2.1 rfl
  have e1 : W1.cell? ⟨w.heap.size, 1, none⟩ = some (.slice a2 B.length c2) := cell_at h0.2.1 rfl
  have e2 : W1.cell? ⟨w.heap.size + 1, 1, none⟩ = some (.string (bs nm)) := cell_at h0.2.2.1 rfl
  have HK : Hid (IsK w (.slice a1 L.length c1) L ∧ Parts w L ∧ SzK L ∧ IsB w (.slice a2 B.length c2) B ∧ SzB B) := ⟨hK, hP, hz, hb, hzb⟩
  have HCC := Lib.hid hc
  have HCZ := Lib.hid hcz
  have HG := Lib.hid hG
  have HS := Lib.hid hs
  have HW1 := Lib.hid hW1
  have HS0 := Lib.hid hs0
  rw [hx] at cb
  clear hK hP hz hb hzb hc hcz hG hs n0 n1 n2 hB0 hB1 m3 h0 hW1 hs0
  go_enter Tryz.func5, Tryz.ntmps5
  go_upto_region 1 with fail
  rw [← hW0]
  clear hW0
  go_upto_region 2 with (refine wpList_store_new rfl 25 (.tmp 6) (.tmp 24) rfl _ _ rfl rfl info25s rfl rfl ?_)
  rw [← HW1.out, HS0.out]
  clear d0 d1 HW1 HS0
  go_upto_region 6 with (first | (go_at_call 14; refine ck.mono ?_; rintro e w' ⟨rfl, hw'⟩; obtain rfl := hw'.symm) | (go_at_call 15; refine cb.mono ?_; rintro e w' ⟨rfl, hw'⟩; obtain rfl := hw'.symm))
  go_upto_region 7 with (refine wpList_append_E rfl (.tmp 35) (.tmp 37) 22 rfl (.slice none 0 0) (.slice a1 L.length c1) (by first | rfl | simp [Act.eval, Act.put]) (by first | rfl | simp [Act.eval, Act.put]) (P1.out _) ?_; rintro v9 W2 ⟨h02, h9⟩)
  have f1 : W2.cell? ⟨w.heap.size, 1, none⟩ = some (.slice a2 B.length c2) := cell_at h02.2.1 rfl
  have P2' := Lib.hid (P2.out W2 v9 h02 h9)
  clear e0 e1 e2 P1 P2 h02 h9 ck cb
  go_upto_region 8 with (refine wpList_append_E rfl (.tmp 39) (.tmp 41) 23 rfl (.slice none 0 0) (.slice a2 B.length c2) (by first | rfl | simp [Act.eval, Act.put]) (by first | rfl | simp [Act.eval, Act.put]) (P2'.out _) ?_; rintro v10 W3 h3)
  clear f1 P2'
  obtain ⟨q0, q1, q2, q3, q4, q9, q10⟩ := h3
  obtain ⟨a10, c10, rfl⟩ := own_slice q10
  obtain ⟨a9, c9, rfl⟩ := own_slice q9
  obtain ⟨t0, t1, hR⟩ := rc_err q0 q3 (5) (by decide) L B _ rfl
  have k0 : W3.cell? ⟨w.heap.size + 1, 0, none⟩ = some (.int .i64 8) := cell_at q2 rfl
  have g0 := cell_at (i := 0) q3 rfl
  have g1 := cell_at (i := 1) q3 rfl
  have g2 := frz_at (i := 0) q3
  have g3 := frz_at (i := 1) q3
  have HR := Lib.hid hR
  have HT : Hid (_ ∧ _) := ⟨t0, t1⟩
  clear q0 q1 q2 q3 q4 q9 q10 hR t0 t1 HK HCC HCZ HG HS
  go_wp2
  obtain ⟨t0, t1⟩ := HT.out
  refine bodyPost_ret (v := .tuple #[.agg #[.slice none 0 0, .slice none 0 0], .int .i64 (5)]) ?_ rfl ?_
  · simp [results, Tryz.results5, go_sem, t0, t1]
  · exact HR.out
end Go.Proofs.YtkmkhadacppdnaaGreatDoor

/-
  Appending to a slice that has no room: what comes of it.
-/
namespace Go.Proofs.YtkmkhadacppdnaaGreatDoor
open Go.RowKit
set_option linter.unusedVariables false
set_option linter.unusedSimpArgs false

theorem run_cut {P : Program} (w : World) (base : Nat) (t ty e : TypeId) (i : TypeInfo) (z : Value) (size bytes : Nat) (ht : P.underlying t = some (.slice e)) (hi : P.info? e = some i) (hz : i.zero = some z)
    (hsize : i.size = size) (hby : i.bytes = bytes) (hzs : z.cells.size = size) (hsz : 0 < size) (ao : Option Addr) (k : Nat) (xs : List Value) (hx : HasC w (.slice ao k k) k xs) (hlx : xs.length = k * size)
    (u : Value) (m : Nat) (news : List Value) (hy : HasC w u m news) (hl : news.length = m * size) (h1 : ∀ u ∈ news, u.oneCell' = true)
    (h63 : k + m ≤ maxLen) (hbytes : (k + m) * bytes ≤ 140737488355328) (hbase : base ≤ w.heap.size) :
    ∃ v' w', (Builtin.append_ #[t, t] ty #[.slice ao k k, u]).run P w = .ok v' w' ∧ ((m = 0 ∧ v' = .slice ao k k ∧ w' = w) ∨ (0 < m ∧ w'.ownsRow base e size v' (k + m) (xs ++ news) ∧ w.grownBy w' none)) := by
  by_cases hm : m = 0
  · subst hm
    refine ⟨.slice ao k k, w, ?_, .inl ⟨rfl, rfl, rfl⟩⟩
    obtain ⟨au, c, rfl, _⟩ := hy
    cases ao with
    | none =>
      obtain ⟨ao', c', e', ⟨h0, _⟩ | ⟨b, off, rfl, _⟩⟩ := hx
      · subst h0
        cases au <;> simp [Builtin.append_, run_underlying ht, sizeOf, typeInfo, hi, Builtin.lenOf, Builtin.firstCells, loadCells, loadCellsFrom]
      · cases e'
    | some p => cases au <;> simp [Builtin.append_, run_underlying ht, sizeOf, typeInfo, hi, Builtin.lenOf, Builtin.firstCells, storeCells, loadCells, loadCellsFrom]
  · obtain ⟨au, c, rfl, ⟨h0, _⟩ | ⟨b, off, rfl, hb, hL⟩⟩ := hy
    · exact absurd h0 hm
    · by_cases hk : ao = none
      · subst hk
        have hk0 : k = 0 := by
          obtain ⟨ao', c', e', ⟨h0, _⟩ | ⟨b', off', rfl, _⟩⟩ := hx
          · exact h0
          · cases e'
        subst hk0
        have hxs : xs = [] := List.eq_nil_of_length_eq_zero (by simpa using hlx)
        subst hxs
        obtain ⟨v', w', r1, r2, r3, _⟩ := run_append_own (P := P) w base t ty e i z size bytes ht hi hz hsize hby hzs hsz (.slice none 0 0) 0 [] (World.ownsRow_nil _ _ _ _) ⟨b, off, none⟩ m c news hl hL h1 h63 hbytes hbase
        exact ⟨v', w', r1, .inr ⟨by omega, r2, r3⟩⟩
      · obtain ⟨p, rfl⟩ : ∃ p, ao = some p := by cases ao with
          | none => exact absurd rfl hk
          | some p => exact ⟨p, rfl⟩
        have holds : ∀ j u, xs[j]? = some u → w.cell? (p.add j) = some u := by
          obtain ⟨ao', c', e', ⟨h0, rfl⟩ | ⟨b', off', rfl, _, hL'⟩⟩ := hx
          · intro j u hu; simp at hu
          · injection e' with e1
            injection e1 with e1
            subst e1
            exact hL'
        subst hsize hby
        have hsmall : k + m ≤ 9223372036854775807 := by simp only [maxLen] at h63; omega
        have hlen : (xs ++ news).length = (k + m) * i.size := by rw [List.length_append, hlx, hl, Nat.add_mul]
        have hr := run_append_grow (P := P) w t ty e i z ht hi hz p k k xs hlx holds ⟨b, off, none⟩ m c news hl hL (by omega) (by omega) (growslice_fits (by omega) hbytes)
        refine ⟨_, _, hr, .inr ⟨by omega, ?_, ⟨rfl, rfl, rfl, by simp, fun j hj _ => heap_alloc_old w.drew _ hj⟩⟩⟩
        have hge := grownCap_ge w (k + m) k e
        have hcm : grownCap w (k + m) k e ≤ maxLen := grownCap_le_maxLen w (k + m) k e h63
        refine ⟨hlen, .inr ⟨w.heap.size, _, _, rfl, hbase, heap_alloc_new w.drew _, hge, hcm, ?_, ?_⟩⟩
        · simp only [Array.size_append, List.size_toArray, size_zeroCells, hzs, hlx, hl, ← Nat.add_mul]
          congr 1
          omega
        · simp only [Array.toList_append, List.append_assoc]
          rw [← List.append_assoc, ← hlen]
          exact List.take_left

section
variable {P : Program}
theorem wp_slHM {w : World} {o : Oper} {a : Act} {K : Act → World → Prop} {Q : Exit → Act → World → Prop} (t : TypeId) (x y y' : Operand) (ho : o.op = .slice t x none (some y) (some y')) (e : TypeId) (i : TypeInfo) (ht : P.underlying t = some (.slice e)) (hi : P.info? e = some i)
    (ao : Option Addr) (n c k : Nat) (hx : a.eval x = .slice ao n c) (hy : a.eval y = .int .i64 (k : Int)) (hy' : a.eval y' = .int .i64 (k : Int)) (hk : k ≤ c) (h : K (a.put o.dst (.slice ao k k)) w) : o.wp P a w K Q := by
  have he := elem_of ht
  have ht' : P.underlying t = some (.slice (P.elem t)) := by rw [he]; exact ht
  unfold Oper.wp execOp
  have hs : (if k = 0 then ao else ao.map (·.add 0)) = ao := by
    cases ao with
    | none => simp
    | some p => simp [Addr.add]
  simp [ho, hx, hy, hy', run_sliceAt_slice _ t _ _ _ _ ht', run_slice_hm _ t ao n c ht' .i64 .i64 (k : Int) (k : Int) (by omega) (by omega) (by omega), sizeOf, typeInfo, he, hi, Result.andThen, sliced, hs]
  exact h
theorem step_slHM {w : World} {ops : Array Oper} {o : Oper} {a : Act} {K : Act → World → Prop} {Q : Exit → Act → World → Prop} {E : Prop} (hg : o.guard = none) (t : TypeId) (x y y' : Operand) (ho : o.op = .slice t x none (some y) (some y')) (e : TypeId) (i : TypeInfo) (ht : P.underlying t = some (.slice e)) (hi : P.info? e = some i)
    (ao : Option Addr) (n c k : Nat) (hx : a.eval x = .slice ao n c) (hy : a.eval y = .int .i64 (k : Int)) (hy' : a.eval y' = .int .i64 (k : Int)) (hk : k ≤ c) (h : K (a.put o.dst (.slice ao k k)) w) :
    if Region.wanted o (yielded ops a.tmps) = true then Oper.wp P o a w K Q else E := by
  rw [if_pos (by simp [Region.wanted, hg])]
  exact wp_slHM t x y y' ho e i ht hi ao n c k hx hy hy' hk h
theorem step_slLo {w : World} {ops : Array Oper} {o : Oper} {a : Act} {K : Act → World → Prop} {Q : Exit → Act → World → Prop} {E : Prop} (hg : o.guard = none) (t : TypeId) (x y : Operand) (ho : o.op = .slice t x (some y) none none) (e : TypeId) (i : TypeInfo) (ht : P.underlying t = some (.slice e)) (hi : P.info? e = some i)
    {xs : List Value} (ao : Option Addr) (n c k : Nat) (hx : a.eval x = .slice ao n c) (hy : a.eval y = .int .i64 (k : Int)) (hc : HasC w (.slice ao n c) n xs) (hk : k ≤ n) (hnc : n ≤ c) (hl : xs.length = n * i.size) (h : ∀ v', HasC w v' (n - k) (xs.drop (k * i.size)) → K (a.put o.dst v') w) :
    if Region.wanted o (yielded ops a.tmps) = true then Oper.wp P o a w K Q else E := by
  rw [if_pos (by simp [Region.wanted, hg])]
  exact wp_slLo t x y ho e i ht hi ao n c k hx hy hc hk hnc hl h
end
theorem Pro.drew {w W : World} {S C : Array Value} {L : List Kd} {B : List Bd} {v9 v10 : Value} (h : Pro w S C L B v9 v10 W) : Pro w S C L B v9 v10 W.drew := ⟨h.1.drew, h.2.1, h.2.2.1, h.2.2.2.1, h.2.2.2.2.1, own_drew h.2.2.2.2.2.1, own_drew h.2.2.2.2.2.2⟩
theorem own_cap {w : World} {base : Nat} {e : TypeId} {size n cp : Nat} {a : Option Addr} {xs : List Value} (h : w.ownsRow base e size (.slice a n cp) n xs) : n ≤ cp := by
  rcases h.2 with ⟨h0, h1⟩ | ⟨g, cap, cur, h0, _, _, h1, _⟩
  · injection h0 with _ _ h3; omega
  · injection h0 with _ _ h3; omega
end Go.Proofs.YtkmkhadacppdnaaGreatDoor

/-
  kinref2.Change of the range of a bond.
-/
namespace Go.Proofs.YtkmkhadacppdnaaGreatDoor
open Go.RowKit
set_option linter.unusedVariables false
set_option linter.unusedSimpArgs false

set_option maxHeartbeats 8000000 in
set_option maxRecDepth 100000 in
theorem rc_8 {w : World} {vk vb : Value} {L : List Kd} {B : List Bd} (c : Ch) (hK : IsK w vk L) (hP : Parts w L) (hz : SzK L) (hb : IsB w vb B) (hzb : SzB B) (hs : (sErr L B).2 = 0) (hc : ChIs w c) (hcz : ChSz c) (hw : c.wh = 8) (hx : ¬ idxB c.nm B 0 = -1) :
    Calls Tryz.prog 5 #[.agg #[vk, vb], c.one] w (RcP w ((sErr L (setR B c.nm c.bd.mn c.bd.mx)).2) (L) (setR B c.nm c.bd.mn c.bd.mx)) := by
  obtain ⟨hG, hn, hnb⟩ := good_of hs
  obtain ⟨wh, nm, ⟨kn, ko, kf, vo, vf⟩, ⟨bn, bf, bt, mn, mx⟩, ⟨fn, ft, fm, fk⟩, vt, vn, vs, tn⟩ := c
  obtain ⟨a1, c1, rfl, _⟩ := hK.sln
  obtain ⟨a2, c2, rfl, _⟩ := hb.sln
  obtain ⟨ao, lo1, co, q1⟩ := hc.1.sl
  obtain ⟨af, lf1, cf, q2⟩ := hc.2.sl
  simp only at q1 q2 hw hc hcz hx ⊢
  subst q1 q2 hw
  obtain ⟨W0, hW0⟩ : ∃ W0, W0 = ((w.alloc (.cells #[.slice a1 L.length c1, .slice a2 B.length c2] 25)).alloc (.cells #[.int .i64 8, .string (bs nm), .string (bs kn), .slice ao lo1 co, .slice af lf1 cf, .string (bs bn), .string (bs bf), .string (bs bt), .int .i64 mn, .int .i64 mx, .string (bs fn), .int .i64 ft, .bool fm, .bool fk, .int .i64 vt, .int .i64 vn, .string (bs vs), .string (bs tn)] 37)).alloc (.cells #[.slice none 0 0, .slice none 0 0] 25) := ⟨_, rfl⟩
  have hB0 : Below w.heap.size w W0 := by rw [hW0]; exact b_alloc (b_alloc (b_alloc (Below.refl _ _) _) _) _
  have hs0 : W0.heap.size = w.heap.size + 3 := by rw [hW0]; simp
  have n0 : W0.heap[w.heap.size]? = some (.cells #[.slice a1 L.length c1, .slice a2 B.length c2] 25 (0, 0)) := by rw [hW0]; exact (heap_alloc_old _ _ (by simp; omega)).trans ((heap_alloc_old _ _ (by simp)).trans (heap_alloc_new w _))
  have n1 : W0.heap[w.heap.size + 1]? = some (.cells #[.int .i64 8, .string (bs nm), .string (bs kn), .slice ao lo1 co, .slice af lf1 cf, .string (bs bn), .string (bs bf), .string (bs bt), .int .i64 mn, .int .i64 mx, .string (bs fn), .int .i64 ft, .bool fm, .bool fk, .int .i64 vt, .int .i64 vn, .string (bs vs), .string (bs tn)] 37 (0, 0)) := by
    have := heap_alloc_new (w.alloc (.cells #[.slice a1 L.length c1, .slice a2 B.length c2] 25)) (.cells #[.int .i64 8, .string (bs nm), .string (bs kn), .slice ao lo1 co, .slice af lf1 cf, .string (bs bn), .string (bs bf), .string (bs bt), .int .i64 mn, .int .i64 mx, .string (bs fn), .int .i64 ft, .bool fm, .bool fk, .int .i64 vt, .int .i64 vn, .string (bs vs), .string (bs tn)] 37)
    rw [World.size_alloc] at this; rw [hW0]; exact (heap_alloc_old _ _ (by simp)).trans this
  have n2 : W0.heap[w.heap.size + 2]? = some (.cells #[.slice none 0 0, .slice none 0 0] 25 (0, 0)) := by
    have := heap_alloc_new ((w.alloc (.cells #[.slice a1 L.length c1, .slice a2 B.length c2] 25)).alloc (.cells #[.int .i64 8, .string (bs nm), .string (bs kn), .slice ao lo1 co, .slice af lf1 cf, .string (bs bn), .string (bs bf), .string (bs bt), .int .i64 mn, .int .i64 mx, .string (bs fn), .int .i64 ft, .bool fm, .bool fk, .int .i64 vt, .int .i64 vn, .string (bs vs), .string (bs tn)] 37)) (.cells #[.slice none 0 0, .slice none 0 0] 25)
    rw [World.size_alloc, World.size_alloc] at this; rw [hW0]; exact this
  obtain ⟨W1, hW1⟩ : ∃ W1, W1 = W0.alloc (.cells #[.slice a1 L.length c1, .slice a2 B.length c2] 25) := ⟨_, rfl⟩
  have hB1 : Below W0.heap.size W0 W1 := by rw [hW1]; exact b_alloc (Below.refl _ _) _
  have m3 : W1.heap[w.heap.size + 3]? = some (.cells #[.slice a1 L.length c1, .slice a2 B.length c2] 25 (0, 0)) := by
    have := heap_alloc_new W0 (.cells #[.slice a1 L.length c1, .slice a2 B.length c2] 25)
    rw [hs0] at this; rw [hW1]; exact this
  have h0 : Pr0 w #[.slice a1 L.length c1, .slice a2 B.length c2] #[.int .i64 8, .string (bs nm), .string (bs kn), .slice ao lo1 co, .slice af lf1 cf, .string (bs bn), .string (bs bf), .string (bs bt), .int .i64 mn, .int .i64 mx, .string (bs fn), .int .i64 ft, .bool fm, .bool fk, .int .i64 vt, .int .i64 vn, .string (bs vs), .string (bs tn)] W1 := ⟨on1K hB0 hB1 (Nat.le_refl _), (hB1.block _ (by omega)).trans n0, (hB1.block _ (by omega)).trans n1, (hB1.block _ (by omega)).trans n2, m3⟩
  have P1 := Lib.hid (pro_first h0 hK hP hn)
  have P2 : Hid (∀ W v9, Pr0 w #[.slice a1 L.length c1, .slice a2 B.length c2] #[.int .i64 8, .string (bs nm), .string (bs kn), .slice ao lo1 co, .slice af lf1 cf, .string (bs bn), .string (bs bf), .string (bs bt), .int .i64 mn, .int .i64 mx, .string (bs fn), .int .i64 ft, .bool fm, .bool fk, .int .i64 vt, .int .i64 vn, .string (bs vs), .string (bs tn)] W → W.ownsRow (w.heap.size + 4) 29 3 v9 L.length (cellsK L) → ∀ ty, ∃ v' w', (Builtin.append_ #[23, 23] ty #[.slice none 0 0, .slice a2 B.length c2]).run Tryz.prog W = .ok v' w' ∧ Pro w #[.slice a1 L.length c1, .slice a2 B.length c2] #[.int .i64 8, .string (bs nm), .string (bs kn), .slice ao lo1 co, .slice af lf1 cf, .string (bs bn), .string (bs bf), .string (bs bt), .int .i64 mn, .int .i64 mx, .string (bs fn), .int .i64 ft, .bool fm, .bool fk, .int .i64 vt, .int .i64 vn, .string (bs vs), .string (bs tn)] L B v9 v' w') := fun W v9 q0 q9 => pro_next q0 q9 hb hnb
  have ck := rkind_any (hK.on h0.1) hn nm
  have cb := rbond_any (hb.on h0.1) hnb nm
  have d0 : W0.cell? ⟨w.heap.size, 0, none⟩ = some (.slice a1 L.length c1) := cell_at n0 rfl
  have d1 : W0.cell? ⟨w.heap.size, 1, none⟩ = some (.slice a2 B.length c2) := cell_at n0 rfl
  have e0 : W1.cell? ⟨w.heap.size, 0, none⟩ = some (.slice a1 L.length c1) := cell_at h0.2.1 rfl
  have e1 : W1.cell? ⟨w.heap.size, 1, none⟩ = some (.slice a2 B.length c2) := cell_at h0.2.1 rfl
  have e2 : W1.cell? ⟨w.heap.size + 1, 1, none⟩ = some (.string (bs nm)) := cell_at h0.2.2.1 rfl
  have HK : Hid (IsK w (.slice a1 L.length c1) L ∧ Parts w L ∧ SzK L ∧ IsB w (.slice a2 B.length c2) B ∧ SzB B) := ⟨hK, hP, hz, hb, hzb⟩
  have HCC := Lib.hid hc
  have HCZ := Lib.hid hcz
  have HG := Lib.hid hG
  have HS := Lib.hid hs
  have HW1 := Lib.hid hW1
  have HS0 := Lib.hid hs0
  obtain ⟨j, q, hj, hat, hq, _⟩ := idxB_has hx
  have hjl := (List.getElem?_eq_some_iff.1 hq).1
  rw [hj] at cb
  have hjn : ¬ (j : Int) < 0 := by omega
  have hji : (j : Int) < (B.length : Int) := by omega
  have hsr : setR B nm mn mx = B.set j { q with mn := mn, mx := mx } := by unfold setR; rw [hat, hq]
  rw [hsr]
  generalize hX : (sErr L (B.set j { q with mn := mn, mx := mx })).2 = x
  have HA : Hid (∀ v9 g c10 W3, Pro w #[.slice a1 L.length c1, .slice a2 B.length c2] #[.int .i64 8, .string (bs nm), .string (bs kn), .slice ao lo1 co, .slice af lf1 cf, .string (bs bn), .string (bs bf), .string (bs bt), .int .i64 mn, .int .i64 mx, .string (bs fn), .int .i64 ft, .bool fm, .bool fk, .int .i64 vt, .int .i64 vn, .string (bs vs), .string (bs tn)] L B v9 (.slice (some ⟨g, 0, none⟩) B.length c10) W3 → (W3.cell? ⟨g, j * 5 + 3, none⟩ = some (.int .i64 q.mn) ∧ W3.frozen? ⟨g, j * 5 + 3, none⟩ = false ∧ W3.cell? ⟨g, j * 5 + 4, none⟩ = some (.int .i64 q.mx) ∧ W3.frozen? ⟨g, j * 5 + 4, none⟩ = false ∧ w.heap.size + 4 ≤ g) ∧ ∀ Y, Y = (W3.setCell ⟨g, j * 5 + 3, none⟩ (.int .i64 mn)).setCell ⟨g, j * 5 + 4, none⟩ (.int .i64 mx) → (Y.cell? ⟨w.heap.size + 3, 1, none⟩ = some (.slice a2 B.length c2) ∧ Y.frozen? ⟨w.heap.size + 3, 1, none⟩ = false) ∧ ∀ Z, Z = Y.setCell ⟨w.heap.size + 3, 1, none⟩ (.slice (some ⟨g, 0, none⟩) B.length c10) → (Z.cell? ⟨w.heap.size + 3, 0, none⟩ = some (.slice a1 L.length c1) ∧ Z.cell? ⟨w.heap.size + 3, 1, none⟩ = some (.slice (some ⟨g, 0, none⟩) B.length c10)) ∧ Calls Tryz.prog 4 #[.agg #[.slice a1 L.length c1, .slice (some ⟨g, 0, none⟩) B.length c10]] Z fun e X => e = .returned (.int .i64 x) ∧ EnF w (.slice a1 L.length c1) (.slice (some ⟨g, 0, none⟩) B.length c10) x L (B.set j { q with mn := mn, mx := mx }) X) := fun v9 g c10 W3 h3 => by
    obtain ⟨q0, q1, q2, q3, q4, q9, q10⟩ := h3
    have hgb : w.heap.size + 4 ≤ g := (q10.lt g rfl).1
    have cells := World.ownsRow.cells q10 (g := g) rfl
    have g3 : W3.cell? ⟨g, j * 5 + 3, none⟩ = some (.int .i64 q.mn) := by
      have := cells (j * 5 + 3) _ ((flatK bd_len B j q 3 hq (by omega)).trans rfl)
      rw [Addr.add_lit, Nat.zero_add] at this; exact this
    have g4 : W3.cell? ⟨g, j * 5 + 4, none⟩ = some (.int .i64 q.mx) := by
      have := cells (j * 5 + 4) _ ((flatK bd_len B j q 4 hq (by omega)).trans rfl)
      rw [Addr.add_lit, Nat.zero_add] at this; exact this
    obtain ⟨cur, hcur⟩ : ∃ cur, W3.heap[g]? = some (.cells cur 31 (0, 0)) := by
      rcases q10.2 with ⟨h0, _⟩ | ⟨g', cap', cur, h0, _, hg', _⟩
      · cases h0
      · injection h0 with e1
        injection e1 with e1
        injection e1 with e1
        subst e1
        exact ⟨cur, hg'⟩
    refine ⟨⟨g3, frz_at hcur, g4, frz_at hcur, hgb⟩, fun Y hY => ?_⟩
    have h1 := World.ownsRow.stored q10 (j * 5 + 3) (.int .i64 mn)
    have h2 := World.ownsRow.stored h1.1 (j * 5 + 4) (.int .i64 mx)
    have p0 : Pr0 w #[.slice a1 L.length c1, .slice a2 B.length c2] #[.int .i64 8, .string (bs nm), .string (bs kn), .slice ao lo1 co, .slice af lf1 cf, .string (bs bn), .string (bs bf), .string (bs bt), .int .i64 mn, .int .i64 mx, .string (bs fn), .int .i64 ft, .bool fm, .bool fk, .int .i64 vt, .int .i64 vn, .string (bs vs), .string (bs tn)] Y := by rw [hY]; exact (Pr0.grown (W := W3) ⟨q0, q1, q2, q3, q4⟩ h1.2 (fun k e => (q10.lt k e).1)).grown h2.2 (fun k e => (h1.1.lt k e).1)
    obtain ⟨u0, u1, u2, u3, u4⟩ := p0
    have r2' : Y.ownsRow (w.heap.size + 4) 31 5 (.slice (some ⟨g, 0, none⟩) B.length c10) (B.set j { q with mn := mn, mx := mx }).length (cellsBd (B.set j { q with mn := mn, mx := mx })) := by rw [cells_setR B j q hq mn mx, List.length_set, hY]; exact h2.1
    refine ⟨⟨cell_at u4 rfl, frz_at u4⟩, fun Z hZ => ?_⟩
    have z3 : Z.heap[w.heap.size + 3]? = some (.cells #[.slice a1 L.length c1, .slice (some ⟨g, 0, none⟩) B.length c10] 25 (0, 0)) := by rw [hZ]; exact (heap_setCell_same Y _ 1 _ 25 _ u4)
    have z2 : Z.heap[w.heap.size + 2]? = some (.cells #[.slice none 0 0, .slice none 0 0] 25 (0, 0)) := by rw [hZ]; exact (heap_setCell_other Y ⟨w.heap.size + 3, 1, none⟩ (w.heap.size + 2) _ (by show w.heap.size + 2 ≠ w.heap.size + 3; omega)).trans u3
    have hE : EnS w Y (.slice a1 L.length c1) (.slice (some ⟨g, 0, none⟩) B.length c10) L (B.set j { q with mn := mn, mx := mx }) := ⟨.inl HK.out.1, fun k hk => ⟨(HK.out.2.1 k hk).1, .inl (HK.out.2.1 k hk).2⟩, .inr (.inl r2'), u0⟩
    have hEZ : EnS w Z (.slice a1 L.length c1) (.slice (some ⟨g, 0, none⟩) B.length c10) L (B.set j { q with mn := mn, mx := mx }) := by rw [hZ]; exact hE.set (by omega) (by omega) _ _
    have := rc_end hEZ rfl HK.out.2.2.1 (fun y hy => by
      rcases List.mem_or_eq_of_mem_set hy with hy | hy
      · exact HK.out.2.2.2.2 y hy
      · rw [hy]; exact HK.out.2.2.2.2 q (List.mem_of_getElem? hq)) z2 z3
    rw [hX] at this
    exact ⟨⟨cell_at z3 rfl, cell_at z3 rfl⟩, this⟩
  clear hsr hj hat hx
  clear hK hP hz hb hzb hc hcz hG hs n0 n1 n2 hB0 hB1 m3 h0 hW1 hs0
  go_enter Tryz.func5, Tryz.ntmps5
  go_upto_region 1 with fail
  rw [← hW0]
  clear hW0
  go_upto_region 2 with (refine wpList_store_new rfl 25 (.tmp 6) (.tmp 24) rfl _ _ rfl rfl info25s rfl rfl ?_)
  rw [← HW1.out, HS0.out]
  clear d0 d1 HW1 HS0
  go_upto_region 6 with (first | (go_at_call 14; refine ck.mono ?_; rintro e w' ⟨rfl, hw'⟩; obtain rfl := hw'.symm) | (go_at_call 15; refine cb.mono ?_; rintro e w' ⟨rfl, hw'⟩; obtain rfl := hw'.symm))
  go_upto_region 7 with (refine wpList_append_E rfl (.tmp 35) (.tmp 37) 22 rfl (.slice none 0 0) (.slice a1 L.length c1) (by first | rfl | simp [Act.eval, Act.put]) (by first | rfl | simp [Act.eval, Act.put]) (P1.out _) ?_; rintro v9 W2 ⟨h02, h9⟩)
  have f1 : W2.cell? ⟨w.heap.size, 1, none⟩ = some (.slice a2 B.length c2) := cell_at h02.2.1 rfl
  have P2' := Lib.hid (P2.out W2 v9 h02 h9)
  clear e0 e1 e2 P1 P2 h02 h9 ck cb
  go_upto_region 8 with (refine wpList_append_E rfl (.tmp 39) (.tmp 41) 23 rfl (.slice none 0 0) (.slice a2 B.length c2) (by first | rfl | simp [Act.eval, Act.put]) (by first | rfl | simp [Act.eval, Act.put]) (P2'.out _) ?_; rintro v10 W3 h3)
  clear f1 P2'
  obtain ⟨a9, c9, rfl⟩ := own_slice h3.2.2.2.2.2.1
  rcases h3.2.2.2.2.2.2.2 with ⟨rfl, h00⟩ | ⟨g, c10, cur, rfl, _⟩
  · omega
  obtain ⟨⟨m3, m4, m5, m6, m7⟩, hY⟩ := HA.out _ g c10 W3 h3
  obtain ⟨⟨m8, m9⟩, hZ⟩ := hY _ rfl
  obtain ⟨⟨y0, y1⟩, cR⟩ := hZ _ rfl
  have q2 := h3.2.2.1
  have k0 : W3.cell? ⟨w.heap.size + 1, 0, none⟩ = some (.int .i64 8) := cell_at q2 rfl
  have k8 : W3.cell? ⟨w.heap.size + 1, 8, none⟩ = some (.int .i64 mn) := cell_at q2 rfl
  have k9 : W3.cell? ⟨w.heap.size + 1, 9, none⟩ = some (.int .i64 mx) := cell_at q2 rfl
  have hg1 : ¬ g = w.heap.size + 1 := by omega
  have hg2 : ¬ w.heap.size + 1 = g := by omega
  have hg3 : ¬ g = w.heap.size + 3 := by omega
  have hg4 : ¬ w.heap.size + 3 = g := by omega
  clear q2 h3 HA hX HK HCC HCZ HG HS hY hZ hq m7
  go_upto_region 73 with fail
  go_upto_region 74 with (go_at_call 4; refine cR.mono ?_; rintro e X ⟨rfl, hE⟩)
  have HE := Lib.hid hE
  clear hE cR y0 y1 k0 k8 k9 m3 m4 m5 m6 m8 m9
  by_cases hx : x = 0
  · obtain ⟨t0, t1, hR⟩ := HE.out.2.2 hx _ rfl
    obtain ⟨y0, y1, y2⟩ := HE.out.1
    have g0 := cell_at (i := 0) y2 rfl
    have g1 := cell_at (i := 1) y2 rfl
    have g2 := frz_at (i := 0) y2
    have g3 := frz_at (i := 1) y2
    have HR := Lib.hid hR
    have HT : Hid (_ ∧ _) := ⟨t0, t1⟩
    clear y2 hR t0 t1 HE
    subst hx
    go_wp2
    obtain ⟨t0, t1⟩ := HT.out
    refine bodyPost_ret (v := .tuple #[.agg #[.slice a1 L.length c1, .slice (some ⟨g, 0, none⟩) B.length c10], .int .i64 0]) ?_ rfl ?_
    · simp [results, Tryz.results5, go_sem, t0, t1]
    · exact HR.out
  · obtain ⟨t0, t1, hR⟩ := HE.out.2.1 hx _ rfl
    obtain ⟨y0, y1, y2⟩ := HE.out.1
    have g0 := cell_at (i := 0) y2 rfl
    have g1 := cell_at (i := 1) y2 rfl
    have g2 := frz_at (i := 0) y2
    have g3 := frz_at (i := 1) y2
    have HR := Lib.hid hR
    have HT : Hid (_ ∧ _) := ⟨t0, t1⟩
    clear y2 hR t0 t1 HE
    go_wp2
    obtain ⟨t0, t1⟩ := HT.out
    refine bodyPost_ret (v := .tuple #[.agg #[.slice none 0 0, .slice none 0 0], .int .i64 x]) ?_ rfl ?_
    · simp [results, Tryz.results5, go_sem, t0, t1]
    · exact HR.out
end Go.Proofs.YtkmkhadacppdnaaGreatDoor
