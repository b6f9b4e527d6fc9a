/-
  The walk of change.dropField.
-/
import Derived.Test.YtkmkhadacppdnaaDoorChH
import Derived.Test.YtkmkhadacppdnaaDoorDlF
namespace Go.Proofs.YtkmkhadacppdnaaDoor
open Go.RowKit
set_option linter.unusedVariables false
set_option linter.unusedSimpArgs false

theorem info37 : (Tryd.prog.info? 42).map (fun i => i.size) = some 18 := by kernel_rfl
/-- A change out of its block. -/
theorem load37 {W : World} {b : Nat} {cs : Array Value} (h : W.heap[b]? = some (.cells cs 42 (0, 0))) (hs : cs.size = 18) : (Instr.loadAt 42 (.pointer (some ⟨b, 0, none⟩))).run Tryd.prog W = .ok (.agg cs) W := by
  simp only [Instr.loadAt, Instr.sureAddr, Sem.run_bind, Sem.run_pure, Result.andThen_ok, run_loadVar_row W b 42 42 cs (0, 0) _ h Tryd.underlying42 rfl (by rw [hs]; exact info37)]
theorem map_set_kq (L : List Kd) (j : Nat) (k k' : Kd) (h : kq3 k = kq3 k') : (L.set j k).map kq3 = (L.set j k').map kq3 := by rw [List.map_set, List.map_set, h]
theorem setFs_kq {L : List Kd} {n : Nm} {j : Nat} {q : Kd} (hat : nmAt L n = j) (hq : L[j]? = some q) (g : List Fd) (v : Value) : (L.set j ⟨q.nm, q.of, g, q.vo, v⟩).map kq3 = (setFs L n g).map kq3 := by
  unfold setFs
  rw [hat, hq]
  exact map_set_kq L j _ _ rfl
theorem fnd_lt {n : Nm} {l : List Fd} (h : fnd n l = true) : lo n l < l.length := by
  unfold fnd at h
  split at h
  · rename_i g hg; exact (List.getElem?_eq_some_iff.1 hg).1
  · cases h
/-- The kinds' row of a schema that has one. -/
theorem OwnKs.at {w : World} {base : Nat} {v : Value} {L : List Kd} (h : OwnKs w base v L) (h0 : 0 < L.length) : ∃ gk cp, v = .slice (some ⟨gk, 0, none⟩) L.length cp := by
  rcases h.1.2 with ⟨rfl, h1⟩ | ⟨g, cap, cur, rfl, _⟩
  · omega
  · exact ⟨g, cap, rfl⟩
theorem OwnKs.cell2 {w : World} {base gk cp : Nat} {L : List Kd} (h : OwnKs w base (.slice (some ⟨gk, 0, none⟩) L.length cp) L) {j : Nat} {q : Kd} (hq : L[j]? = some q) : w.cell? ⟨gk, j * 3 + 2, none⟩ = some q.vf := by
  have h1 := World.ownsRow.cells h.1 (g := gk) rfl (j * 3 + 2) q.vf ((flatK kd_len L j q 2 hq (by omega)).trans rfl)
  rw [Addr.add_lit, Nat.zero_add] at h1
  exact h1

set_option maxHeartbeats 4000000 in
set_option maxRecDepth 100000 in
theorem dropField_no {w : World} {base p : Nat} {L : List Kd} {B : List Bd} (h : OSc w base p L B) (hn : L.length ≤ 12) (hG : Good L) (c : Ch) (hc : ChIs w c) (hx : e4 L c.nm c.fd.nm = 5) :
    Calls Tryd.prog 27 #[.pointer (some ⟨p, 0, none⟩), c.one] w fun e w' => e = .returned (errV 5) ∧ Below w.heap.size w w' := by
  obtain ⟨wh, nm, ⟨kn, ko, kf, vo, vf⟩, ⟨bn, bf, bt, mn, mx⟩, ⟨fn, ft, fm, fk⟩, vt, vn, vs, tn⟩ := c
  obtain ⟨ao, lo1, co, q1⟩ := hc.1.sl
  obtain ⟨af, lf1, cf, q2⟩ := hc.2.sl
  simp only at q1 q2 hx ⊢
  subst q1 q2
  obtain ⟨W0, hW0⟩ : ∃ W0, W0 = w.alloc (.cells #[.int .i64 wh, .string (bs nm), .string (bs kn), .slice ao lo1 co, .slice af lf1 cf, .string (bs bn), .string (bs bf), .string (bs bt), .int .i64 mn, .int .i64 mx, .string (bs fn), .int .i64 ft, .bool fm, .bool fk, .int .i64 vt, .int .i64 vn, .string (bs vs), .string (bs tn)] 42) := ⟨_, rfl⟩
  have hB0 : Below w.heap.size w W0 := by rw [hW0]; exact b_alloc (Below.refl _ _) _
  have n0 := heap_alloc_new w (.cells #[.int .i64 wh, .string (bs nm), .string (bs kn), .slice ao lo1 co, .slice af lf1 cf, .string (bs bn), .string (bs bf), .string (bs bt), .int .i64 mn, .int .i64 mx, .string (bs fn), .int .i64 ft, .bool fm, .bool fk, .int .i64 vt, .int .i64 vn, .string (bs vs), .string (bs tn)] 42)
  rw [← hW0] at n0
  have cow : Calls Tryd.prog 54 #[.pointer (some ⟨p, 0, none⟩), (⟨wh, nm, ⟨kn, ko, kf, .slice ao lo1 co, .slice af lf1 cf⟩, ⟨bn, bf, bt, mn, mx⟩, ⟨fn, ft, fm, fk⟩, vt, vn, vs, tn⟩ : Ch).one] W0 fun e w' => e = .returned (.tuple #[.pointer none, .int .i64 0, .iface 48 (.int .i64 5)]) ∧ Below W0.heap.size W0 w' := by
    by_cases hi : idxK nm L 0 = -1
    · exact ownField_none (h.on hB0) hn _ (hc.on hB0) hi
    · obtain ⟨j, q, hj, hat, hq, _⟩ := nmAt_has hi
      have hf : fnd fn q.fs = false := by
        unfold e4 at hx
        rw [if_neg hi, fdsAt_eq hat hq] at hx
        cases hb : fnd fn q.fs
        · rfl
        · rw [hb] at hx; exact absurd hx (by decide)
      obtain ⟨vk, vb, hp, hX, hK, hA, hT⟩ := h.on hB0
      obtain ⟨gk, cp, rfl⟩ := hK.at (Nat.lt_of_le_of_lt (Nat.zero_le _) (List.getElem?_eq_some_iff.1 hq).1)
      have := ownField_some (B := B) hp hX hK hn hG ⟨wh, nm, ⟨kn, ko, kf, .slice ao lo1 co, .slice af lf1 cf⟩, ⟨bn, bf, bt, mn, mx⟩, ⟨fn, ft, fm, fk⟩, vt, vn, vs, tn⟩ (hc.on hB0) hj hq
      simp only [hf] at this
      exact this
  dsimp only [Ch.one] at cow
  have HB0 := Lib.hid hB0
  have HN := Lib.hid n0
  clear h hx n0 hB0 hG
  go_enter Tryd.func27, Tryd.ntmps27
  go_upto_region 1 with fail
  rw [← hW0]
  clear hW0
  go_wp2_with (first | (refine wpList_load_row rfl 42 (.tmp 3) rfl w.heap.size rfl 42 _ (0, 0) _ HN.out Tryd.underlying42 rfl info37 ?_) | (go_at_call 54; refine cow.mono ?_; rintro e w1 ⟨rfl, hB1⟩))
  go_ret
  exact ⟨rfl, on1K HB0.out hB1 (Nat.le_refl _)⟩
set_option maxHeartbeats 8000000 in
set_option maxRecDepth 100000 in
theorem dropField_yes {w : World} {base p : Nat} {L : List Kd} {B : List Bd} (h : OSc w base p L B) (hbase : base ≤ w.heap.size) (hn : L.length ≤ 12) (hG : Good L) (c : Ch) (hc : ChIs w c) (hx : e4 L c.nm c.fd.nm = 0) :
    Calls Tryd.prog 27 #[.pointer (some ⟨p, 0, none⟩), c.one] w fun e w' => e = .returned (errV 0) ∧ (∃ M, OSc w' base p M B ∧ M.map kq3 = (setFs L c.nm ((fdsAt L c.nm).eraseIdx (lo c.fd.nm (fdsAt L c.nm)))).map kq3) ∧ Below base w w' := by
  obtain ⟨wh, nm, ⟨kn, ko, kf, vo, vf⟩, ⟨bn, bf, bt, mn, mx⟩, ⟨fn, ft, fm, fk⟩, vt, vn, vs, tn⟩ := c
  obtain ⟨ao, lo1, co, q1⟩ := hc.1.sl
  obtain ⟨af, lf1, cf, q2⟩ := hc.2.sl
  simp only at q1 q2 hx ⊢
  subst q1 q2
  obtain ⟨W0, hW0⟩ : ∃ W0, W0 = w.alloc (.cells #[.int .i64 wh, .string (bs nm), .string (bs kn), .slice ao lo1 co, .slice af lf1 cf, .string (bs bn), .string (bs bf), .string (bs bt), .int .i64 mn, .int .i64 mx, .string (bs fn), .int .i64 ft, .bool fm, .bool fk, .int .i64 vt, .int .i64 vn, .string (bs vs), .string (bs tn)] 42) := ⟨_, rfl⟩
  have hB0 : Below w.heap.size w W0 := by rw [hW0]; exact b_alloc (Below.refl _ _) _
  have n0 := heap_alloc_new w (.cells #[.int .i64 wh, .string (bs nm), .string (bs kn), .slice ao lo1 co, .slice af lf1 cf, .string (bs bn), .string (bs bf), .string (bs bt), .int .i64 mn, .int .i64 mx, .string (bs fn), .int .i64 ft, .bool fm, .bool fk, .int .i64 vt, .int .i64 vn, .string (bs vs), .string (bs tn)] 42)
  rw [← hW0] at n0
  have hi : ¬ idxK nm L 0 = -1 := fun e => by unfold e4 at hx; rw [if_pos e] at hx; exact absurd hx (by decide)
  obtain ⟨j, q, hj, hat, hq, _⟩ := nmAt_has hi
  have hf : fnd fn q.fs = true := by
    unfold e4 at hx
    rw [if_neg hi, fdsAt_eq hat hq] at hx
    cases hb : fnd fn q.fs
    · rw [hb] at hx; exact absurd hx (by decide)
    · rfl
  obtain ⟨vk, vb, hp, hX, hK, hA, hT⟩ := h.on hB0
  obtain ⟨gk, cp, rfl⟩ := hK.at (Nat.lt_of_le_of_lt (Nat.zero_le _) (List.getElem?_eq_some_iff.1 hq).1)
  have cow := ownField_some (B := B) hp hX hK hn hG ⟨wh, nm, ⟨kn, ko, kf, .slice ao lo1 co, .slice af lf1 cf⟩, ⟨bn, bf, bt, mn, mx⟩, ⟨fn, ft, fm, fk⟩, vt, vn, vs, tn⟩ (hc.on hB0) hj hq
  simp only [hf] at cow
  have cow : Calls Tryd.prog 54 #[.pointer (some ⟨p, 0, none⟩), (⟨wh, nm, ⟨kn, ko, kf, .slice ao lo1 co, .slice af lf1 cf⟩, ⟨bn, bf, bt, mn, mx⟩, ⟨fn, ft, fm, fk⟩, vt, vn, vs, tn⟩ : Ch).one] W0 fun e w' => e = .returned (.tuple #[.pointer (some ⟨gk, j * 3, none⟩), .int .i64 (lo fn q.fs), .nilIface]) ∧ Below W0.heap.size W0 w' := cow
  dsimp only [Ch.one] at cow
  have hml := fnd_lt hf
  have h8 := (hG.srt q (List.mem_of_getElem? hq)).2
  have hFq := (hK.2 q (List.mem_of_getElem? hq)).2
  obtain ⟨aq, cq, eq1⟩ := own_slice hFq
  rw [fdsAt_eq hat hq]
  have HD : Hid (∀ W, Below W0.heap.size W0 W → W.cell? ⟨gk, j * 3 + 2, none⟩ = some (.slice aq q.fs.length cq) ∧ Calls Tryd.prog 55 #[.slice aq q.fs.length cq, .int .i64 (lo fn q.fs), .int .i64 ((lo fn q.fs : Int) + 1)] W fun e w' => ∃ v', e = .returned v' ∧ w'.ownsRow base 38 4 v' (q.fs.eraseIdx (lo fn q.fs)).length (cellsF (q.fs.eraseIdx (lo fn q.fs))) ∧ (w'.cell? ⟨gk, j * 3 + 2, none⟩ = some (.slice aq q.fs.length cq) ∧ w'.frozen? ⟨gk, j * 3 + 2, none⟩ = false) ∧ OSc (w'.setCell ⟨gk, j * 3 + 2, none⟩ v') base p (L.set j ⟨q.nm, q.of, q.fs.eraseIdx (lo fn q.fs), q.vo, v'⟩) B ∧ Below base w (w'.setCell ⟨gk, j * 3 + 2, none⟩ v')) := fun W hb => by
    have hkw := hK.kt (.of_below hb) (.of_below hb) (.of_below hb)
    have hFw := (hkw.2 q (List.mem_of_getElem? hq)).2
    have hc2 := hkw.cell2 hq
    rw [eq1] at hc2
    refine ⟨hc2, ?_⟩
    have cd := deleteF_any hFw (fd_one q.fs) (by omega) (lo fn q.fs) hml
    rw [eq1] at cd
    refine cd.mono ?_
    rintro e w' ⟨v', rfl, h2, h3, h4⟩
    have hbw := on1K hB0 hb (Nat.le_refl _)
    obtain ⟨r1, r2, r3⟩ := osc_setF hp ((hb.block p (Array.getElem?_eq_some_iff.1 hX).1).trans hX) hkw hA (own_kt hT (.of_below hb)) (Nat.le_trans hbase hbw.size) hq (by rw [eq1]; exact h3) h2 (.inl (by rw [eq1]; exact h4))
    rw [eq1] at r1
    exact ⟨v', rfl, h2, r1, r2, (hbw.mono hbase).trans r3⟩
  have HE : Hid (∀ v', (L.set j ⟨q.nm, q.of, q.fs.eraseIdx (lo fn q.fs), q.vo, v'⟩).map kq3 = (setFs L nm (q.fs.eraseIdx (lo fn q.fs))).map kq3) := fun v' => setFs_kq hat hq _ v'
  have HN := Lib.hid n0
  have hw1 : IntKind.i64.wrap ((lo fn q.fs : Int) + 1) = (lo fn q.fs : Int) + 1 := by rw [IntKind.wrap_i64]; omega
  have hm8 : lo fn q.fs < 8 := by omega
  clear hX hK hA hT hFq h hx n0 hB0 hG hj hat hq hf hi hml h8 hp eq1
  go_enter Tryd.func27, Tryd.ntmps27
  go_upto_region 1 with fail
  rw [← hW0]
  clear hW0
  go_wp2_with (first | (refine wpList_load_row rfl 42 (.tmp 3) rfl w.heap.size rfl 42 _ (0, 0) _ HN.out Tryd.underlying42 rfl info37 ?_) | (go_at_call 54; refine cow.mono ?_; rintro e w1 ⟨rfl, hB1⟩; obtain ⟨g0, g1⟩ := HD.out w1 hB1) | (go_at_call 55; refine g1.mono ?_; rintro e w2 ⟨v2, rfl, ho2, ⟨z0, z1⟩, z2⟩; obtain ⟨a2, c2, rfl⟩ := own_slice ho2; have HZ := Lib.hid z2; clear z2 ho2))
  go_ret
  exact ⟨rfl, ⟨_, HZ.out.1, HE.out _⟩, HZ.out.2⟩
end Go.Proofs.YtkmkhadacppdnaaDoor
