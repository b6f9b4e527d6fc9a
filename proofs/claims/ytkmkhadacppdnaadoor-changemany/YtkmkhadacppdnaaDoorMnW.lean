/-
  The walk of the law ChangeMany.
-/
import Derived.Test.YtkmkhadacppdnaaDoorMnM
namespace Go.Proofs.YtkmkhadacppdnaaDoor
open Go.RowKit
set_option linter.unusedVariables false
set_option linter.unusedSimpArgs false

set_option maxHeartbeats 16000000 in
set_option maxRecDepth 100000 in
theorem many_any (n : Int) (w : World) (hg : Hnd w) : Calls Tryd.prog 3 #[.int .i64 n] w fun e w' => e = .returned (.bool true) ∧ Below w.heap.size w w' := by
  by_cases hn0 : n < 0
  · go_enter Tryd.func3, Tryd.ntmps3
    go_wp2
    go_ret
    exact ⟨rfl, Below.refl _ _⟩
  by_cases hn15 : 15 < n
  · go_enter Tryd.func3, Tryd.ntmps3
    go_wp2
    go_ret
    exact ⟨rfl, Below.refl _ _⟩
  obtain ⟨m, rfl⟩ : ∃ m : Nat, n = m := ⟨n.toNat, by omega⟩
  have hm15 : m ≤ 15 := by omega
  have HG : Hid (∀ W, Below w.heap.size w W → Hnd W) := fun W h => (h.cell (p := ⟨0, 0, none⟩) (World.block_lt_of_cell? w _ hg)).trans hg
  have hI0 : MnI w 0 (w.alloc (.cells #[.slice none 0 0, .slice none 0 0] 25)) := ⟨_, _, [], heap_alloc_new w _, rfl, ⟨World.ownsRow_nil _ _ _ _, fun k hk => by cases hk⟩, World.ownsRow_nil _ _ _ _, b_alloc (Below.refl _ _) _⟩
  have HI0 := Lib.hid hI0
  clear hI0 hg
  go_enter Tryd.func3, Tryd.ntmps3
  go_wp2
  go_loopw [4] (fun i wr => ∃ k : Nat, k ≤ m ∧ i = .int .i64 k ∧ MnI w (min k 12) wr) (fun i _ => m - (intOf i).toNat)
  case atStart => exact ⟨0, Nat.zero_le _, rfl, by rw [show min 0 12 = 0 from rfl]; exact HI0.out⟩
  case round =>
    obtain ⟨k, hk, rfl, hI⟩ := hrel
    by_cases hlt : k < m
    · have HI := Lib.hid hI
      have hki : (k : Int) < (m : Int) := by omega
      obtain ⟨uk, ub, M, m1, m2, m3, m4, m5⟩ := hI
      obtain ⟨a5, c5, rfl⟩ := own_slice m3.1
      obtain ⟨a6, c6, e6⟩ := own_slice m4
      replace e6 : ub = .slice a6 0 c6 := e6
      subst e6
      have d0 : wr.cell? ⟨w.heap.size, 0, none⟩ = some (.slice a5 M.length c5) := cell_at m1 rfl
      have d1 : wr.cell? ⟨w.heap.size, 1, none⟩ = some (.slice a6 0 c6) := cell_at m1 rfl
      have hsl : w.heap.size < wr.heap.size := (Array.getElem?_eq_some_iff.1 m1).1
      have HX : Hid (∀ W, Below wr.heap.size wr W → W.cell? ⟨w.heap.size, 0, none⟩ = some (.slice a5 M.length c5) ∧ W.cell? ⟨w.heap.size, 1, none⟩ = some (.slice a6 0 c6) ∧ (∀ o, (W.alloc o).cell? ⟨w.heap.size, 0, none⟩ = some (.slice a5 M.length c5)) ∧ (∀ o, (W.alloc o).cell? ⟨w.heap.size, 1, none⟩ = some (.slice a6 0 c6))) := fun W hb => ⟨(hb.cell (p := ⟨w.heap.size, 0, none⟩) hsl).trans d0, (hb.cell (p := ⟨w.heap.size, 1, none⟩) hsl).trans d1, fun o => ((b_alloc hb o).cell (p := ⟨w.heap.size, 0, none⟩) hsl).trans d0, fun o => ((b_alloc hb o).cell (p := ⟨w.heap.size, 1, none⟩) hsl).trans d1⟩
      have q0 : ∀ o, (wr.alloc o).cell? ⟨w.heap.size, 0, none⟩ = some (.slice a5 M.length c5) := (HX.out wr (Below.refl _ _)).2.2.1
      have q1 : ∀ o, (wr.alloc o).cell? ⟨w.heap.size, 1, none⟩ = some (.slice a6 0 c6) := (HX.out wr (Below.refl _ _)).2.2.2
      have hn1 : ¬ w.heap.size = wr.heap.size := by omega
      have HBw := Lib.hid m5
      have cl := letters_any k (by omega)
      by_cases h12 : k < 12
      · have hmk : min k 12 = k := by omega
        have hmin : min (k + 1) 12 = k + 1 := by omega
        rw [hmk] at m2 HI
        have hk12 : (k : Int) < 12 := by omega
        have hk12' : ¬ (12 : Int) ≤ (k : Int) := by omega
        have HD : Hid (∀ W, Below wr.heap.size wr W → Calls Tryd.prog 4 #[.agg #[.slice a5 M.length c5, .slice a6 0 c6], .agg #[.int .i64 1, .string ⟨#[]⟩, .string (bs (nmL k)), .slice none 0 0, .slice none 0 0, .string ⟨#[]⟩, .string ⟨#[]⟩, .string ⟨#[]⟩, .int .i64 0, .int .i64 0, .string ⟨#[]⟩, .int .i64 0, .bool false, .bool false, .int .i64 0, .int .i64 0, .string ⟨#[]⟩, .string ⟨#[]⟩]] W fun e w' => ∃ a7 c7 a8 c8, ∃ M7 : List Kd, e = .returned (.tuple #[.agg #[.slice a7 M7.length c7, .slice a8 0 c8], .nilIface]) ∧ M7.map kq3 = (rowM (k + 1)).map kq3 ∧ OwnKs w' W.heap.size (.slice a7 M7.length c7) M7 ∧ OwnBs w' W.heap.size (.slice a8 0 c8) [] ∧ Below W.heap.size W w') := fun W hb => mn_do (w := w) (m := k) (by omega) m2 m3 m4 (addC k) (fun W => ⟨.inl ⟨none, 0, rfl, rfl, by decide, fun _ => rfl⟩, .inl ⟨none, 0, rfl, rfl, by decide, fun _ => rfl⟩⟩) ⟨⟨by show (2 : Nat) ≤ maxLen; decide, fun f hf => by cases hf⟩, ⟨Nat.zero_le _, Nat.zero_le _⟩, Nat.zero_le _, Nat.zero_le _, Nat.zero_le _, Nat.zero_le _⟩ (add_ok k h12) W hb
        clear m1 m2 m3 m4 m5
        go_upto_region 7 with fail
        go_cut [5, 6] (fun s5 s6 wx => MnC wr (rowM (k + 1)) (.nilIface) s5 s6 wx)
        case first =>
          go_region_law (first | (go_simp; go_at_call 5; refine (cl _).mono ?_; rintro e W1 ⟨rfl, hB1'⟩; have hb1 : Below wr.heap.size wr W1 := on1K (by first | exact (Below.refl _ wr).drew | exact b_alloc (Below.refl _ wr).drew _) hB1' (Nat.le_refl _); obtain ⟨x0, x1, x2, x3⟩ := HX.out W1 hb1; (try (have ka : W1.heap[wr.heap.size]? = some (.cells #[.slice none 0 0, .slice none 0 0] 25 (0, 0)) := (hB1'.block _ (by simp)).trans (heap_alloc_new wr.drew _))); clear hB1') | (go_simp; go_at_call 4; refine (HD.out _ (by first | exact hb1 | exact b_alloc hb1 _)).mono ?_; rintro e W2 ⟨a7, c7, a8, c8, M7, rfl, hM7, hk7, ht7, hB2'⟩; have hb2 : Hid (Below wr.heap.size wr W2) := on1K (by first | exact hb1 | exact b_alloc hb1 _) hB2' (Nat.le_refl _); (try (have kb : W2.heap[W1.heap.size]? = some (.cells #[.slice none 0 0, .slice none 0 0] 25 (0, 0)) := (hB2'.block _ (by simp)).trans (heap_alloc_new W1 _); have y5 : W2.cell? ⟨W1.heap.size, 0, none⟩ = some (.slice none 0 0) := cell_at kb rfl; have y6 : W2.cell? ⟨W1.heap.size, 1, none⟩ = some (.slice none 0 0) := cell_at kb rfl; have f5 : W2.frozen? ⟨W1.heap.size, 0, none⟩ = false := frz_at kb; have f6 : W2.frozen? ⟨W1.heap.size, 1, none⟩ = false := frz_at kb; replace kb := Lib.hid kb)); (try (have kc : W2.heap[wr.heap.size]? = some (.cells #[.slice none 0 0, .slice none 0 0] 25 (0, 0)) := (hB2'.block _ (Array.getElem?_eq_some_iff.1 ka).1).trans ka; have y7 : W2.cell? ⟨wr.heap.size, 0, none⟩ = some (.slice none 0 0) := cell_at kc rfl; have y8 : W2.cell? ⟨wr.heap.size, 1, none⟩ = some (.slice none 0 0) := cell_at kc rfl; have f7 : W2.frozen? ⟨wr.heap.size, 0, none⟩ = false := frz_at kc; have f8 : W2.frozen? ⟨wr.heap.size, 1, none⟩ = false := frz_at kc; replace kc := Lib.hid kc)); have HO := Lib.hid (And.intro hM7 (And.intro hk7 ht7)); clear hM7 hk7 ht7 hB2'))
          all_goals
            go_wp2
            go_meet
            first
              | exact mnC_alloc hb2.out HO.out.2.1 HO.out.2.2 HO.out.1
              | exact mnC_set hb1.size kb.out hb2.out HO.out.2.1 HO.out.2.2 HO.out.1
              | exact mnC_set (Nat.le_refl _) kc.out hb2.out HO.out.2.1 HO.out.2.2 HO.out.1
        case rest =>
        have hcB : Hid (Below wr.heap.size wr wc) := by obtain ⟨_, _, _, _, _, _, _, _, _, _, _, h⟩ := hcut; exact h
        obtain ⟨p2, un, ut, a, b, rfl, rfl, z0, z1, ⟨a9, c9, rfl⟩, ⟨a10, c10, rfl⟩, _, t0, t1, f0, f1, HW, _⟩ := mnI_set HI.out hcut (n := k + 1) rfl
        have HW := Lib.hid HW
        have cE := error_gen 0 4 wc (HG.out wc (on1K HBw.out hcB.out (Nat.le_refl _)))
        clear hcut
        go_wp2_with (go_at_call 6; refine cE.mono ?_; rintro e w9 ⟨rfl, hB9⟩; obtain ⟨r0, r1, r2, r3, r4, r5, r6⟩ := HW.out w9 hB9; have HR6 := Lib.hid r6; clear r6)
        refine ⟨⟨k + 1, by omega, by go_num, ?_⟩, ?_⟩
        · rw [hmin]; exact HR6.out
        · simp [intOf]; omega

      · have hmk : min k 12 = 12 := by omega
        have hmin : min (k + 1) 12 = 12 := by omega
        rw [hmk] at m2 HI
        have hk12 : ¬ (k : Int) < 12 := by omega
        have hk12' : (12 : Int) ≤ (k : Int) := by omega
        have HD : Hid (∀ W, Below wr.heap.size wr W → Calls Tryd.prog 4 #[.agg #[.slice a5 M.length c5, .slice a6 0 c6], .agg #[.int .i64 1, .string ⟨#[]⟩, .string (bs (nmL k)), .slice none 0 0, .slice none 0 0, .string ⟨#[]⟩, .string ⟨#[]⟩, .string ⟨#[]⟩, .int .i64 0, .int .i64 0, .string ⟨#[]⟩, .int .i64 0, .bool false, .bool false, .int .i64 0, .int .i64 0, .string ⟨#[]⟩, .string ⟨#[]⟩]] W fun e w' => ∃ a7 c7 a8 c8, ∃ M7 : List Kd, e = .returned (.tuple #[.agg #[.slice a7 M7.length c7, .slice a8 0 c8], .iface 48 (.int .i64 4)]) ∧ M7.map kq3 = (rowM 0).map kq3 ∧ OwnKs w' W.heap.size (.slice a7 M7.length c7) M7 ∧ OwnBs w' W.heap.size (.slice a8 0 c8) [] ∧ Below W.heap.size W w') := fun W hb => mn_do (w := w) (m := 12) (by omega) m2 m3 m4 (addC k) (fun W => ⟨.inl ⟨none, 0, rfl, rfl, by decide, fun _ => rfl⟩, .inl ⟨none, 0, rfl, rfl, by decide, fun _ => rfl⟩⟩) ⟨⟨by show (2 : Nat) ≤ maxLen; decide, fun f hf => by cases hf⟩, ⟨Nat.zero_le _, Nat.zero_le _⟩, Nat.zero_le _, Nat.zero_le _, Nat.zero_le _, Nat.zero_le _⟩ (add_no k (by omega) (by omega)) W hb
        clear m1 m2 m3 m4 m5
        go_upto_region 7 with fail
        go_cut [5, 6] (fun s5 s6 wx => MnC wr (rowM 0) (.iface 48 (.int .i64 4)) s5 s6 wx)
        case first =>
          go_region_law (first | (go_simp; go_at_call 5; refine (cl _).mono ?_; rintro e W1 ⟨rfl, hB1'⟩; have hb1 : Below wr.heap.size wr W1 := on1K (by first | exact (Below.refl _ wr).drew | exact b_alloc (Below.refl _ wr).drew _) hB1' (Nat.le_refl _); obtain ⟨x0, x1, x2, x3⟩ := HX.out W1 hb1; (try (have ka : W1.heap[wr.heap.size]? = some (.cells #[.slice none 0 0, .slice none 0 0] 25 (0, 0)) := (hB1'.block _ (by simp)).trans (heap_alloc_new wr.drew _))); clear hB1') | (go_simp; go_at_call 4; refine (HD.out _ (by first | exact hb1 | exact b_alloc hb1 _)).mono ?_; rintro e W2 ⟨a7, c7, a8, c8, M7, rfl, hM7, hk7, ht7, hB2'⟩; have hb2 : Hid (Below wr.heap.size wr W2) := on1K (by first | exact hb1 | exact b_alloc hb1 _) hB2' (Nat.le_refl _); (try (have kb : W2.heap[W1.heap.size]? = some (.cells #[.slice none 0 0, .slice none 0 0] 25 (0, 0)) := (hB2'.block _ (by simp)).trans (heap_alloc_new W1 _); have y5 : W2.cell? ⟨W1.heap.size, 0, none⟩ = some (.slice none 0 0) := cell_at kb rfl; have y6 : W2.cell? ⟨W1.heap.size, 1, none⟩ = some (.slice none 0 0) := cell_at kb rfl; have f5 : W2.frozen? ⟨W1.heap.size, 0, none⟩ = false := frz_at kb; have f6 : W2.frozen? ⟨W1.heap.size, 1, none⟩ = false := frz_at kb; replace kb := Lib.hid kb)); (try (have kc : W2.heap[wr.heap.size]? = some (.cells #[.slice none 0 0, .slice none 0 0] 25 (0, 0)) := (hB2'.block _ (Array.getElem?_eq_some_iff.1 ka).1).trans ka; have y7 : W2.cell? ⟨wr.heap.size, 0, none⟩ = some (.slice none 0 0) := cell_at kc rfl; have y8 : W2.cell? ⟨wr.heap.size, 1, none⟩ = some (.slice none 0 0) := cell_at kc rfl; have f7 : W2.frozen? ⟨wr.heap.size, 0, none⟩ = false := frz_at kc; have f8 : W2.frozen? ⟨wr.heap.size, 1, none⟩ = false := frz_at kc; replace kc := Lib.hid kc)); have HO := Lib.hid (And.intro hM7 (And.intro hk7 ht7)); clear hM7 hk7 ht7 hB2'))
          all_goals
            go_wp2
            go_meet
            first
              | exact mnC_alloc hb2.out HO.out.2.1 HO.out.2.2 HO.out.1
              | exact mnC_set hb1.size kb.out hb2.out HO.out.2.1 HO.out.2.2 HO.out.1
              | exact mnC_set (Nat.le_refl _) kc.out hb2.out HO.out.2.1 HO.out.2.2 HO.out.1
        case rest =>
        have hcB : Hid (Below wr.heap.size wr wc) := by obtain ⟨_, _, _, _, _, _, _, _, _, _, _, h⟩ := hcut; exact h
        obtain ⟨p2, un, ut, a, b, rfl, rfl, z0, z1, ⟨a9, c9, rfl⟩, ⟨a10, c10, rfl⟩, _, t0, t1, f0, f1, _, HW⟩ := mnI_set HI.out hcut (n := 0) rfl
        have HW := Lib.hid HW
        have cE := error_gen 4 4 wc (HG.out wc (on1K HBw.out hcB.out (Nat.le_refl _)))
        clear hcut
        go_wp2_with (go_at_call 6; refine cE.mono ?_; rintro e w9 ⟨rfl, hB9⟩; have HR6 := Lib.hid (HW.out w9 hB9))
        refine ⟨⟨k + 1, by omega, by go_num, ?_⟩, ?_⟩
        · rw [hmin]; exact HR6.out
        · simp [intOf]; omega
    · have hkm : k = m := by omega
      subst hkm
      have hki : ¬ (k : Int) < (k : Int) := by omega
      obtain ⟨q, hq⟩ : ∃ q, q = min k 12 := ⟨_, rfl⟩
      have hq12 : q ≤ 12 := by omega
      rw [← hq] at hI
      clear hq
      have HI := Lib.hid hI
      obtain ⟨uk, ub, M, m1, m2, m3, m4, m5⟩ := hI
      obtain ⟨a5, c5, rfl⟩ := own_slice m3.1
      have hl : M.length = q := by have := congrArg List.length m2; simpa [rowM] using this
      rw [hl] at m1
      have d0 : wr.cell? ⟨w.heap.size, 0, none⟩ = some (.slice a5 q c5) := cell_at m1 rfl
      clear m1 m2 m3 m4 m5 hl
      rename World => W1
      go_wp2
      go_loopw [8] (fun i wr => ∃ j : Nat, j ≤ 12 ∧ i = .int .i64 ((j : Int) - 1) ∧ MnI w j wr) (fun i _ => (intOf i + 1).toNat)
      case atStart => exact ⟨q, hq12, by first | rfl | go_num, HI.out⟩
      case round =>
        obtain ⟨j, hj, rfl, hI⟩ := hrel
        cases j with
        | zero =>
          obtain ⟨uk, ub, M, m1, m2, m3, m4, m5⟩ := hI
          obtain ⟨a5, c5, rfl⟩ := own_slice m3.1
          have hl : M.length = 0 := by have := congrArg List.length m2; simpa [rowM] using this
          rw [hl] at m1
          have d0 : wr.cell? ⟨w.heap.size, 0, none⟩ = some (.slice a5 0 c5) := cell_at m1 rfl
          have HB := Lib.hid m5
          clear m1 m2 m3 m4 m5 hl
          go_wp2
          go_ret
          exact ⟨rfl, HB.out⟩
        | succ j =>
          have ej : (((j + 1 : Nat) : Int) - 1) = (j : Int) := by omega
          rw [ej]
          clear ej
          have HI := Lib.hid hI
          obtain ⟨uk, ub, M, m1, m2, m3, m4, m5⟩ := hI
          have hl : M.length = j + 1 := by have := congrArg List.length m2; simpa [rowM] using this
          obtain ⟨g, c5, rfl⟩ := m3.at (by omega)
          obtain ⟨a6, c6, e6⟩ := own_slice m4
          replace e6 : ub = .slice a6 0 c6 := e6
          subst e6
          obtain ⟨kj, hkj⟩ : ∃ kj, M[j]? = some kj := ⟨M[j], by simp [hl]⟩
          have hnj : kj.nm = nmL j := by
            have h0 := congrArg (fun l => (l[j]?).map (fun q => q.1)) m2
            simp only [List.getElem?_map, hkj, rowM_at (show j < j + 1 by omega)] at h0
            simpa [kq3, kM] using h0
          have d0 : wr.cell? ⟨w.heap.size, 0, none⟩ = some (.slice (some ⟨g, 0, none⟩) M.length c5) := cell_at m1 rfl
          have d1 : wr.cell? ⟨w.heap.size, 1, none⟩ = some (.slice a6 0 c6) := cell_at m1 rfl
          have d2 : wr.cell? ⟨g, j * 3, none⟩ = some (.string (bs (nmL j))) := by
            have h1 := World.ownsRow.cells m3.1 (g := g) rfl (j * 3) (.string (bs kj.nm)) ((flatK kd_len M j kj 0 hkj (by omega)).trans rfl)
            rw [Addr.add_lit, Nat.zero_add, hnj] at h1
            exact h1
          have hsl : w.heap.size < wr.heap.size := (Array.getElem?_eq_some_iff.1 m1).1
          have hgl : g < wr.heap.size := (m3.1.lt g rfl).2
          have q0 : ∀ o, (wr.alloc o).cell? ⟨w.heap.size, 0, none⟩ = some (.slice (some ⟨g, 0, none⟩) M.length c5) := fun o => ((b_alloc (Below.refl _ wr) o).cell (p := ⟨w.heap.size, 0, none⟩) hsl).trans d0
          have q1 : ∀ o, (wr.alloc o).cell? ⟨w.heap.size, 1, none⟩ = some (.slice a6 0 c6) := fun o => ((b_alloc (Below.refl _ wr) o).cell (p := ⟨w.heap.size, 1, none⟩) hsl).trans d1
          have q2 : ∀ o, (wr.alloc o).cell? ⟨g, j * 3, none⟩ = some (.string (bs (nmL j))) := fun o => ((b_alloc (Below.refl _ wr) o).cell (p := ⟨g, j * 3, none⟩) hgl).trans d2
          have hn1 : ¬ w.heap.size = wr.heap.size := by omega
          have hn2 : ¬ g = wr.heap.size := by omega
          have hji : (j : Int) < (M.length : Int) := by omega
          have hj0 : (0 : Int) ≤ (j : Int) := by omega
          have HBw := Lib.hid m5
          have HD : Hid (∀ W, Below wr.heap.size wr W → Calls Tryd.prog 4 #[.agg #[.slice (some ⟨g, 0, none⟩) M.length c5, .slice a6 0 c6], .agg #[.int .i64 2, .string (bs (nmL j)), .string ⟨#[]⟩, .slice none 0 0, .slice none 0 0, .string ⟨#[]⟩, .string ⟨#[]⟩, .string ⟨#[]⟩, .int .i64 0, .int .i64 0, .string ⟨#[]⟩, .int .i64 0, .bool false, .bool false, .int .i64 0, .int .i64 0, .string ⟨#[]⟩, .string ⟨#[]⟩]] W fun e w' => ∃ a7 c7 a8 c8, ∃ M7 : List Kd, e = .returned (.tuple #[.agg #[.slice a7 M7.length c7, .slice a8 0 c8], .nilIface]) ∧ M7.map kq3 = (rowM j).map kq3 ∧ OwnKs w' W.heap.size (.slice a7 M7.length c7) M7 ∧ OwnBs w' W.heap.size (.slice a8 0 c8) [] ∧ Below W.heap.size W w') := fun W hb => mn_do (w := w) (m := j + 1) hj m2 m3 m4 (drpC j) (fun W => ⟨.inl ⟨none, 0, rfl, rfl, by decide, fun _ => rfl⟩, .inl ⟨none, 0, rfl, rfl, by decide, fun _ => rfl⟩⟩) ⟨⟨Nat.zero_le _, fun f hf => by cases hf⟩, ⟨Nat.zero_le _, Nat.zero_le _⟩, Nat.zero_le _, Nat.zero_le _, Nat.zero_le _, Nat.zero_le _⟩ (drp_ok j (by omega)) W hb
          clear m1 m2 m3 m4 m5 hl hkj hnj
          go_upto_region 16 with fail
          go_cut [9, 10] (fun s5 s6 wx => MnC wr (rowM j) .nilIface s5 s6 wx)
          case first =>
            go_region_law (first | (go_simp; go_at_call 4; refine (HD.out _ (by first | exact (Below.refl _ wr).drew | exact b_alloc (Below.refl _ wr).drew _)).mono ?_; rintro e W2 ⟨a7, c7, a8, c8, M7, rfl, hM7, hk7, ht7, hB2'⟩; have hb2 : Hid (Below wr.heap.size wr W2) := on1K (by first | exact (Below.refl _ wr).drew | exact b_alloc (Below.refl _ wr).drew _) hB2' (Nat.le_refl _); (try (have kb : W2.heap[wr.heap.size]? = some (.cells #[.slice none 0 0, .slice none 0 0] 25 (0, 0)) := (hB2'.block _ (by simp)).trans (heap_alloc_new wr.drew _); have y5 : W2.cell? ⟨wr.heap.size, 0, none⟩ = some (.slice none 0 0) := cell_at kb rfl; have y6 : W2.cell? ⟨wr.heap.size, 1, none⟩ = some (.slice none 0 0) := cell_at kb rfl; have f5 : W2.frozen? ⟨wr.heap.size, 0, none⟩ = false := frz_at kb; have f6 : W2.frozen? ⟨wr.heap.size, 1, none⟩ = false := frz_at kb; replace kb := Lib.hid kb)); have HO := Lib.hid (And.intro hM7 (And.intro hk7 ht7)); clear hM7 hk7 ht7 hB2'))
            all_goals
              go_wp2
              go_meet
              first
                | exact mnC_alloc hb2.out HO.out.2.1 HO.out.2.2 HO.out.1
                | exact mnC_set (Nat.le_refl _) kb.out hb2.out HO.out.2.1 HO.out.2.2 HO.out.1
          case rest =>
          obtain ⟨p2, un, ut, a, b, rfl, rfl, z0, z1, ⟨a9, c9, rfl⟩, ⟨a10, c10, rfl⟩, _, t0, t1, f0, f1, HW, _⟩ := mnI_set HI.out hcut (n := j) rfl
          have HR6 := Lib.hid (HW _ (Below.refl _ _)).2.2.2.2.2.2
          clear hcut HW d0 d1 d2 q0 q1 q2 HD
          go_wp2
          refine ⟨⟨j, by omega, by first | rfl | go_num, HR6.out⟩, ?_⟩
          · simp [intOf]
            try omega
end Go.Proofs.YtkmkhadacppdnaaDoor
