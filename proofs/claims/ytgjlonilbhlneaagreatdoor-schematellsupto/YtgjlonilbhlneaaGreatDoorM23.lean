/-
  The walk of schema.Parse.
-/
import Derived.Test.YtgjlonilbhlneaaGreatDoorM22
import Derived.Test.YtgjlonilbhlneaaGreatDoorM12
import Derived.Deep.QuietTactic
import Derived.BigQuiet
import Derived.RangeFuncRecord
namespace Go.Proofs.YtgjlonilbhlneaaGreatDoor
open Go.RowKit Go.Shelf
attribute [local go_sem] Oper.semAt_some
set_option linter.unusedVariables false
set_option linter.unusedSimpArgs false

set_option maxHeartbeats 8000000 in
set_option maxRecDepth 100000 in
theorem parse_any (n : Nat) (hn : 9 ≤ n) (x : Nm) (hx : x.length ≤ 90000000) (w : World) (hE : EV w) :
    CallsIn Fence.wide n Tryz.prog 11 #[.string (bs x)] w (PaPost x w) := by
  have h1 : 1 ≤ n := by omega
  refine callsIn_of_wp_marks Tryz.func11 rfl trivial ?_ rfl
  simp only [Tryz.ntmps11, List.size_toArray, List.length_cons, List.length_nil, Nat.reduceAdd, Nat.reduceSub, Array.replicate_succ, Array.replicate_zero, List.push_toArray, List.append_toArray, List.nil_append, List.cons_append]
  have c34 := fun w' => callsIn_wide (n := n - 1) |>.2 (lines_any (bs x) w')
  gi_wp2_with (refine ⟨trivial, ?_⟩; gi_at_call 34; refine (c34 _).mono ?_; rintro e w' ⟨rfl, rfl⟩)
  obtain ⟨s, hs⟩ : ∃ s, s = w.heap.size := ⟨_, rfl⟩
  obtain ⟨W0, hW0⟩ : ∃ W0, ((((w.alloc (.cells #[.slice none 0 0, .slice none 0 0] 25)).alloc (.cells #[.int .i64 0] 3)).alloc (.cells #[.nilIface] 29)).alloc (.cells #[.slice none 0 0, .slice none 0 0] 25)).alloc (.cells #[.string (bs x)] 9) = W0 := ⟨_, rfl⟩
  have hz : W0.heap.size = s + 5 := by rw [← hW0, hs]; simp
  have hb4 : W0.heap[s + 4]? = some (.cells #[.string (bs x)] 9 (0, 0)) := by
    have := World.alloc_heap_new ((((w.alloc (.cells #[.slice none 0 0, .slice none 0 0] 25)).alloc (.cells #[.int .i64 0] 3)).alloc (.cells #[.nilIface] 29)).alloc (.cells #[.slice none 0 0, .slice none 0 0] 25)) (.cells #[.string (bs x)] 9)
    rw [hW0] at this; rw [hs]; simpa using this
  have hb3 : W0.heap[s + 3]? = some (.cells #[.slice none 0 0, .slice none 0 0] 25 (0, 0)) := by
    have := World.alloc_heap_new (((w.alloc (.cells #[.slice none 0 0, .slice none 0 0] 25)).alloc (.cells #[.int .i64 0] 3)).alloc (.cells #[.nilIface] 29)) (.cells #[.slice none 0 0, .slice none 0 0] 25)
    rw [← hW0, Below.heap_alloc _ _ _ (by simp [hs] <;> omega), hs]; simpa using this
  have hR0 : Res3 W0 s (.slice none 0 0) (.slice none 0 0) (.int .i64 0) .nilIface := by
    refine ⟨?_, ?_, ?_⟩
    · rw [← hW0, Below.heap_alloc _ _ _ (by simp [hs] <;> omega), Below.heap_alloc _ _ _ (by simp [hs] <;> omega), Below.heap_alloc _ _ _ (by simp [hs] <;> omega), Below.heap_alloc _ _ _ (by simp [hs] <;> omega), hs]
      exact World.alloc_heap_new w _
    · have := World.alloc_heap_new (w.alloc (.cells #[.slice none 0 0, .slice none 0 0] 25)) (.cells #[.int .i64 0] 3)
      rw [← hW0, Below.heap_alloc _ _ _ (by simp [hs] <;> omega), Below.heap_alloc _ _ _ (by simp [hs] <;> omega), Below.heap_alloc _ _ _ (by simp [hs] <;> omega), hs]
      simpa using this
    · have := World.alloc_heap_new ((w.alloc (.cells #[.slice none 0 0, .slice none 0 0] 25)).alloc (.cells #[.int .i64 0] 3)) (.cells #[.nilIface] 29)
      rw [← hW0, Below.heap_alloc _ _ _ (by simp [hs] <;> omega), Below.heap_alloc _ _ _ (by simp [hs] <;> omega), hs]
      simpa using this
  have hB0 : Below w.heap.size w W0 := by rw [← hW0]; exact b_alloc (b_alloc (b_alloc (b_alloc (b_alloc (Below.refl _ _) (by simp) _) (by simp) _) (by simp) _) (by simp) _) (by simp) _
  have HEA : Hid (∀ A, Oth (s + 3) W0 A → EV A) := fun A ho => hE.of fun b hb => (ho.block b (by omega)).trans (hB0.block b hb)
  have HBW : Hid (∀ A, Oth s W0 A → Below w.heap.size w A) := fun A ho => ⟨ho.os.trans hB0.os, ho.tape.trans hB0.tape, ho.output.trans hB0.output, Nat.le_trans hB0.size ho.size, fun b hb => (ho.block b (by omega)).trans (hB0.block b hb)⟩
  rw [hW0]
  rw [← hs]
  clear hs hW0 c34 hB0
  refine rangeC (w := W0) (k := fun r => s + 7 ≤ r ∧ r ≤ s + 11) (Kp := fun A B => ∀ b, s + 7 ≤ b → b ≤ s + 11 → B.heap[b]? = A.heap[b]?) (S := (· = numL (linesL x))) (Sp := (· <+: numL (linesL x))) (N := (linesL x).length) (encs := fun y : Nat × Nm => #[.int .i64 y.1, .string (bs y.2)]) (R := fun y A => y.2.length ≤ x.length ∧ s + 7 + 4 < A.heap.size) rfl h1 (gf := 53) (lb := #[.pointer (some ⟨s + 1 + 1 + 1 + 1, 0, none⟩)]) rfl trivial (enters_of Tryz.func53 (by kernel_rfl) rfl)
    (fun W1 hs1 hB1 => by
      rw [hz] at hs1
      have := linesI_seq (n - 1) (s + 4) (by omega) x (by omega) (fun A B => ∀ b, s + 7 ≤ b → b ≤ s + 11 → B.heap[b]? = A.heap[b]?) W1 (fun A B h b q1 q2 => h b (by omega) (by omega)) ((hB1.block _ (by omega)).trans hb4)
      rw [hs1] at this
      exact this)
    (fun y A o h => ⟨h.1, by rw [World.putObj_size]; exact h.2⟩)
    (by omega) (by omega) (fun h1 h2 b q1 q2 => (h2 b q1 q2).trans (h1 b q1 q2)) (fun A o' hlt b q1 q2 => World.putObj_heap_other (by omega)) (fun _ => rfl)
    (LnI s W0)
    (fun c pre A => c = .ret ∧ PrX s W0 pre A)
    (by have := lnI_abides (s := s) (w := W0) hz; rw [hz]; exact this)
    (fun c pre A B row hs hg hr => ⟨hs.1, prX_abides hz pre A B row hs.2 hg (fun r e => by have := hr r e; rw [hz] at this; exact this)⟩)
    ⟨[], [], rfl, .inl ⟨rfl, rfl, rfl, hb3⟩, rfl, rfl, rfl, Nat.le_refl _, fun _ _ => rfl⟩
    (fun y => { tmps := #[.string (bs x), undef, .pointer (some ⟨s, 0, none⟩), .pointer (some ⟨s + 1, 0, none⟩), .pointer (some ⟨s + 1 + 1, 0, none⟩), .pointer (some ⟨s + 1 + 1 + 1, 0, none⟩), .int .i64 y.1, .string (bs y.2), undef, undef, undef, undef, .string (bs x), .func (.func 53) #[] #[.pointer (some ⟨s + 1 + 1 + 1 + 1, 0, none⟩)], .int .i64 y.1, .string (bs y.2), undef, undef, undef, undef, undef, undef, undef, undef, undef, undef, undef, undef, undef, undef, undef, undef, undef, undef, undef, undef, undef, undef, undef, undef, undef], defers := [] }) ?assign ?body ?done ?stop
  case assign =>
    intro l2 y A K hK
    gi_wp2
    exact hK
  case body =>
    rintro l2 pre y A hlt ⟨L, B, hf, hst, ho⟩ hlen ⟨hyl, hAs⟩
    have hSS := lnSt_open hst (by omega)
    have hEA : EV A := HEA.out A ho
    cases hsf : Lib.hasSuffix y.2 [10]
    · have c35 := CallsIn.inRound l2 (callsIn_wide (n := n - 1 - 1 - 1) |>.2 (wordsOf_any y.2 A (by omega) hEA))
      rw [hsf] at c35
      have hls : lnStep (L.map kq, B) y.2 = none := by unfold lnStep; rw [hsf]; rfl
      have HD : Hid (∀ W1, Below A.heap.size A W1 → ((W1.cell? ⟨s, 0, none⟩ = some (.slice none 0 0) ∧ W1.cell? ⟨s, 1, none⟩ = some (.slice none 0 0) ∧ W1.cell? ⟨s + 1, 0, none⟩ = some (.int .i64 0) ∧ W1.cell? ⟨s + 1 + 1, 0, none⟩ = some .nilIface) ∧ W1.frozen? ⟨s, 0, none⟩ = false ∧ W1.frozen? ⟨s, 1, none⟩ = false ∧ W1.frozen? ⟨s + 1, 0, none⟩ = false ∧ W1.frozen? ⟨s + 1 + 1, 0, none⟩ = false) ∧ postC (s + 5) (fun A B => ∀ b, s + 7 ≤ b → b ≤ s + 11 → B.heap[b]? = A.heap[b]?) (LnI s W0) (fun c pre A => c = .ret ∧ PrX s W0 pre A) (pre ++ [y]) A .ret { tmps := #[], defers := [] } (put3 W1 s (.slice none 0 0) (.slice none 0 0) (.int .i64 y.1) (.iface 60 (.int .i64 2)))) := fun W1 hB1 => by
        have hNr := nr_below hB1 (s := s) (by omega)
        refine ⟨(res_oth hR0 (nr_oth hNr ho)).cells, (nr_put3 hNr).1, (nr_put3 hNr).2, rfl, body_ret hNr ho hR0 hf hls⟩
      clear hf hst ho hSS hEA hls hR0 hb3 hb4 HEA HBW
      gi_wp2_with (refine ⟨trivial, fun _ => (by omega), ?_⟩; refine c35.mono ?_; rintro e W1 ⟨v, rfl, hv, hB1⟩; obtain ⟨av, cv, rfl⟩ := isS_sl hv; clear hv; obtain ⟨⟨⟨d0, d1, d2, d3⟩, f0, f1, f2, f3⟩, hpo⟩ := HD.out W1 hB1; have HP := Lib.hid hpo; clear hpo)
      refine ⟨trivial, ?_⟩
      gi_wp2
      rw [hz]
      exact HP.out
    · obtain ⟨hk1, hk2⟩ := wordsL_ok (l := Lib.trimSuffix y.2 [10]) (Nat.le_trans (Lib.trimSuffix_le _ _) (by omega))
      have c35 := CallsIn.inRound l2 (callsIn_wide (n := n - 1 - 1 - 1) |>.2 (wordsOf_any y.2 A (by omega) hEA))
      rw [hsf] at c35
      cases hal : alStep (L.map kq) B (wordsL (Lib.trimSuffix y.2 [10])) with
      | none =>
        have hls : lnStep (L.map kq, B) y.2 = none := by unfold lnStep; rw [hsf, if_pos rfl]; exact hal
        have HA : Hid (∀ W1 v, Below A.heap.size A W1 → IsS W1 v (wordsL (Lib.trimSuffix y.2 [10])) → CallsIn (Fence.wide.inRound l2) (n - 1 - 1 - 1) Tryz.prog 36 #[.pointer (some ⟨s + 3, 0, none⟩), v] W1 (AlPost (s + 12) (s + 3) L B false W1)) := fun W1 v hB1 hv => by
          have := addLine_any (hSS.below hB1) hv (hEA.on hB1) hk2 hk1
          unfold AlAny at this
          rw [hal] at this
          exact CallsIn.inRound l2 (callsIn_wide (n := n - 1 - 1 - 1) |>.2 this)
        have HD : Hid (∀ W1 W2, Below A.heap.size A W1 → Fr (s + 12) (s + 3) W1 W2 → ((W2.cell? ⟨s, 0, none⟩ = some (.slice none 0 0) ∧ W2.cell? ⟨s, 1, none⟩ = some (.slice none 0 0) ∧ W2.cell? ⟨s + 1, 0, none⟩ = some (.int .i64 0) ∧ W2.cell? ⟨s + 1 + 1, 0, none⟩ = some .nilIface) ∧ W2.frozen? ⟨s, 0, none⟩ = false ∧ W2.frozen? ⟨s, 1, none⟩ = false ∧ W2.frozen? ⟨s + 1, 0, none⟩ = false ∧ W2.frozen? ⟨s + 1 + 1, 0, none⟩ = false) ∧ postC (s + 5) (fun A B => ∀ b, s + 7 ≤ b → b ≤ s + 11 → B.heap[b]? = A.heap[b]?) (LnI s W0) (fun c pre A => c = .ret ∧ PrX s W0 pre A) (pre ++ [y]) A .ret { tmps := #[], defers := [] } (put3 W2 s (.slice none 0 0) (.slice none 0 0) (.int .i64 y.1) (.iface 60 (.int .i64 2)))) := fun W1 W2 hB1 hFr => by
          have hNr := nr_fr (nr_below hB1 (s := s) (by omega)) (by omega) hFr
          exact ⟨(res_oth hR0 (nr_oth hNr ho)).cells, (nr_put3 hNr).1, (nr_put3 hNr).2, rfl, body_ret hNr ho hR0 hf hls⟩
        clear hf hst ho hSS hEA hls hR0 hb3 hb4 HEA HBW hk1 hk2 hal
        gi_wp2_with (first | (refine ⟨trivial, fun _ => (by omega), ?_⟩; refine c35.mono ?_; clear c35; rintro e W1 ⟨v, rfl, hv, hB1⟩; have c36 := HA.out W1 v hB1 hv; obtain ⟨av, cv, rfl⟩ := isS_sl hv; clear hv HA) | (refine ⟨trivial, fun _ => (by omega), ?_⟩; refine c36.mono ?_; clear c36; rintro e W2 ⟨rfl, _, hFr⟩; obtain ⟨⟨⟨d0, d1, d2, d3⟩, f0, f1, f2, f3⟩, hpo⟩ := HD.out W1 W2 hB1 hFr; have HP := Lib.hid hpo; clear hpo hFr HD))
        rw [hz]
        exact HP.out
      | some r =>
        obtain ⟨P', B'⟩ := r
        have hls : lnStep (L.map kq, B) y.2 = some (P', B') := by unfold lnStep; rw [hsf, if_pos rfl]; exact hal
        have HA : Hid (∀ W1 v, Below A.heap.size A W1 → IsS W1 v (wordsL (Lib.trimSuffix y.2 [10])) → CallsIn (Fence.wide.inRound l2) (n - 1 - 1 - 1) Tryz.prog 36 #[.pointer (some ⟨s + 3, 0, none⟩), v] W1 (fun e W2 => ∃ L', L'.map kq = P' ∧ AlPost (s + 12) (s + 3) L' B' true W1 e W2)) := fun W1 v hB1 hv => by
          have := addLine_any (hSS.below hB1) hv (hEA.on hB1) hk2 hk1
          unfold AlAny at this
          rw [hal] at this
          exact CallsIn.inRound l2 (callsIn_wide (n := n - 1 - 1 - 1) |>.2 this)
        have HD : Hid (∀ W1 W2 L', Below A.heap.size A W1 → L'.map kq = P' → SSt (s + 12) (s + 3) L' B' W2 → Fr (s + 12) (s + 3) W1 W2 → postC (s + 5) (fun A B => ∀ b, s + 7 ≤ b → b ≤ s + 11 → B.heap[b]? = A.heap[b]?) (LnI s W0) (fun c pre A => c = .ret ∧ PrX s W0 pre A) (pre ++ [y]) A .normal { tmps := #[], defers := [] } W2) := fun W1 W2 L' hB1 hL' hS2 hFr => by
          have hNr := nr_fr (nr_below hB1 (s := s) (by omega)) (by omega) hFr
          exact ⟨(nr_keep hNr).1, (nr_keep hNr).2, body_ok hNr ho hf (by rw [hls, hL']) hS2⟩
        clear hf hst ho hSS hEA hls hR0 hb3 hb4 HEA HBW hk1 hk2 hal
        gi_wp2_with (first | (refine ⟨trivial, fun _ => (by omega), ?_⟩; refine c35.mono ?_; clear c35; rintro e W1 ⟨v, rfl, hv, hB1⟩; have c36 := HA.out W1 v hB1 hv; obtain ⟨av, cv, rfl⟩ := isS_sl hv; clear hv HA) | (refine ⟨trivial, fun _ => (by omega), ?_⟩; refine c36.mono ?_; clear c36; rintro e W2 ⟨L', hL', rfl, hS2, hFr⟩; have HP := Lib.hid (HD.out W1 W2 L' hB1 hL' hS2 hFr); clear hS2 hFr HD hL'))
        rw [hz]
        exact HP.out
  case done =>
    rintro ys A rfl ⟨L, B, hf, hst, ho⟩ hK
    rw [numL_map] at hf
    rw [hz] at hK ⊢
    obtain ⟨ak, ck, ab, cb, h3, iK, iP, iB⟩ := sc_of hst
    obtain ⟨zK, zB⟩ := lines_sz (by unfold maxLen; omega) hf
    have cS := callsIn_wide (n := n - 1) |>.2 (scheck_any iK iP zK iB zB)
    have HD : Hid (∀ W1, Below A.heap.size A W1 → (W1.cell? ⟨s + 1 + 1 + 1, 0, none⟩ = some (.slice ak L.length ck) ∧ W1.cell? ⟨s + 1 + 1 + 1, 1, none⟩ = some (.slice ab B.length cb)) ∧ ((W1.cell? ⟨s, 0, none⟩ = some (.slice none 0 0) ∧ W1.cell? ⟨s, 1, none⟩ = some (.slice none 0 0) ∧ W1.cell? ⟨s + 1, 0, none⟩ = some (.int .i64 0) ∧ W1.cell? ⟨s + 1 + 1, 0, none⟩ = some .nilIface) ∧ W1.frozen? ⟨s, 0, none⟩ = false ∧ W1.frozen? ⟨s, 1, none⟩ = false ∧ W1.frozen? ⟨s + 1, 0, none⟩ = false ∧ W1.frozen? ⟨s + 1 + 1, 0, none⟩ = false)) := fun W1 hB1 => by
      have g3 := (hB1.block _ (Array.getElem?_eq_some_iff.1 h3).1).trans h3
      have r := res_oth hR0 ho
      exact ⟨⟨cell_at g3 rfl, cell_at g3 rfl⟩, Res3.cells ⟨(hB1.block _ (Array.getElem?_eq_some_iff.1 r.1).1).trans r.1, (hB1.block _ (Array.getElem?_eq_some_iff.1 r.2.1).1).trans r.2.1, (hB1.block _ (Array.getElem?_eq_some_iff.1 r.2.2).1).trans r.2.2⟩⟩
    have HR : Hid (∀ W1, Below A.heap.size A W1 → ∀ a b c d, (put3 W1 s a b c d).heap[s + 5]? = some (.deferred (some [])) ∧ Res3 ((put3 W1 s a b c d).putObj (s + 5) (.deferred none)) s a b c d ∧ Oth s W0 ((put3 W1 s a b c d).putObj (s + 5) (.deferred none)) ∧ LnSt s (numL (linesL x)) L B ((put3 W1 s a b c d).putObj (s + 5) (.deferred none)) ∧ ((put3 W1 s a b c d).putObj (s + 5) (.deferred none)).heap[s + 3]? = some (.cells #[.slice ak L.length ck, .slice ab B.length cb] 25 (0, 0))) := fun W1 hB1 a b c d => by
      obtain ⟨u1, u2, u3, u4, u5⟩ := fin3 ho hR0 hK hst hB1 a b c d
      exact ⟨u1, u2, u3, u4, u5.trans h3⟩
    obtain ⟨⟨p0, p1⟩, _⟩ := HD.out A (Below.refl _ _)
    by_cases hse : (sErr L B).2 = 0
    · have HS := Lib.hid hse
      rw [hse, errV_0] at cS
      clear hse
      gi_wp2_with (refine ⟨trivial, ?_⟩; gi_at_call 6; refine cS.mono ?_; rintro e W1 ⟨rfl, hB1⟩; obtain ⟨⟨q0, q1⟩, ⟨d0, d1, d2, d3⟩, f0, f1, f2, f3⟩ := HD.out W1 hB1)
      obtain ⟨u1, u2, u3, u4, u5⟩ := HR.out W1 hB1 (.slice ak L.length ck) (.slice ab B.length cb) (.int .i64 0) .nilIface
      refine ⟨by simp, .inl ⟨_, _, rfl, run_takeDeferred u1, ?_⟩⟩
      obtain ⟨⟨v0, v1, v2, v3⟩, _⟩ := u2.cells
      obtain ⟨k1, k2, k3⟩ := sc_at u4 u5
      refine ⟨.tuple #[.agg #[.slice ak L.length ck, .slice ab B.length cb], .int .i64 0, .nilIface], ?_, _, _, _, _, _, _, 0, 0, rfl, HBW.out _ u3, fun _ => ⟨rfl, L, B, hf, HS.out, k1, k2, k3⟩, fun h => absurd rfl h⟩
      simp [results, Tryz.results11, go_sem, v0, v1, v2, v3]
    · have HS := Lib.hid hse
      rw [errV_ne hse] at cS
      generalize hzz : (sErr L B).2 = z at *
      clear hse
      gi_wp2_with (refine ⟨trivial, ?_⟩; gi_at_call 6; refine cS.mono ?_; rintro e W1 ⟨rfl, hB1⟩; obtain ⟨⟨q0, q1⟩, ⟨d0, d1, d2, d3⟩, f0, f1, f2, f3⟩ := HD.out W1 hB1)
      obtain ⟨u1, u2, u3, u4, u5⟩ := HR.out W1 hB1 (.slice none 0 0) (.slice none 0 0) (.int .i64 0) (.iface 60 (.int .i64 z))
      refine ⟨by simp, .inl ⟨_, _, rfl, run_takeDeferred u1, ?_⟩⟩
      obtain ⟨⟨v0, v1, v2, v3⟩, _⟩ := u2.cells
      refine ⟨.tuple #[.agg #[.slice none 0 0, .slice none 0 0], .int .i64 0, .iface 60 (.int .i64 z)], ?_, none, 0, 0, none, 0, 0, 0, z, by rw [errV_ne HS.out], HBW.out _ u3, fun h => absurd h HS.out, fun _ => ⟨⟨rfl, rfl, rfl, rfl, rfl, rfl⟩, .inr ⟨rfl, L, B, hf, hzz⟩⟩⟩
      simp [results, Tryz.results11, go_sem, v0, v1, v2, v3]
  case stop =>
    rintro c pre A hp ⟨rfl, ys, y, st, rfl, e1, e2, e3, e4⟩ hK
    rw [hz] at hK ⊢
    gi_wp2
    refine ⟨by simp, .inl ⟨_, _, rfl, run_takeDeferred hK, ?_⟩⟩
    have e3' := e3.turn (grownBy_putObj' A (s + 5) (.deferred none)) (fun q e => by injection e with e; omega)
    have e4' := e4.turn (by omega) (grownBy_putObj' A (s + 5) (.deferred none)) (fun q e => by injection e with e; omega)
    obtain ⟨⟨v0, v1, v2, v3⟩, _⟩ := e3'.cells
    obtain ⟨g1, k, g2, g3⟩ := stop_at hp e1 e2
    refine ⟨.tuple #[.agg #[.slice none 0 0, .slice none 0 0], .int .i64 y.1, .iface 60 (.int .i64 2)], ?_, none, 0, 0, none, 0, 0, y.1, 2, rfl, HBW.out _ e4', fun h => absurd h (by decide), fun _ => ⟨⟨rfl, rfl, rfl, rfl, rfl, rfl⟩, .inl ⟨g1, rfl, k, g2, g3⟩⟩⟩
    simp [results, Tryz.results11, go_sem, v0, v1, v2, v3]
end Go.Proofs.YtgjlonilbhlneaaGreatDoor

/-
  The walk of kinsame.Schema: two schemas that say the same.
-/
namespace Go.Proofs.YtgjlonilbhlneaaGreatDoor
open Go.RowKit
set_option linter.unusedVariables false
set_option linter.unusedSimpArgs false

theorem isS_view {w : World} {v : Value} {l : List Nm} (h : IsS w v l) : ∃ ao c, v = .slice ao l.length c ∧ ∀ j g, l[j]? = some g → ∃ b o, ao = some ⟨b, o, none⟩ ∧ b < w.heap.size ∧ w.cell? ⟨b, o + j, none⟩ = some (.string (bs g)) := by
  rcases h with ⟨ao, c, rfl, rfl, _⟩ | ⟨b, off, cap, rfl, hc, hm, hb, hl⟩
  · exact ⟨ao, c, rfl, fun j g hg => by simp at hg⟩
  · exact ⟨_, _, rfl, fun j g hg => ⟨b, off, rfl, hb, hl j g hg⟩⟩
set_option maxHeartbeats 4000000 in
set_option maxRecDepth 100000 in
theorem texts_same {v u : Value} {l : List Nm} {w : World} (h1 : IsS w v l) (h2 : IsS w u l) (hn : l.length ≤ 1000) :
    Calls Tryz.prog 18 #[v, u] w fun e w' => e = .returned (.bool true) ∧ Below w.heap.size w w' := by
  obtain ⟨a1, c1, rfl, g1⟩ := isS_view h1
  obtain ⟨a2, c2, rfl, g2⟩ := isS_view h2
  have HG : Hid ((∀ j g, l[j]? = some g → ∃ b o, a1 = some ⟨b, o, none⟩ ∧ b < w.heap.size ∧ w.cell? ⟨b, o + j, none⟩ = some (.string (bs g))) ∧ (∀ j g, l[j]? = some g → ∃ b o, a2 = some ⟨b, o, none⟩ ∧ b < w.heap.size ∧ w.cell? ⟨b, o + j, none⟩ = some (.string (bs g)))) := ⟨g1, g2⟩
  clear h1 h2 g1 g2
  go_enter Tryz.func18, Tryz.ntmps18
  go_wp2
  go_loopw [5] (fun i wr => ∃ k : Nat, k ≤ l.length ∧ i = .int .i64 k ∧ Below w.heap.size w wr) (fun i _ => l.length - (intOf i).toNat)
  case atStart => exact ⟨0, Nat.zero_le _, rfl, Below.refl _ _⟩
  case round =>
    obtain ⟨k, hk, rfl, hB⟩ := hrel
    by_cases hlt : k < l.length
    · obtain ⟨p, hp⟩ : ∃ p, l[k]? = some p := ⟨l[k], by simp [hlt]⟩
      obtain ⟨b1, o1, rfl, hb1, m1⟩ := HG.out.1 k p hp
      obtain ⟨b2, o2, rfl, hb2, m2⟩ := HG.out.2 k p hp
      have x1 := (hB.cell (p := ⟨b1, o1 + k, none⟩) hb1).trans m1
      have x2 := (hB.cell (p := ⟨b2, o2 + k, none⟩) hb2).trans m2
      have HB : Hid (Below w.heap.size w wr) := hB
      have hki : (k : Int) < (l.length : Int) := by omega
      clear m1 m2 hB hp hb1 hb2
      go_wp2_with fail
      go_quiet (fail)
      go_wp2
      go_roundw
      case rel => exact ⟨k + 1, by omega, by go_num, b_drewN HB.out _⟩
      case measure => simp [intOf]; omega
    · go_wp2
      go_ret
      exact ⟨rfl, hB⟩
set_option maxHeartbeats 4000000 in
set_option maxRecDepth 100000 in
theorem fields_same {v u : Value} {l : List Fd} {w : World} (h1 : IsF w v l) (h2 : IsF w u l) (hn : l.length ≤ 1000) :
    Calls Tryz.prog 37 #[v, u] w fun e w' => e = .returned (.bool true) ∧ Below w.heap.size w w' := by
  obtain ⟨a1, c1, rfl, g1⟩ := isF_view h1
  obtain ⟨a2, c2, rfl, g2⟩ := isF_view h2
  have HG1 : Hid (∀ j g, l[j]? = some g → ∃ b o, a1 = some ⟨b, o, none⟩ ∧ b < w.heap.size ∧ w.cell? ⟨b, o + j * 4, none⟩ = some (.string (bs g.nm)) ∧ w.cell? ⟨b, o + j * 4 + 1, none⟩ = some (.int .i64 g.t) ∧ w.cell? ⟨b, o + j * 4 + 2, none⟩ = some (.bool g.must) ∧ w.cell? ⟨b, o + j * 4 + 3, none⟩ = some (.bool g.key)) := g1
  have HG2 : Hid (∀ j g, l[j]? = some g → ∃ b o, a2 = some ⟨b, o, none⟩ ∧ b < w.heap.size ∧ w.cell? ⟨b, o + j * 4, none⟩ = some (.string (bs g.nm)) ∧ w.cell? ⟨b, o + j * 4 + 1, none⟩ = some (.int .i64 g.t) ∧ w.cell? ⟨b, o + j * 4 + 2, none⟩ = some (.bool g.must) ∧ w.cell? ⟨b, o + j * 4 + 3, none⟩ = some (.bool g.key)) := g2
  clear h1 h2 g1 g2
  go_enter Tryz.func37, Tryz.ntmps37
  go_wp2
  go_loopw [5] (fun i wr => ∃ k : Nat, k ≤ l.length ∧ i = .int .i64 k ∧ Below w.heap.size w wr) (fun i _ => l.length - (intOf i).toNat)
  case atStart => exact ⟨0, Nat.zero_le _, rfl, Below.refl _ _⟩
  case round =>
    obtain ⟨k, hk, rfl, hB⟩ := hrel
    by_cases hlt : k < l.length
    · obtain ⟨p, hp⟩ : ∃ p, l[k]? = some p := ⟨l[k], by simp [hlt]⟩
      obtain ⟨b1, o1, rfl, hb1, m0, m1, m2, m3⟩ := HG1.out k p hp
      obtain ⟨b2, o2, rfl, hb2, n0, n1, n2, n3⟩ := HG2.out k p hp
      have x0 := (hB.cell (p := ⟨b1, o1 + k * 4, none⟩) hb1).trans m0
      have x1 := (hB.cell (p := ⟨b1, o1 + k * 4 + 1, none⟩) hb1).trans m1
      have x2 := (hB.cell (p := ⟨b1, o1 + k * 4 + 2, none⟩) hb1).trans m2
      have x3 := (hB.cell (p := ⟨b1, o1 + k * 4 + 3, none⟩) hb1).trans m3
      have y0 := (hB.cell (p := ⟨b2, o2 + k * 4, none⟩) hb2).trans n0
      have y1 := (hB.cell (p := ⟨b2, o2 + k * 4 + 1, none⟩) hb2).trans n1
      have y2 := (hB.cell (p := ⟨b2, o2 + k * 4 + 2, none⟩) hb2).trans n2
      have y3 := (hB.cell (p := ⟨b2, o2 + k * 4 + 3, none⟩) hb2).trans n3
      have HB : Hid (Below w.heap.size w wr) := hB
      have hki : (k : Int) < (l.length : Int) := by omega
      clear m0 m1 m2 m3 n0 n1 n2 n3 hB hp hb1 hb2
      go_wp2_with fail
      go_quiet (fail)
      go_wp2
      go_roundw
      case rel => exact ⟨k + 1, by omega, by go_num, b_drewN HB.out _⟩
      case measure => simp [intOf]; omega
    · go_wp2
      go_ret
      exact ⟨rfl, hB⟩

theorem kq_at {L L' : List Kd} (h : L.map (fun k => (k.nm, k.of, k.fs)) = L'.map (fun k => (k.nm, k.of, k.fs))) {i : Nat} {k k' : Kd} (h1 : L[i]? = some k) (h2 : L'[i]? = some k') : k.nm = k'.nm ∧ k.of = k'.of ∧ k.fs = k'.fs := by
  have e := congrArg (fun l => l[i]?) h
  simp only [List.getElem?_map, h1, h2, Option.map_some, Option.some.injEq, Prod.mk.injEq] at e
  exact e
theorem isS_sl' {w : World} {v : Value} {l : List Nm} (h : IsS w v l) : ∃ a c, v = .slice a l.length c := by
  obtain ⟨a, c, e, _⟩ := isS_view h
  exact ⟨a, c, e⟩
theorem isF_sl' {w : World} {v : Value} {l : List Fd} (h : IsF w v l) : ∃ a c, v = .slice a l.length c := by
  obtain ⟨a, c, e, _⟩ := isF_view h
  exact ⟨a, c, e⟩
set_option maxHeartbeats 8000000 in
set_option maxRecDepth 100000 in
theorem schema_same {vk vb uk ub : Value} {L L' : List Kd} {B : List Bd} {w : World} (hK : IsK w vk L) (hP : Parts w L) (hB : IsB w vb B) (hK' : IsK w uk L') (hP' : Parts w L') (hB' : IsB w ub B) (he : L.map (fun k => (k.nm, k.of, k.fs)) = L'.map (fun k => (k.nm, k.of, k.fs))) (lb : B.length ≤ 1000) (ll : L.length ≤ 1000) (sm : ∀ k ∈ L, k.of.length ≤ 1000 ∧ k.fs.length ≤ 1000) :
    Calls Tryz.prog 12 #[.agg #[vk, vb], .agg #[uk, ub]] w fun e w' => e = .returned (.bool true) ∧ Below w.heap.size w w' := by
  have hll : L.length = L'.length := by have := congrArg List.length he; simpa using this
  obtain ⟨W0, hW0⟩ : ∃ W0, W0 = (w.alloc (.cells #[vk, vb] 25)).alloc (.cells #[uk, ub] 25) := ⟨_, rfl⟩
  have hB0 : Below w.heap.size w W0 := by rw [hW0]; exact b_alloc (b_alloc (Below.refl _ _) (Nat.le_refl _) _) (Nat.le_refl _) _
  have n0 : W0.heap[w.heap.size]? = some (.cells #[vk, vb] 25 (0, 0)) := by rw [hW0]; exact (Below.heap_alloc _ _ _ (by simp)).trans (World.alloc_heap_new w _)
  have n1 : W0.heap[w.heap.size + 1]? = some (.cells #[uk, ub] 25 (0, 0)) := by
    have := World.alloc_heap_new (w.alloc (.cells #[vk, vb] 25)) (.cells #[uk, ub] 25)
    rw [World.size_alloc] at this; rw [hW0]; exact this
  have HX : Hid (∀ W, Below W0.heap.size W0 W → W.cell? ⟨w.heap.size, 0, none⟩ = some vk ∧ W.cell? ⟨w.heap.size, 1, none⟩ = some vb ∧ W.cell? ⟨w.heap.size + 1, 0, none⟩ = some uk ∧ W.cell? ⟨w.heap.size + 1, 1, none⟩ = some ub) := fun W hb => by
    have m0 := (hb.block _ (Array.getElem?_eq_some_iff.1 n0).1).trans n0
    have m1 := (hb.block _ (Array.getElem?_eq_some_iff.1 n1).1).trans n1
    refine ⟨?_, ?_, ?_, ?_⟩ <;> simp [World.cell?, m0, m1]
  obtain ⟨ak, ck, evk, _, hvk⟩ := isK_view hK
  obtain ⟨al, cl, euk, _, huk⟩ := isK_view hK'
  obtain ⟨ab, cb, evb, _, _, hvb⟩ := isB_view hB
  obtain ⟨ac, cc, eub, _, _, hub⟩ := isB_view hB'
  rw [← hll] at euk
  subst evk euk evb eub
  have HG : Hid (Below w.heap.size w W0 ∧ Parts w L ∧ Parts w L' ∧ (∀ (j : Nat) g, L[j]? = some g → ∃ b o, ak = some ⟨b, o, none⟩ ∧ b < w.heap.size ∧ LiesK w b o L) ∧ (∀ (j : Nat) g, L'[j]? = some g → ∃ b o, al = some ⟨b, o, none⟩ ∧ b < w.heap.size ∧ LiesK w b o L') ∧ (∀ (j : Nat) g, B[j]? = some g → ∃ b o, ab = some ⟨b, o, none⟩ ∧ b < w.heap.size ∧ LiesB w b o B) ∧ (∀ (j : Nat) g, B[j]? = some g → ∃ b o, ac = some ⟨b, o, none⟩ ∧ b < w.heap.size ∧ LiesB w b o B)) := ⟨hB0, hP, hP', hvk, huk, hvb, hub⟩
  have HLL := Lib.hid hll
  clear hll
  have HE := Lib.hid he
  have HSm := Lib.hid sm
  obtain ⟨x0, x1, x2, x3⟩ := HX.out W0 (Below.refl _ _)
  clear hK hP hB hK' hP' hB' he sm hvk huk hvb hub hB0 n0 n1
  go_enter Tryz.func12, Tryz.ntmps12
  go_upto_region 1 with fail
  rw [← hW0]
  clear hW0
  go_wp2
  go_loopw [5] (fun i wr => ∃ k : Nat, k ≤ L.length ∧ i = .int .i64 k ∧ Below W0.heap.size W0 wr) (fun i _ => L.length - (intOf i).toNat)
  case atStart => exact ⟨0, Nat.zero_le _, rfl, Below.refl _ _⟩
  case round =>
    obtain ⟨k, hk, rfl, hBr⟩ := hrel
    have HBr := Lib.hid hBr
    clear x0 x1 x2 x3
    obtain ⟨x0, x1, x2, x3⟩ := HX.out wr hBr
    by_cases hlt : k < L.length
    · obtain ⟨p, hp⟩ : ∃ p, L[k]? = some p := ⟨L[k], by simp [hlt]⟩
      obtain ⟨q, hq⟩ : ∃ q, L'[k]? = some q := ⟨L'[k]'(by have := HLL.out; omega), by rw [List.getElem?_eq_getElem]⟩
      obtain ⟨b1, o1, ea, hb1, l1⟩ := HG.out.2.2.2.1 k p hp
      obtain ⟨b2, o2, eb, hb2, l2⟩ := HG.out.2.2.2.2.1 k q hq
      subst ea eb
      obtain ⟨m0, m1, m2⟩ := l1 k p hp
      obtain ⟨r0, r1, r2⟩ := l2 k q hq
      have hbw := on1 HG.out.1 hBr (Nat.le_refl _)
      obtain ⟨e1, e2, e3⟩ := kq_at HE.out hp hq
      have hpp := HG.out.2.1 p (List.mem_of_getElem? hp)
      have hqq := HG.out.2.2.1 q (List.mem_of_getElem? hq)
      obtain ⟨s1, s2⟩ := HSm.out p (List.mem_of_getElem? hp)
      obtain ⟨nm, of, fs, vo, vf⟩ := p
      obtain ⟨nm', of', fs', uo, uf⟩ := q
      simp only at e1 e2 e3 hpp hqq s1 s2 m0 m1 m2 r0 r1 r2
      subst e1 e2 e3
      have y0 := (hbw.cell (p := ⟨b1, o1 + k * 3, none⟩) hb1).trans m0
      have y1 := (hbw.cell (p := ⟨b1, o1 + k * 3 + 1, none⟩) hb1).trans m1
      have y2 := (hbw.cell (p := ⟨b1, o1 + k * 3 + 2, none⟩) hb1).trans m2
      have z0 := (hbw.cell (p := ⟨b2, o2 + k * 3, none⟩) hb2).trans r0
      have z1 := (hbw.cell (p := ⟨b2, o2 + k * 3 + 1, none⟩) hb2).trans r1
      have z2 := (hbw.cell (p := ⟨b2, o2 + k * 3 + 2, none⟩) hb2).trans r2
      obtain ⟨ao, co, eo⟩ := isS_sl' hpp.1
      obtain ⟨af, cf, ef⟩ := isF_sl' hpp.2
      obtain ⟨ao', co', eo'⟩ := isS_sl' hqq.1
      obtain ⟨af', cf', ef'⟩ := isF_sl' hqq.2
      subst eo ef eo' ef'
      have hn1 : ¬ b1 = wr.heap.size := by have := hbw.size; omega
      have hn2 : ¬ b2 = wr.heap.size := by have := hbw.size; omega
      have hold : ∀ {a : Addr} {v : Value}, wr.cell? a = some v → ∀ o, (wr.alloc o).cell? a = some v := fun {a v} h o => ((b_alloc (Below.refl _ wr) (Nat.le_refl _) o).cell (World.block_lt_of_cell? wr _ h)).trans h
      have z0' := hold z0
      have z1' := hold z1
      have z2' := hold z2
      have x2' := hold x2
      have hB2 : Below wr.heap.size wr ((wr.alloc (.cells #[.string (bs nm), .slice ao of.length co, .slice af fs.length cf] 55)).alloc (.cells #[.string (bs nm), .slice ao' of.length co', .slice af' fs.length cf'] 55)) := b_alloc (b_alloc (Below.refl _ _) (Nat.le_refl _) _) (Nat.le_refl _) _
      have hb2w := on1 hbw hB2 (Nat.le_refl _)
      have cT := texts_same (hpp.1.on hb2w) (hqq.1.on hb2w) s1
      have cF := fun W3 (hB3 : Below ((wr.alloc (.cells #[.string (bs nm), .slice ao of.length co, .slice af fs.length cf] 55)).alloc (.cells #[.string (bs nm), .slice ao' of.length co', .slice af' fs.length cf'] 55)).heap.size ((wr.alloc (.cells #[.string (bs nm), .slice ao of.length co, .slice af fs.length cf] 55)).alloc (.cells #[.string (bs nm), .slice ao' of.length co', .slice af' fs.length cf'] 55)) W3) => fields_same (hpp.2.on (on1 hb2w hB3 (Nat.le_refl _))) (hqq.2.on (on1 hb2w hB3 (Nat.le_refl _))) s2
      have HC : Hid (∀ W3, Below ((wr.alloc (.cells #[.string (bs nm), .slice ao of.length co, .slice af fs.length cf] 55)).alloc (.cells #[.string (bs nm), .slice ao' of.length co', .slice af' fs.length cf'] 55)).heap.size ((wr.alloc (.cells #[.string (bs nm), .slice ao of.length co, .slice af fs.length cf] 55)).alloc (.cells #[.string (bs nm), .slice ao' of.length co', .slice af' fs.length cf'] 55)) W3 → (W3.cell? ⟨wr.heap.size, 0, none⟩ = some (.string (bs nm)) ∧ W3.cell? ⟨wr.heap.size, 2, none⟩ = some (.slice af fs.length cf) ∧ W3.cell? ⟨wr.heap.size + 1, 0, none⟩ = some (.string (bs nm)) ∧ W3.cell? ⟨wr.heap.size + 1, 2, none⟩ = some (.slice af' fs.length cf')) ∧ Below W0.heap.size W0 W3) := fun W3 hB3 => by
        have m0 : W3.heap[wr.heap.size]? = some (.cells #[.string (bs nm), .slice ao of.length co, .slice af fs.length cf] 55 (0, 0)) := (hB3.block _ (by simp; omega)).trans ((Below.heap_alloc _ _ _ (by simp)).trans (World.alloc_heap_new wr _))
        have m1 : W3.heap[wr.heap.size + 1]? = some (.cells #[.string (bs nm), .slice ao' of.length co', .slice af' fs.length cf'] 55 (0, 0)) := by
          have := World.alloc_heap_new (wr.alloc (.cells #[.string (bs nm), .slice ao of.length co, .slice af fs.length cf] 55)) (.cells #[.string (bs nm), .slice ao' of.length co', .slice af' fs.length cf'] 55)
          rw [World.size_alloc] at this
          exact (hB3.block _ (by simp)).trans this
        refine ⟨⟨?_, ?_, ?_, ?_⟩, on1 (on1 HBr.out hB2 (Nat.le_refl _)) hB3 (Nat.le_refl _)⟩ <;> simp [World.cell?, m0, m1]
      have hkL : (k : Int) < (L.length : Int) := by omega
      clear m0 m1 m2 r0 r1 r2 hb1 hb2 l1 l2 hp hq hbw hpp hqq hB2 hb2w hBr hold
      go_wp2_with (first | (go_at_call 18; refine cT.mono ?_; rintro e W3 ⟨rfl, hB3⟩; obtain ⟨⟨c0, c2, d0, d2⟩, _⟩ := HC.out W3 hB3; have cF3 := cF W3 hB3) | (go_at_call 37; refine cF3.mono ?_; rintro e W4 ⟨rfl, hB4⟩; obtain ⟨⟨g0, g2, h0, h2⟩, hW4⟩ := HC.out W4 (on1 hB3 hB4 (Nat.le_refl _)); have HW4 := Lib.hid hW4; clear hW4))
      go_roundw
      case rel => exact ⟨k + 1, by omega, by go_num, HW4.out⟩
      case measure => simp [intOf]; omega
    · obtain rfl : k = L.length := by omega
      clear hlt
      obtain ⟨W5, hW5⟩ : ∃ W5, W5 = wr := ⟨wr, rfl⟩
      subst hW5
      go_wp2
      go_loopw [10] (fun i wr => ∃ k : Nat, k ≤ B.length ∧ i = .int .i64 k ∧ Below W0.heap.size W0 wr) (fun i _ => B.length - (intOf i).toNat)
      case atStart => exact ⟨0, Nat.zero_le _, rfl, HBr.out⟩
      case round =>
        obtain ⟨k, hk, rfl, hBs⟩ := hrel
        have HBs := Lib.hid hBs
        clear x0 x1 x2 x3
        obtain ⟨x0, x1, x2, x3⟩ := HX.out wr hBs
        by_cases hlt : k < B.length
        · obtain ⟨p, hp⟩ : ∃ p, B[k]? = some p := ⟨B[k], by simp [hlt]⟩
          obtain ⟨b1, o1, ea, hb1, l1⟩ := HG.out.2.2.2.2.2.1 k p hp
          obtain ⟨b2, o2, eb, hb2, l2⟩ := HG.out.2.2.2.2.2.2 k p hp
          subst ea eb
          obtain ⟨m0, m1, m2, m3, m4⟩ := l1 k p hp
          obtain ⟨r0, r1, r2, r3, r4⟩ := l2 k p hp
          have hbw := on1 HG.out.1 hBs (Nat.le_refl _)
          have y0 := (hbw.cell (p := ⟨b1, o1 + k * 5, none⟩) hb1).trans m0
          have y1 := (hbw.cell (p := ⟨b1, o1 + k * 5 + 1, none⟩) hb1).trans m1
          have y2 := (hbw.cell (p := ⟨b1, o1 + k * 5 + 2, none⟩) hb1).trans m2
          have y3 := (hbw.cell (p := ⟨b1, o1 + k * 5 + 3, none⟩) hb1).trans m3
          have y4 := (hbw.cell (p := ⟨b1, o1 + k * 5 + 4, none⟩) hb1).trans m4
          have z0 := (hbw.cell (p := ⟨b2, o2 + k * 5, none⟩) hb2).trans r0
          have z1 := (hbw.cell (p := ⟨b2, o2 + k * 5 + 1, none⟩) hb2).trans r1
          have z2 := (hbw.cell (p := ⟨b2, o2 + k * 5 + 2, none⟩) hb2).trans r2
          have z3 := (hbw.cell (p := ⟨b2, o2 + k * 5 + 3, none⟩) hb2).trans r3
          have z4 := (hbw.cell (p := ⟨b2, o2 + k * 5 + 4, none⟩) hb2).trans r4
          have hkL : (k : Int) < (B.length : Int) := by omega
          clear m0 m1 m2 m3 m4 r0 r1 r2 r3 r4 hb1 hb2 l1 l2 hp hbw hBs
          go_wp2_with fail
          go_quiet (fail)
          go_wp2
          go_roundw
          case rel => exact ⟨k + 1, by omega, by go_num, b_drewN HBs.out _⟩
          case measure => simp [intOf]; omega
        · obtain rfl : k = B.length := by omega
          go_wp2
          go_ret
          exact ⟨rfl, on1 HG.out.1 hBs (Nat.le_refl _)⟩
end Go.Proofs.YtgjlonilbhlneaaGreatDoor
