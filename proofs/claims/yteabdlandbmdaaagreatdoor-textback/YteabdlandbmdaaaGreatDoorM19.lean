/-
  The walk of text.Parse.
-/
import Derived.Test.YteabdlandbmdaaaGreatDoorM18
import Derived.Test.YteabdlandbmdaaaGreatDoorM12
import Derived.Test.YteabdlandbmdaaaGreatDoorM03
namespace Go.Proofs.YteabdlandbmdaaaGreatDoor
open Go.RowKit Go.Shelf
attribute [local go_sem] Oper.semAt_some
set_option linter.unusedVariables false
set_option linter.unusedSimpArgs false

theorem rc_sz {M : List Pr} (h : rErr M = 0) : Sz M ∧ M.length ≤ maxLen := by
  have hok := rErr_ok h
  have hl := rErr_len h
  refine ⟨fun p hp => ?_, by unfold maxLen; omega⟩
  have h1 := name_len' (hok p hp).1
  have h2 := val_len' (hok p hp).2
  have e1 : p.nm.size = p.l.length := size_len p.nm
  have e2 : p.s.size = p.s.data.toList.length := size_len p.s
  unfold maxLen
  omega
theorem step_sz {N N' : List Nd} {T T' : List Te} {y : Nm} (hy : y.length ≤ 140737488355328) (h : lnS (N, T) y = some (N', T')) (h1 : SzN N) (h2 : SzT T) : SzN N' ∧ SzT T' := by
  unfold lnS at h
  split at h
  · have hll : (Lib.trimSuffix y [10]).length ≤ 140737488355328 := Nat.le_trans (Lib.trimSuffix_le _ _) hy
    generalize Lib.trimSuffix y [10] = l at h hll
    simp only at h
    unfold adS at h
    cases hw : w4 l with
    | none => rw [hw] at h; cases h
    | some q =>
      obtain ⟨a, b, c, d⟩ := q
      have hl := congrArg List.length (w4_some hw)
      unfold j4 at hl
      simp at hl
      rw [hw] at h
      simp only at h
      split at h
      · unfold ndO at h
        cases hn : numN b with
        | none => rw [hn] at h; simp at h
        | some v =>
          cases hr : readR d with
          | none => rw [hn, hr] at h; simp at h
          | some M =>
            rw [hn, hr] at h
            simp only at h
            by_cases hc : c ≠ [] ∧ rErr M = 0
            · rw [if_pos hc] at h
              simp only at h
              by_cases hT : T = []
              · rw [if_pos hT] at h
                simp only [Option.some.injEq, Prod.mk.injEq] at h
                obtain ⟨rfl, rfl⟩ := h
                refine ⟨?_, h2⟩
                unfold capN
                split
                · exact h1
                · intro n hn
                  rcases List.mem_append.1 hn with hn | hn
                  · exact h1 n hn
                  · rw [List.mem_singleton.1 hn]
                    refine ⟨?_, (rc_sz hc.2).1, (rc_sz hc.2).2⟩
                    show (bs c).size ≤ maxLen
                    rw [bs_size]
                    unfold maxLen
                    omega
              · rw [if_neg hT] at h; cases h
            · rw [if_neg hc] at h; simp at h
      · split at h
        · unfold teO at h
          cases hn : numN c with
          | none => rw [hn] at h; simp at h
          | some v =>
            cases hr : numN d with
            | none => rw [hn, hr] at h; simp at h
            | some u =>
              rw [hn, hr] at h
              simp only at h
              by_cases hc : b ≠ []
              · rw [if_pos hc] at h
                simp only [Option.some.injEq, Prod.mk.injEq] at h
                obtain ⟨rfl, rfl⟩ := h
                refine ⟨h1, ?_⟩
                unfold capT
                split
                · exact h2
                · intro n hn
                  rcases List.mem_append.1 hn with hn | hn
                  · exact h2 n hn
                  · rw [List.mem_singleton.1 hn]
                    show (bs b).size ≤ maxLen
                    rw [bs_size]
                    unfold maxLen
                    omega
              · rw [if_neg hc] at h; simp at h
        · cases h
  · cases h
theorem fold_sz : ∀ (ys : List Nm) (N0 : List Nd) (T0 : List Te) {N : List Nd} {T : List Te}, (∀ y ∈ ys, y.length ≤ 140737488355328) → ys.foldl (fun o y => o.bind fun st => lnS st y) (some (N0, T0)) = some (N, T) → SzN N0 → SzT T0 → SzN N ∧ SzT T
  | [], N0, T0, N, T, _, h, h1, h2 => by
    simp only [List.foldl_nil, Option.some.injEq, Prod.mk.injEq] at h
    obtain ⟨rfl, rfl⟩ := h
    exact ⟨h1, h2⟩
  | y :: r, N0, T0, N, T, hy, h, h1, h2 => by
    rw [List.foldl_cons, Option.bind_some] at h
    cases hs : lnS (N0, T0) y with
    | none => rw [hs, fold_none] at h; cases h
    | some q =>
      obtain ⟨N1, T1⟩ := q
      rw [hs] at h
      obtain ⟨g1, g2⟩ := step_sz (hy y (by simp)) hs h1 h2
      exact fold_sz r N1 T1 (fun z hz => hy z (List.mem_cons_of_mem _ hz)) h g1 g2
theorem lines_sz {x : Nm} {L : List Nd} {B : List Te} (hx : x.length ≤ 140737488355328) (h : lnF (linesL x) = some (cN L, B)) : SzN L ∧ SzT B := by
  obtain ⟨h1, h2⟩ := fold_sz (linesL x) [] [] (fun y hy => by
    have := (List.sublist_flatten_of_mem hy).length_le
    rw [linesL_flat] at this
    omega) h (fun n hn => by simp at hn) (fun n hn => by simp at hn)
  exact ⟨fun n hn => h1 n.c (List.mem_map.2 ⟨n, hn, rfl⟩), h2⟩

set_option maxHeartbeats 8000000 in
set_option maxRecDepth 100000 in
theorem tparse_any (n : Nat) (hn : 9 ≤ n) (x : Nm) (hx : x.length ≤ 140737488355328) (w : World) (hE : EV w) :
    CallsIn Fence.wide n Tryz.prog 4 #[.string (bs x)] w (PaPost x w) := by
  have h1 : 1 ≤ n := by omega
  refine callsIn_of_wp_marks Tryz.func4 rfl trivial ?_ rfl
  simp only [Tryz.ntmps4, List.size_toArray, List.length_cons, List.length_nil, Nat.reduceAdd, Nat.reduceSub, Array.replicate_succ, Array.replicate_zero, List.push_toArray, List.append_toArray, List.nil_append, List.cons_append]
  have c7 := fun w' => callsIn_wide (n := n - 1) |>.2 (lines_any (bs x) w')
  gi_wp2_with (refine ⟨trivial, ?_⟩; gi_at_call 7; refine (c7 _).mono ?_; rintro e w' ⟨rfl, rfl⟩)
  obtain ⟨s, hs⟩ : ∃ s, s = w.heap.size := ⟨_, rfl⟩
  obtain ⟨W0, hW0⟩ : ∃ W0, ((((w.alloc (.cells #[.slice none 0 0, .slice none 0 0] 25)).alloc (.cells #[.int .i64 0] 3)).alloc (.cells #[.nilIface] 27)).alloc (.cells #[.slice none 0 0, .slice none 0 0] 25)).alloc (.cells #[.string (bs x)] 9) = W0 := ⟨_, rfl⟩
  have hz : W0.heap.size = s + 5 := by rw [← hW0, hs]; simp
  have hb4 : W0.heap[s + 4]? = some (.cells #[.string (bs x)] 9 (0, 0)) := by
    have := World.alloc_heap_new ((((w.alloc (.cells #[.slice none 0 0, .slice none 0 0] 25)).alloc (.cells #[.int .i64 0] 3)).alloc (.cells #[.nilIface] 27)).alloc (.cells #[.slice none 0 0, .slice none 0 0] 25)) (.cells #[.string (bs x)] 9)
    rw [hW0] at this; rw [hs]; simpa using this
  have hb3 : W0.heap[s + 3]? = some (.cells #[.slice none 0 0, .slice none 0 0] 25 (0, 0)) := by
    have := World.alloc_heap_new (((w.alloc (.cells #[.slice none 0 0, .slice none 0 0] 25)).alloc (.cells #[.int .i64 0] 3)).alloc (.cells #[.nilIface] 27)) (.cells #[.slice none 0 0, .slice none 0 0] 25)
    rw [← hW0, Below.heap_alloc _ _ _ (by simp [hs] <;> omega), hs]; simpa using this
  have hR0 : Res3 W0 s (.slice none 0 0) (.slice none 0 0) (.int .i64 0) .nilIface := by
    refine ⟨?_, ?_, ?_⟩
    · rw [← hW0, Below.heap_alloc _ _ _ (by simp [hs] <;> omega), Below.heap_alloc _ _ _ (by simp [hs] <;> omega), Below.heap_alloc _ _ _ (by simp [hs] <;> omega), Below.heap_alloc _ _ _ (by simp [hs] <;> omega), hs]
      exact World.alloc_heap_new w _
    · have := World.alloc_heap_new (w.alloc (.cells #[.slice none 0 0, .slice none 0 0] 25)) (.cells #[.int .i64 0] 3)
      rw [← hW0, Below.heap_alloc _ _ _ (by simp [hs] <;> omega), Below.heap_alloc _ _ _ (by simp [hs] <;> omega), Below.heap_alloc _ _ _ (by simp [hs] <;> omega), hs]
      simpa using this
    · have := World.alloc_heap_new ((w.alloc (.cells #[.slice none 0 0, .slice none 0 0] 25)).alloc (.cells #[.int .i64 0] 3)) (.cells #[.nilIface] 27)
      rw [← hW0, Below.heap_alloc _ _ _ (by simp [hs] <;> omega), Below.heap_alloc _ _ _ (by simp [hs] <;> omega), hs]
      simpa using this
  have hB0 : Below w.heap.size w W0 := by rw [← hW0]; exact b_alloc (b_alloc (b_alloc (b_alloc (b_alloc (Below.refl _ _) _) _) _) _) _
  have HEA : Hid (∀ A, Oth (s + 3) W0 A → EV A) := fun A ho => hE.on ⟨ho.os.trans hB0.os, ho.tape.trans hB0.tape, ho.output.trans hB0.output, Nat.le_trans hB0.size ho.size, fun b hb => (ho.block b (by omega)).trans (hB0.block b hb)⟩
  have HBW : Hid (∀ A, Oth s W0 A → Below w.heap.size w A) := fun A ho => ⟨ho.os.trans hB0.os, ho.tape.trans hB0.tape, ho.output.trans hB0.output, Nat.le_trans hB0.size ho.size, fun b hb => (ho.block b (by omega)).trans (hB0.block b hb)⟩
  rw [hW0]
  rw [← hs]
  clear hs hW0 c7 hB0
  refine rangeC (w := W0) (k := fun r => s + 7 ≤ r ∧ r ≤ s + 11) (Kp := fun A B => ∀ b, s + 7 ≤ b → b ≤ s + 11 → B.heap[b]? = A.heap[b]?) (S := (· = numL (linesL x))) (Sp := (· <+: numL (linesL x))) (N := (linesL x).length) (encs := fun y : Nat × Nm => #[.int .i64 y.1, .string (bs y.2)]) (R := fun y A => y.2.length ≤ x.length ∧ s + 7 + 4 < A.heap.size) rfl h1 (gf := 17) (lb := #[.pointer (some ⟨s + 1 + 1 + 1 + 1, 0, none⟩)]) rfl trivial (enters_of Tryz.func17 (by kernel_rfl) rfl)
    (fun W1 hs1 hB1 => by
      rw [hz] at hs1
      have := linesI_seq (n - 1) (s + 4) (by omega) x (by omega) (fun A B => ∀ b, s + 7 ≤ b → b ≤ s + 11 → B.heap[b]? = A.heap[b]?) W1 (fun A B h b q1 q2 => h b (by omega) (by omega)) ((hB1.block _ (by omega)).trans hb4)
      rw [hs1] at this
      exact this)
    (fun y A o h => ⟨h.1, by rw [World.putObj_size]; exact h.2⟩)
    (by omega) (by omega) (fun h1 h2 b q1 q2 => (h2 b q1 q2).trans (h1 b q1 q2)) (fun A o' hlt b q1 q2 => World.putObj_heap_other (by omega)) (fun _ => rfl)
    (LnI s W0)
    (fun c pre A => c = .ret ∧ PrX s W0 pre A)
    (by have := lnI_abides (s := s) (w := W0) hz; rw [hz]; exact this)
    (fun c pre A B row hs hg hr => ⟨hs.1, prX_abides hz pre A B row hs.2 hg (fun r e => by have := hr r e; rw [hz] at this; exact this)⟩)
    ⟨[], [], rfl, .inl ⟨rfl, rfl, rfl, hb3⟩, rfl, rfl, rfl, Nat.le_refl _, fun _ _ => rfl⟩
    (fun y => { tmps := #[.string (bs x), undef, .pointer (some ⟨s, 0, none⟩), .pointer (some ⟨s + 1, 0, none⟩), .pointer (some ⟨s + 1 + 1, 0, none⟩), .pointer (some ⟨s + 1 + 1 + 1, 0, none⟩), .int .i64 y.1, .string (bs y.2), undef, undef, undef, .string (bs x), .func (.func 17) #[] #[.pointer (some ⟨s + 1 + 1 + 1 + 1, 0, none⟩)], .int .i64 y.1, .string (bs y.2), undef, undef, undef, undef, undef, undef, undef, undef, undef, undef, undef, undef, undef, undef, undef, undef, undef, undef, undef, undef, undef, undef], defers := [] }) ?assign ?body ?done ?stop
  case assign =>
    intro l2 y A K hK
    gi_wp2
    exact hK
  case body =>
    rintro l2 pre y A hlt ⟨L, B, hf, hst, ho⟩ hlen ⟨hyl, hAs⟩
    have hSS := lnSt_open hst (by omega)
    have hEA : EV A := HEA.out A ho
    have c8 : CallsIn (Fence.wide.inRound l2) (n - 1 - 1 - 1) Tryz.prog 8 #[.string (bs y.2), .string ⟨#[10]⟩] A fun e w' => e = .returned (.tuple #[.string (bs (Lib.trimSuffix y.2 [10])), .bool (Lib.hasSuffix y.2 [10])]) ∧ w' = A := by
      have := Tryz.strings_CutSuffix (bs y.2) ⟨#[10]⟩ A (by rw [bs_size]; omega)
      rw [bs_data] at this
      exact CallsIn.inRound l2 (callsIn_wide (n := n - 1 - 1 - 1) |>.2 this)
    have hil : (Lib.trimSuffix y.2 [10]).length ≤ 140737488355328 := Nat.le_trans (Lib.trimSuffix_le _ _) (by omega)
    cases hsf : Lib.hasSuffix y.2 [10]
    · rw [hsf] at c8
      have hls : lnS (cN L, B) y.2 = none := by unfold lnS; rw [hsf]; rfl
      have HD : Hid (∀ W1, Below A.heap.size A W1 → ((W1.cell? ⟨s, 0, none⟩ = some (.slice none 0 0) ∧ W1.cell? ⟨s, 1, none⟩ = some (.slice none 0 0) ∧ W1.cell? ⟨s + 1, 0, none⟩ = some (.int .i64 0) ∧ W1.cell? ⟨s + 1 + 1, 0, none⟩ = some .nilIface) ∧ W1.frozen? ⟨s, 0, none⟩ = false ∧ W1.frozen? ⟨s, 1, none⟩ = false ∧ W1.frozen? ⟨s + 1, 0, none⟩ = false ∧ W1.frozen? ⟨s + 1 + 1, 0, none⟩ = false) ∧ postC (s + 5) (fun A B => ∀ b, s + 7 ≤ b → b ≤ s + 11 → B.heap[b]? = A.heap[b]?) (LnI s W0) (fun c pre A => c = .ret ∧ PrX s W0 pre A) (pre ++ [y]) A .ret { tmps := #[], defers := [] } (put3 W1 s (.slice none 0 0) (.slice none 0 0) (.int .i64 y.1) (.iface 49 (.int .i64 2)))) := fun W1 hB1 => by
        have hNr := nr_below hB1 (s := s) (by omega)
        refine ⟨(res_oth hR0 (nr_oth hNr ho)).cells, (nr_put3 hNr).1, (nr_put3 hNr).2, rfl, body_ret hNr ho hR0 hf hls⟩
      obtain ⟨⟨⟨d0, d1, d2, d3⟩, f0, f1, f2, f3⟩, hpo⟩ := HD.out A (Below.refl _ _)
      have HP := Lib.hid hpo
      clear hpo HD hf hst ho hSS hEA hls hR0 hb3 hb4 HEA HBW
      gi_wp2_with (refine ⟨trivial, fun _ => (by omega), ?_⟩; refine c8.mono ?_; rintro e W1 ⟨rfl, rfl⟩)
      refine ⟨trivial, ?_⟩
      gi_wp2
      rw [hz]
      exact HP.out
    · rw [hsf] at c8
      have ha := CallsIn.inRound l2 (callsIn_wide (n := n - 1 - 1 - 1) |>.2 (addLine_any hSS hEA hil))
      unfold AlPost at ha
      cases hal : adS (cN L) B (Lib.trimSuffix y.2 [10]) with
      | none =>
        rw [hal] at ha
        have hls : lnS (cN L, B) y.2 = none := by unfold lnS; rw [hsf, if_pos rfl]; exact hal
        have HD : Hid (∀ W2, Fr (s + 12) (s + 3) A W2 → ((W2.cell? ⟨s, 0, none⟩ = some (.slice none 0 0) ∧ W2.cell? ⟨s, 1, none⟩ = some (.slice none 0 0) ∧ W2.cell? ⟨s + 1, 0, none⟩ = some (.int .i64 0) ∧ W2.cell? ⟨s + 1 + 1, 0, none⟩ = some .nilIface) ∧ W2.frozen? ⟨s, 0, none⟩ = false ∧ W2.frozen? ⟨s, 1, none⟩ = false ∧ W2.frozen? ⟨s + 1, 0, none⟩ = false ∧ W2.frozen? ⟨s + 1 + 1, 0, none⟩ = false) ∧ postC (s + 5) (fun A B => ∀ b, s + 7 ≤ b → b ≤ s + 11 → B.heap[b]? = A.heap[b]?) (LnI s W0) (fun c pre A => c = .ret ∧ PrX s W0 pre A) (pre ++ [y]) A .ret { tmps := #[], defers := [] } (put3 W2 s (.slice none 0 0) (.slice none 0 0) (.int .i64 y.1) (.iface 49 (.int .i64 2)))) := fun W2 hFr => by
          have hNr := nr_fr (nr_below (Below.refl _ A) (s := s) (by omega)) (by omega) hFr
          exact ⟨(res_oth hR0 (nr_oth hNr ho)).cells, (nr_put3 hNr).1, (nr_put3 hNr).2, rfl, body_ret hNr ho hR0 hf hls⟩
        clear hf hst ho hSS hEA hls hR0 hb3 hb4 HEA HBW hal
        gi_wp2_with (first | (refine ⟨trivial, fun _ => (by omega), ?_⟩; refine c8.mono ?_; clear c8; rintro e W1 ⟨rfl, rfl⟩) | (refine ⟨trivial, fun _ => (by omega), ?_⟩; refine ha.mono ?_; clear ha; rintro e W2 ⟨hFr, rfl⟩; obtain ⟨⟨⟨d0, d1, d2, d3⟩, f0, f1, f2, f3⟩, hpo⟩ := HD.out W2 hFr; have HP := Lib.hid hpo; clear hpo hFr HD))
        rw [hz]
        exact HP.out
      | some r =>
        obtain ⟨P', B'⟩ := r
        rw [hal] at ha
        have hls : lnS (cN L, B) y.2 = some (P', B') := by unfold lnS; rw [hsf, if_pos rfl]; exact hal
        have HD : Hid (∀ W2 L', cN L' = P' → GSt (s + 12) (s + 3) L' B' W2 → Fr (s + 12) (s + 3) A W2 → postC (s + 5) (fun A B => ∀ b, s + 7 ≤ b → b ≤ s + 11 → B.heap[b]? = A.heap[b]?) (LnI s W0) (fun c pre A => c = .ret ∧ PrX s W0 pre A) (pre ++ [y]) A .normal { tmps := #[], defers := [] } W2) := fun W2 L' hL' hS2 hFr => by
          have hNr := nr_fr (nr_below (Below.refl _ A) (s := s) (by omega)) (by omega) hFr
          exact ⟨(nr_keep hNr).1, (nr_keep hNr).2, body_ok hNr ho hf (by rw [hls, hL']) hS2⟩
        clear hf hst ho hSS hEA hls hR0 hb3 hb4 HEA HBW hal
        gi_wp2_with (first | (refine ⟨trivial, fun _ => (by omega), ?_⟩; refine c8.mono ?_; clear c8; rintro e W1 ⟨rfl, rfl⟩) | (refine ⟨trivial, fun _ => (by omega), ?_⟩; refine ha.mono ?_; clear ha; rintro e W2 ⟨hFr, rfl, L', hL', hS2⟩; have HP := Lib.hid (HD.out W2 L' hL' hS2 hFr); clear hS2 hFr HD hL'))
        rw [hz]
        exact HP.out
  case done =>
    rintro ys A rfl ⟨L, B, hf, hst, ho⟩ hK
    rw [numL_map] at hf
    rw [hz] at hK ⊢
    obtain ⟨⟨ak, ck, ab, cb, h3, iK, iB⟩, l61, l121⟩ := sc_of hst
    obtain ⟨zK, zB⟩ := lines_sz hx hf
    have cS := callsIn_wide (n := n - 1) |>.2 (gcheck_any iK iB zK zB (by unfold maxLen; omega) (by unfold maxLen; omega))
    have HD : Hid (∀ W1, Below A.heap.size A W1 → (W1.cell? ⟨s + 1 + 1 + 1, 0, none⟩ = some (.slice ak L.length ck) ∧ W1.cell? ⟨s + 1 + 1 + 1, 1, none⟩ = some (.slice ab B.length cb)) ∧ ((W1.cell? ⟨s, 0, none⟩ = some (.slice none 0 0) ∧ W1.cell? ⟨s, 1, none⟩ = some (.slice none 0 0) ∧ W1.cell? ⟨s + 1, 0, none⟩ = some (.int .i64 0) ∧ W1.cell? ⟨s + 1 + 1, 0, none⟩ = some .nilIface) ∧ W1.frozen? ⟨s, 0, none⟩ = false ∧ W1.frozen? ⟨s, 1, none⟩ = false ∧ W1.frozen? ⟨s + 1, 0, none⟩ = false ∧ W1.frozen? ⟨s + 1 + 1, 0, none⟩ = false)) := fun W1 hB1 => by
      have g3 := (hB1.block _ (Array.getElem?_eq_some_iff.1 h3).1).trans h3
      have r := res_oth hR0 ho
      exact ⟨⟨cell_at g3 rfl, cell_at g3 rfl⟩, Res3.cells ⟨(hB1.block _ (Array.getElem?_eq_some_iff.1 r.1).1).trans r.1, (hB1.block _ (Array.getElem?_eq_some_iff.1 r.2.1).1).trans r.2.1, (hB1.block _ (Array.getElem?_eq_some_iff.1 r.2.2).1).trans r.2.2⟩⟩
    have HR : Hid (∀ W1, Below A.heap.size A W1 → ∀ a b c d, (put3 W1 s a b c d).heap[s + 5]? = some (.deferred (some [])) ∧ Res3 ((put3 W1 s a b c d).putObj (s + 5) (.deferred none)) s a b c d ∧ Oth s W0 ((put3 W1 s a b c d).putObj (s + 5) (.deferred none)) ∧ LnSt s (numL (linesL x)) L B ((put3 W1 s a b c d).putObj (s + 5) (.deferred none)) ∧ ((put3 W1 s a b c d).putObj (s + 5) (.deferred none)).heap[s + 3]? = some (.cells #[.slice ak L.length ck, .slice ab B.length cb] 25 (0, 0))) := fun W1 hB1 a b c d => by
      obtain ⟨u1, u2, u3, u4, u5⟩ := fin3 ho hR0 hK hst hB1 a b c d
      exact ⟨u1, u2, u3, u4, u5.trans h3⟩
    obtain ⟨⟨p0, p1⟩, _⟩ := HD.out A (Below.refl _ _)
    by_cases hse : gErr L B = 0
    · have HS := Lib.hid hse
      rw [hse, errV_0] at cS
      clear hse
      gi_wp2_with (refine ⟨trivial, ?_⟩; gi_at_call 10; refine cS.mono ?_; rintro e W1 ⟨rfl, hB1⟩; obtain ⟨⟨q0, q1⟩, ⟨d0, d1, d2, d3⟩, f0, f1, f2, f3⟩ := HD.out W1 hB1)
      obtain ⟨u1, u2, u3, u4, u5⟩ := HR.out W1 hB1 (.slice ak L.length ck) (.slice ab B.length cb) (.int .i64 0) .nilIface
      refine ⟨by simp, .inl ⟨_, _, rfl, run_takeDeferred u1, ?_⟩⟩
      obtain ⟨⟨v0, v1, v2, v3⟩, _⟩ := u2.cells
      obtain ⟨k1, k3⟩ := sc_at u4 u5
      refine ⟨.tuple #[.agg #[.slice ak L.length ck, .slice ab B.length cb], .int .i64 0, .nilIface], ?_, _, _, _, _, _, _, 0, 0, rfl, HBW.out _ u3, fun _ => ⟨rfl, L, B, hf, HS.out, k1, k3⟩, fun h => absurd rfl h⟩
      simp [results, Tryz.results4, go_sem, v0, v1, v2, v3]
    · have HS := Lib.hid hse
      rw [errV_ne hse] at cS
      generalize hzz : gErr L B = z at *
      clear hse
      gi_wp2_with (refine ⟨trivial, ?_⟩; gi_at_call 10; refine cS.mono ?_; rintro e W1 ⟨rfl, hB1⟩; obtain ⟨⟨q0, q1⟩, ⟨d0, d1, d2, d3⟩, f0, f1, f2, f3⟩ := HD.out W1 hB1)
      obtain ⟨u1, u2, u3, u4, u5⟩ := HR.out W1 hB1 (.slice none 0 0) (.slice none 0 0) (.int .i64 0) (.iface 49 (.int .i64 z))
      refine ⟨by simp, .inl ⟨_, _, rfl, run_takeDeferred u1, ?_⟩⟩
      obtain ⟨⟨v0, v1, v2, v3⟩, _⟩ := u2.cells
      refine ⟨.tuple #[.agg #[.slice none 0 0, .slice none 0 0], .int .i64 0, .iface 49 (.int .i64 z)], ?_, none, 0, 0, none, 0, 0, 0, z, by rw [errV_ne HS.out], HBW.out _ u3, fun h => absurd h HS.out, fun _ => .inr ⟨L, B, hf, hzz⟩⟩
      simp [results, Tryz.results4, go_sem, v0, v1, v2, v3]
  case stop =>
    rintro c pre A hp ⟨rfl, ys, y, st, rfl, e1, e2, e3, e4⟩ hK
    rw [hz] at hK ⊢
    gi_wp2
    refine ⟨by simp, .inl ⟨_, _, rfl, run_takeDeferred hK, ?_⟩⟩
    have e3' := e3.turn (grownBy_putObj' A (s + 5) (.deferred none)) (fun q e => by injection e with e; omega)
    have e4' := e4.turn (by omega) (grownBy_putObj' A (s + 5) (.deferred none)) (fun q e => by injection e with e; omega)
    obtain ⟨⟨v0, v1, v2, v3⟩, _⟩ := e3'.cells
    have g1 := stop_at hp e1 e2
    refine ⟨.tuple #[.agg #[.slice none 0 0, .slice none 0 0], .int .i64 y.1, .iface 49 (.int .i64 2)], ?_, none, 0, 0, none, 0, 0, y.1, 2, rfl, HBW.out _ e4', fun h => absurd h (by decide), fun _ => .inl g1⟩
    simp [results, Tryz.results4, go_sem, v0, v1, v2, v3]
end Go.Proofs.YteabdlandbmdaaaGreatDoor

/-
  strings.Builder's WriteString; record.Print at any record; strconv.Itoa.
-/
namespace Go.Proofs.YteabdlandbmdaaaGreatDoor
open Go.Shelf Go.RowKit
set_option linter.unusedVariables false
set_option linter.unusedSimpArgs false

set_option maxHeartbeats 2000000 in
set_option maxRecDepth 100000 in
theorem writeString_k (B b : Nat) (bs : List Value) (s : ByteArray) (w : World) (h : Lib.IsBuilderF 54 5 B b bs w) (hlen : bs.length + s.size ≤ 140737488355328) (hBw : B ≤ w.heap.size) :
    Calls Tryz.prog 12 #[.pointer (some ⟨b, 0, none⟩), .string s] w fun e w' => e = .returned (.tuple #[.int .i64 s.size, .nilIface]) ∧ (Lib.BuilderAtF 54 5 B b (.pointer (some ⟨b, 0, none⟩)) (bs ++ Lib.strCells s) w' ∧ Below B w w' ∧ Lib.OthersKept 5 (some b) w w') := by
  obtain ⟨i0, hi, hz0, hz1, hz2⟩ := info_parts Tryz.infoByte
  go_enter Tryz.func12, Tryz.ntmps12
  go_wp2_with (go_at_call 30; refine (copyCheck_k B b bs _ h).mono ?_)
  rintro e w1 ⟨rfl, h1, hb1, hk1⟩
  obtain ⟨hB, v, hbk, hown, hne⟩ := h1
  have c0 : w1.cell? ⟨b, 0, none⟩ = some (.pointer (some ⟨b, 0, none⟩)) := by rw [Lib.cell_of_heap hbk]; rfl
  have c1 : w1.cell? ⟨b, 1, none⟩ = some v := by rw [Lib.cell_of_heap hbk]; rfl
  go_wp2_with (at_builtin; refine Lib.wpList_append_own_stringF _ rfl _ _ 52 9 rfl B 5 i0 Tryz.underlying52 Tryz.underlying9 hi hz0 hz1 hz2 _ _ _ rfl hown s rfl ?c3 ?c4 ?c5 ?_)
  case c3 => unfold maxLen; omega
  case c4 => omega
  case c5 => have := hb1.size; omega
  intro v' w2 hown' hgrow _
  have hlt : b < w1.heap.size := by
    rcases Nat.lt_or_ge b w1.heap.size with h' | h'
    · exact h'
    · simp [Array.getElem?_eq_none h'] at hbk
  have hb2 : w2.heap[b]? = some (.cells #[.pointer (some ⟨b, 0, none⟩), v] 54 (0, 0)) := by
    rw [hgrow.block b hlt (fun e => hne e.symm)]
    exact hbk
  have d0 : w2.cell? ⟨b, 0, none⟩ = some (.pointer (some ⟨b, 0, none⟩)) := by rw [Lib.cell_of_heap hb2]; rfl
  have d1 : w2.cell? ⟨b, 1, none⟩ = some v := by rw [Lib.cell_of_heap hb2]; rfl
  have f1 : w2.frozen? ⟨b, 1, none⟩ = false := Lib.frozen_of_heap hb2 1
  obtain ⟨ao, n', cap, rfl⟩ : ∃ ao n' cap, v' = .slice ao n' cap := by
    rcases hown'.2 with ⟨hv, _⟩ | ⟨g, cap, cur, fz, hv, _⟩
    · exact ⟨_, _, _, hv⟩
    · exact ⟨_, _, _, hv⟩
  go_wp2
  go_ret2
  refine ⟨rfl, ?_, ?_, (hk1.grown hgrow (Lib.ownsRowF_kind hown)).setCell ⟨b, 1, none⟩ rfl _⟩
  · exact Lib.BuilderAtF.put (T := 54) (e := 5) hB hb2 (bs' := bs ++ Lib.strCells s) (by simpa [Lib.strCells_length] using hown') (by decide)
  · exact (hb1.grown hgrow (by have := hb1.size; omega) (fun k hk => (hown.lt k hk).1)).setCell (p := ⟨b, 1, none⟩) hB _

theorem bld_on {B b : Nat} {xs : List Value} {w w' : World} (h : Lib.IsBuilderF 54 5 B b xs w) (hB : Below w.heap.size w w') : Lib.IsBuilderF 54 5 B b xs w' := by
  have hg : w.grownBy w' none := ⟨hB.os, hB.tape, hB.output, hB.size, fun k hk _ => hB.block k hk⟩
  have step : ∀ {p}, Lib.BuilderAtF 54 5 B b p xs w → Lib.BuilderAtF 54 5 B b p xs w' := fun {p} h => by
    have hlt := h.lt
    obtain ⟨h1, v, h2, h3, h4⟩ := h
    exact ⟨h1, v, (hB.block b hlt).trans h2, h3.kept hg (Classical.em _), h4⟩
  rcases h with h | h
  · exact .inl (step h)
  · exact .inr (step h)
theorem bytes_app (a b : Nm) : Lib.byteCells (a ++ b) = Lib.byteCells a ++ Lib.strCells (bs b) := by
  rw [Lib.strCells_eq, bs_data]; simp [Lib.byteCells]
theorem rprint_r {v : Value} {L : List Pr} {w : World} (h : IsR w v L) (hs : Sz L) (he : rErr L = 0) (hT : Tab w) :
    Calls Tryz.prog 11 #[v] w fun e w' => e = .returned (.tuple #[.string (bs (showR L)), .nilIface]) ∧ Below w.heap.size w w' := by
  obtain ⟨ao, c, rfl, h0⟩ := h
  have c1 : L = [] → Calls Tryz.prog 27 #[.slice ao 0 c] w fun e w' => e = .returned .nilIface ∧ Below w.heap.size w w' := fun _ => rcheck_nil ao c w
  by_cases hne : L = []
  · subst hne; exact rprint_empty _ c w (c1 rfl)
  · rcases h0 with h0 | ⟨b, off, rfl, hb, hl⟩
    · exact absurd h0 hne
    · exact rprint_some b off c L w hb hl hs he hne hT
theorem itoa_any (v : Int) (w : World) (h1 : 0 ≤ v) (h2 : v ≤ 100000) (hT : Tab w) : Calls Tryz.prog 14 #[.int .i64 v] w fun e w' => e = .returned (.string (bs (Lib.itoa v))) ∧ Below w.heap.size w w' := by
  refine (Tryz.strconv_Itoa v (by omega) (by omega) w hT).mono ?_
  rintro e w' ⟨rfl, k, os, rfl⟩
  exact ⟨rfl, Lib.below_grow _ _ (Nat.le_refl _) k os⟩
end Go.Proofs.YteabdlandbmdaaaGreatDoor
