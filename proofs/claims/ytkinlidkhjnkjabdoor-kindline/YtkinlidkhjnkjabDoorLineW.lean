/-
  The law KindLine of the program: its walk.
-/
import Derived.Test.YtkinlidkhjnkjabDoorLineM
import Derived.Test.YtkinlidkhjnkjabDoorKinO
namespace Go.Proofs.YtkinlidkhjnkjabDoor
open Go.RowKit
set_option linter.unusedVariables false
set_option linter.unusedSimpArgs false

set_option maxHeartbeats 8000000 in
theorem letters_any (k : Nat) (h2 : k < 8) (w : World) : Calls Tryd.prog 7 #[.int .i64 k] w fun e w' => e = .returned (.string (bs (nmL k))) ∧ Below w.heap.size w w' := by
  obtain rfl | rfl | rfl | rfl | rfl | rfl | rfl | rfl : k = 0 ∨ k = 1 ∨ k = 2 ∨ k = 3 ∨ k = 4 ∨ k = 5 ∨ k = 6 ∨ k = 7 := by omega
  all_goals
    go_enter Tryd.func7, Tryd.ntmps7
    go_wp2_with fail
    go_quiet (fail)
    go_wp2
    go_ret
    exact ⟨rfl, b_drewN (Below.refl _ _) _⟩
set_option maxHeartbeats 4000000 in
theorem error_gen (x y : Int) (w : World) (hg : Hnd w) : Calls Tryd.prog 9 #[errV x, .int .i64 y] w fun e w' => e = .returned (.bool (x == y)) ∧ Below w.heap.size w w' := by
  go_enter Tryd.func9, Tryd.ntmps9
  go_wp2_with (go_at_call 25; refine (told_any x _ hg).mono ?_; rintro e w' ⟨rfl, hb⟩)
  go_ret
  exact ⟨rfl, hb⟩

/-- What the kinds of the row have, each in a block of its own. -/
def LP (w : World) (V : Nat → Value × Value) (k : Nat) : Prop := ∀ i, i < k →
  (∃ bf, (V i).2 = .slice (some ⟨bf, 0, none⟩) 1 1 ∧ w.heap[bf]? = some (.cells #[.string (bs (nmL i)), .int .i64 1, .bool false, .bool false] 59 (0, 0))) ∧
  ((i = 0 ∧ (V i).1 = .slice none 0 0) ∨ ∃ bo, (V i).1 = .slice (some ⟨bo, 0, none⟩) 1 1 ∧ 0 < i ∧ w.heap[bo]? = some (.cells #[.string (bs (nmL (i - 1)))] 9 (0, 0)))
theorem LP.on {w w' : World} {V : Nat → Value × Value} {k : Nat} (h : LP w V k) (hB : Below w.heap.size w w') : LP w' V k := fun i hi => by
  obtain ⟨⟨bf, e1, h1⟩, h2⟩ := h i hi
  refine ⟨⟨bf, e1, (hB.block bf (Array.getElem?_eq_some_iff.1 h1).1).trans h1⟩, ?_⟩
  rcases h2 with h2 | ⟨bo, e2, e3, h2⟩
  · exact .inl h2
  · exact .inr ⟨bo, e2, e3, (hB.block bo (Array.getElem?_eq_some_iff.1 h2).1).trans h2⟩
theorem LP.grown {w w' : World} {V : Nat → Value × Value} {k : Nat} (h : LP w V k) {v : Value} {base n : Nat} {xs : List Value} (ho : w.ownsRow base 61 3 v n xs) (hg : w.grownBy w' v.ownBlock) : LP w' V k := fun i hi => by
  have hne : ∀ (b : Nat) (c : Array Value) (e : TypeId), w.heap[b]? = some (.cells c e (0, 0)) → e ≠ 61 → w'.heap[b]? = w.heap[b]? := fun b c e hb he =>
    hg.block b (Array.getElem?_eq_some_iff.1 hb).1 (fun e1 => by
      rcases ho.2 with ⟨rfl, _⟩ | ⟨g, cap, cur, rfl, _, hgg, _⟩
      · cases e1
      · have : b = g := by simpa [Value.ownBlock] using e1
        subst this
        rw [hb] at hgg
        injection hgg with e2
        injection e2 with _ e3 _
        exact he e3)
  obtain ⟨⟨bf, e1, h1⟩, h2⟩ := h i hi
  refine ⟨⟨bf, e1, (hne bf _ _ h1 (by decide)).trans h1⟩, ?_⟩
  rcases h2 with h2 | ⟨bo, e2, e3, h2⟩
  · exact .inl h2
  · exact .inr ⟨bo, e2, e3, (hne bo _ _ h2 (by decide)).trans h2⟩
theorem LP.parts {w : World} {V : Nat → Value × Value} {k : Nat} (h : LP w V k) : Parts w (line V k) := fun x hx => by
  obtain ⟨i, hi⟩ := List.mem_iff_getElem?.1 hx
  have hlt : i < k := by have := (List.getElem?_eq_some_iff.1 hi).1; rwa [line_len] at this
  rw [line_at V k i hlt] at hi
  obtain rfl := Option.some.inj hi
  obtain ⟨⟨bf, e1, h1⟩, h2⟩ := h i hlt
  refine ⟨?_, ?_⟩
  · rcases h2 with ⟨rfl, e2⟩ | ⟨bo, e2, e3, h2⟩
    · exact .inl ⟨e2, rfl⟩
    · refine .inr ⟨bo, 0, 1, ?_, ?_, by decide, (Array.getElem?_eq_some_iff.1 h2).1, ?_⟩
      · show (V i).1 = _
        rw [e2]; unfold lineK; simp [show ¬ i = 0 by omega]
      · unfold lineK; simp [show ¬ i = 0 by omega]
      · intro m n hm
        unfold lineK at hm
        simp only [show ¬ i = 0 by omega, if_false] at hm
        match m, hm with
        | 0, hm => simp at hm; subst hm; rw [cell_of_row w bo _ _ 9 (0, 0) h2]; rfl
        | m + 1, hm => simp at hm
  · refine .inr ⟨bf, 0, 1, e1, Nat.le_refl _, by decide, (Array.getElem?_eq_some_iff.1 h1).1, ?_⟩
    intro m n hm
    unfold lineK at hm
    match m, hm with
    | 0, hm =>
      simp at hm; subst hm
      refine ⟨?_, ?_, ?_, ?_⟩ <;> rw [cell_of_row w bf _ _ 59 (0, 0) h1] <;> rfl
    | m + 1, hm => simp at hm
theorem line_congr (V V' : Nat → Value × Value) (k : Nat) (h : ∀ i, i < k → V i = V' i) : line V k = line V' k := by
  induction k with
  | zero => rfl
  | succ k ih =>
    unfold line
    rw [ih (fun i hi => h i (by omega))]
    congr 2
    unfold lineK
    rw [h k (by omega)]
/-- Between two rounds. -/
def LR (w : World) (n : Nat) (v5 i : Value) (wr : World) : Prop :=
  ∃ (k : Nat) (V : Nat → Value × Value), k ≤ n ∧ i = .int .i64 k ∧ wr.ownsRow w.heap.size 61 3 v5 k (cellsK (line V k)) ∧ LP wr V k ∧ Below w.heap.size w wr
theorem lr_step {w wr Wc w1 : World} {n k : Nat} {v5 v1 vo vf : Value} {V : Nat → Value × Value} (hk : k < n) (hlp : LP wr V k) (hB : Below w.heap.size w wr) (hBc : Below wr.heap.size wr Wc) (hown : wr.ownsRow w.heap.size 61 3 v5 k (cellsK (line V k)))
    (hf : ∃ bf, vf = .slice (some ⟨bf, 0, none⟩) 1 1 ∧ Wc.heap[bf]? = some (.cells #[.string (bs (nmL k)), .int .i64 1, .bool false, .bool false] 59 (0, 0)))
    (ho : (k = 0 ∧ vo = .slice none 0 0) ∨ ∃ bo, vo = .slice (some ⟨bo, 0, none⟩) 1 1 ∧ 0 < k ∧ Wc.heap[bo]? = some (.cells #[.string (bs (nmL (k - 1)))] 9 (0, 0)))
    (hown1 : w1.ownsRow w.heap.size 61 3 v1 (k + 1) (cellsK (line V k) ++ [.string (bs (nmL k)), vo, vf])) (hg : Wc.grownBy w1 v5.ownBlock) : LR w n v1 (.int .i64 ((k + 1 : Nat) : Int)) w1 := by
  have hownc := own_below hown hBc
  have e0 : line (fun i => if i = k then (vo, vf) else V i) k = line V k := line_congr _ _ _ (fun i hi => by simp [show ¬ i = k by omega])
  refine ⟨k + 1, fun i => if i = k then (vo, vf) else V i, by omega, rfl, ?_, ?_, ?_⟩
  · have : cellsK (line (fun i => if i = k then (vo, vf) else V i) (k + 1)) = cellsK (line V k) ++ [.string (bs (nmL k)), vo, vf] := by
      show cellsK (line _ k ++ [lineK _ k]) = _
      rw [cellsK_app, e0]
      simp [cellsK, Kd.cells, lineK]
    rw [this]; exact hown1
  · refine LP.grown (w := Wc) ?_ hownc hg
    intro i hi
    by_cases hik : i = k
    · subst hik
      simp only [if_true]
      exact ⟨hf, ho⟩
    · have := (hlp.on hBc) i (by omega)
      simp only [hik, if_false]
      exact this
  · have hBw : Below w.heap.size w Wc := on1 hB hBc (Nat.le_refl _)
    exact hBw.grown hg hBw.size (fun k hk => (hownc.lt k hk).1)

set_option maxHeartbeats 8000000 in
set_option maxRecDepth 100000 in
theorem line_any (n a : Int) (w : World) (hg : Hnd w) : Calls Tryd.prog 5 #[.int .i64 n, .int .i64 a] w fun e w' => e = .returned (.bool true) ∧ Below w.heap.size w w' := by
  obtain ⟨i0, hi0, hz0, hz1, hz2⟩ := info_parts info61
  by_cases hn : 1 ≤ n ∧ n ≤ 8
  · obtain ⟨m, rfl⟩ : ∃ m : Nat, n = m := ⟨n.toNat, by omega⟩
    have hm1 : 1 ≤ m := by omega
    have hm8 : m ≤ 8 := by omega
    have hd1 : ¬ (m : Int) < 1 := by omega
    have hd2 : ¬ (8 : Int) < (m : Int) := by omega
    clear hn
    go_enter Tryd.func5, Tryd.ntmps5
    go_wp2
    go_loopw [5, 6] (fun v5 i wr => LR w m v5 i wr) (fun _ i _ => m - (intOf i).toNat)
    case atStart => exact ⟨0, fun _ => (.nilIface, .nilIface), Nat.zero_le _, rfl, World.ownsRow_nil _ _ _ _, fun i hi => absurd hi (Nat.not_lt_zero _), Below.refl _ _⟩
    case round =>
      obtain ⟨k, V, hk, rfl, hown, hlp, hB⟩ := hrel
      by_cases hlt : k < m
      · have HR : Hid (wr.ownsRow w.heap.size 61 3 u5 k (cellsK (line V k)) ∧ LP wr V k ∧ Below w.heap.size w wr) := ⟨hown, hlp, hB⟩
        have cl := letters_any k (by omega)
        have HM : Hid (k + 1 ≤ maxLen ∧ (k + 1) * 64 ≤ 140737488355328) := by unfold maxLen; exact ⟨by omega, by omega⟩
        clear hown hlp hB
        cases k with
        | zero =>
          go_wp2_with (go_at_call 7; refine (cl _).mono ?_; rintro e W1 ⟨rfl, hB1⟩; refine Hid.out ?_)
          refine Lib.hid ?_
          go_wp2_with (go_at_call 7; refine (cl _).mono ?_; rintro e W2 ⟨rfl, hB2⟩; refine Hid.out ?_)
          refine Lib.hid ?_
          have hBc : Below wr.heap.size wr (((W2.alloc (.cells #[.string (bs (nmL 0)), .int .i64 1, .bool false, .bool false] 59)).alloc (.cells #[.string (bs (nmL 0)), .slice none 0 0, .slice (some ⟨W2.heap.size, 0, none⟩) 1 1] 61)).alloc (.cells #[.string (bs (nmL 0)), .slice none 0 0, .slice (some ⟨W2.heap.size, 0, none⟩) 1 1] 61)) :=
            b_alloc (b_alloc (b_alloc (on1 hB1 hB2 (Nat.le_refl _)) (Nat.le_refl _) _) (Nat.le_refl _) _) (Nat.le_refl _) _
          have HO : Hid ((((W2.alloc (.cells #[.string (bs (nmL 0)), .int .i64 1, .bool false, .bool false] 59)).alloc (.cells #[.string (bs (nmL 0)), .slice none 0 0, .slice (some ⟨W2.heap.size, 0, none⟩) 1 1] 61)).alloc (.cells #[.string (bs (nmL 0)), .slice none 0 0, .slice (some ⟨W2.heap.size, 0, none⟩) 1 1] 61)).ownsRow w.heap.size 61 3 u5 0 (cellsK (line V 0)) ∧ Below wr.heap.size wr (((W2.alloc (.cells #[.string (bs (nmL 0)), .int .i64 1, .bool false, .bool false] 59)).alloc (.cells #[.string (bs (nmL 0)), .slice none 0 0, .slice (some ⟨W2.heap.size, 0, none⟩) 1 1] 61)).alloc (.cells #[.string (bs (nmL 0)), .slice none 0 0, .slice (some ⟨W2.heap.size, 0, none⟩) 1 1] 61))) := ⟨own_below HR.out.1 hBc, hBc⟩
          have hnw := new_at ((W2.alloc (.cells #[.string (bs (nmL 0)), .int .i64 1, .bool false, .bool false] 59)).alloc (.cells #[.string (bs (nmL 0)), .slice none 0 0, .slice (some ⟨W2.heap.size, 0, none⟩) 1 1] 61)) [.string (bs (nmL 0)), .slice none 0 0, .slice (some ⟨W2.heap.size, 0, none⟩) 1 1] 61
          rw [show ((W2.alloc (.cells #[.string (bs (nmL 0)), .int .i64 1, .bool false, .bool false] 59)).alloc (.cells #[.string (bs (nmL 0)), .slice none 0 0, .slice (some ⟨W2.heap.size, 0, none⟩) 1 1] 61)).heap.size = W2.heap.size + 1 + 1 by simp] at hnw
          have hbw : w.heap.size ≤ wr.heap.size := HR.out.2.2.size
          clear hBc cl
          go_wp2_with (at_builtin; refine wpList_append_own _ rfl (.tmp 41) (.tmp 43) 38 rfl w.heap.size 61 i0 _ 3 64 Tryd.underlying38 hi0 hz0 hz1 hz2 rfl (by decide) u5 0 (cellsK (line V 0)) rfl HO.out.1 ⟨W2.heap.size + 1 + 1, 0, none⟩ 1 1 [.string (bs (nmL 0)), .slice none 0 0, .slice (some ⟨W2.heap.size, 0, none⟩) 1 1] rfl rfl hnw (by simp [Value.oneCell']) HM.out.1 HM.out.2 (Nat.le_trans hbw HO.out.2.size) ?_; intro v1 w1 hown1 hgrow1 _; refine Hid.out ?_)
          refine Lib.hid ?_
          have hfb : (((W2.alloc (.cells #[.string (bs (nmL 0)), .int .i64 1, .bool false, .bool false] 59)).alloc (.cells #[.string (bs (nmL 0)), .slice none 0 0, .slice (some ⟨W2.heap.size, 0, none⟩) 1 1] 61)).alloc (.cells #[.string (bs (nmL 0)), .slice none 0 0, .slice (some ⟨W2.heap.size, 0, none⟩) 1 1] 61)).heap[W2.heap.size]? = some (.cells #[.string (bs (nmL 0)), .int .i64 1, .bool false, .bool false] 59 (0, 0)) := by
            rw [Below.heap_alloc _ _ _ (by simp; omega), Below.heap_alloc _ _ _ (by simp)]; exact heap_alloc_new W2 _
          have R : LR w m v1 (.int .i64 ((0 + 1 : Nat) : Int)) w1 := lr_step hlt HR.out.2.1 HR.out.2.2 HO.out.2 HR.out.1 ⟨W2.heap.size, rfl, hfb⟩ (.inl ⟨rfl, rfl⟩) hown1 hgrow1
          have HRR : Hid (LR w m v1 (.int .i64 ((0 + 1 : Nat) : Int)) w1) := R
          clear R hown1 hfb hnw
          go_wp2
          refine ⟨?_, ?_⟩
          · first | exact HRR.out | ((repeat apply Exists.intro); refine ⟨?_, rfl⟩; exact HRR.out)
          · simp [intOf]
            try omega
        | succ k =>
          have cl2 := letters_any k (by omega)
          have hk8 : k < 8 := by omega
          go_wp2_with (go_at_call 7; refine (cl _).mono ?_; rintro e W1 ⟨rfl, hB1⟩; refine Hid.out ?_)
          refine Lib.hid ?_
          go_wp2_with (go_at_call 7; refine (cl _).mono ?_; rintro e W2 ⟨rfl, hB2⟩; refine Hid.out ?_)
          refine Lib.hid ?_
          clear cl
          obtain ⟨F, hF⟩ : ∃ F : Obj, F = .cells #[.string (bs (nmL (k + 1))), .int .i64 1, .bool false, .bool false] 59 := ⟨_, rfl⟩
          obtain ⟨Kb, hKb⟩ : ∃ Kb : Obj, Kb = .cells #[.string (bs (nmL (k + 1))), .slice none 0 0, .slice (some ⟨W2.heap.size, 0, none⟩) 1 1] 61 := ⟨_, rfl⟩
          have hBb : Below wr.heap.size wr ((W2.alloc F).alloc Kb) := b_alloc (b_alloc (on1 hB1 hB2 (Nat.le_refl _)) (Nat.le_refl _) _) (Nat.le_refl _) _
          go_wp2_with (go_at_call 7; refine (cl2 _).mono ?_; rintro e W3 ⟨rfl, hB3⟩; refine Hid.out ?_)
          refine Lib.hid ?_
          rw [← hF, ← hKb] at hB3
          have g0 := hB3.cell (p := ⟨W2.heap.size + 1, 0, none⟩) (by simp)
          have g1 := hB3.cell (p := ⟨W2.heap.size + 1, 1, none⟩) (by simp)
          have g2 := hB3.cell (p := ⟨W2.heap.size + 1, 2, none⟩) (by simp)
          have g3 := hB3.frozen (p := ⟨W2.heap.size + 1, 1, none⟩) (by simp)
          have hs3 : W2.heap.size + 1 < W3.heap.size := Nat.lt_of_lt_of_le (by simp) hB3.size
          have hne3 : ¬ W2.heap.size + 1 = W3.heap.size := by omega
          simp [hKb] at g0 g1 g2 g3
          have HB3 : Hid (Below ((W2.alloc F).alloc Kb).heap.size ((W2.alloc F).alloc Kb) W3 ∧ Below wr.heap.size wr ((W2.alloc F).alloc Kb)) := ⟨hB3, hBb⟩
          have hws : wr.heap.size ≤ W2.heap.size := (on1 hB1 hB2 (Nat.le_refl _)).size
          obtain ⟨Wb, hWb⟩ : ∃ Wb, Wb = (W3.setCell ⟨W2.heap.size + 1, 1, none⟩ (.slice (some ⟨W3.heap.size, 0, none⟩) 1 1)).alloc (.cells #[.string (bs (nmL k))] 9) := ⟨_, rfl⟩
          have hss : (W3.setCell ⟨W2.heap.size + 1, 1, none⟩ (.slice (some ⟨W3.heap.size, 0, none⟩) 1 1)).heap.size = W3.heap.size := by simp
          have hBWb : Below wr.heap.size wr Wb := by
            rw [hWb]
            exact b_alloc ((on1 hBb hB3 (Nat.le_refl _)).setCell (by show wr.heap.size ≤ W2.heap.size + 1; omega) _) (Nat.le_refl _) _
          have hWbs : Wb.heap.size = W3.heap.size + 1 := by rw [hWb]; simp
          have hfb : Wb.heap[W2.heap.size]? = some F := by
            rw [hWb, Below.heap_alloc _ _ _ (by rw [hss]; omega), Below.heap_setCell _ _ _ _ (by show W2.heap.size ≠ W2.heap.size + 1; omega), hB3.block _ (by simp; omega), Below.heap_alloc _ _ _ (by simp)]; exact heap_alloc_new W2 _
          have hob : Wb.heap[W3.heap.size]? = some (.cells #[.string (bs (nmL k))] 9 (0, 0)) := by
            have := heap_alloc_new (W3.setCell ⟨W2.heap.size + 1, 1, none⟩ (.slice (some ⟨W3.heap.size, 0, none⟩) 1 1)) (.cells #[.string (bs (nmL k))] 9 (0, 0))
            rw [hss] at this
            rw [hWb]; exact this
          obtain ⟨Kc, hKc⟩ : ∃ Kc : Obj, Kc = .cells #[.string (bs (nmL (k + 1))), .slice (some ⟨W3.heap.size, 0, none⟩) 1 1, .slice (some ⟨W2.heap.size, 0, none⟩) 1 1] 61 := ⟨_, rfl⟩
          have hBc : Below wr.heap.size wr (Wb.alloc Kc) := b_alloc hBWb (Nat.le_refl _) _
          have hnw := new_at Wb [.string (bs (nmL (k + 1))), .slice (some ⟨W3.heap.size, 0, none⟩) 1 1, .slice (some ⟨W2.heap.size, 0, none⟩) 1 1] 61
          rw [hWbs] at hnw
          have HO : Hid ((Wb.alloc Kc).ownsRow w.heap.size 61 3 u5 (k + 1) (cellsK (line V (k + 1))) ∧ Below wr.heap.size wr (Wb.alloc Kc)) := ⟨own_below HR.out.1 hBc, hBc⟩
          have HS : Hid ((Wb.alloc Kc).heap[W2.heap.size]? = some F ∧ (Wb.alloc Kc).heap[W3.heap.size]? = some (.cells #[.string (bs (nmL k))] 9 (0, 0))) := ⟨by rw [Below.heap_alloc _ _ _ (by omega)]; exact hfb, by rw [Below.heap_alloc _ _ _ (by omega)]; exact hob⟩
          have hbw : w.heap.size ≤ (Wb.alloc Kc).heap.size := Nat.le_trans HR.out.2.2.size hBc.size
          clear hBc cl2 hB1 hB2 hB3 hBb hBWb hfb hob hss
          subst hWb
          subst hKc
          subst hF
          go_wp2_with (at_builtin; refine wpList_append_own _ rfl (.tmp 41) (.tmp 43) 38 rfl w.heap.size 61 i0 _ 3 64 Tryd.underlying38 hi0 hz0 hz1 hz2 rfl (by decide) u5 (k + 1) (cellsK (line V (k + 1))) rfl HO.out.1 ⟨W3.heap.size + 1, 0, none⟩ 1 1 [.string (bs (nmL (k + 1))), .slice (some ⟨W3.heap.size, 0, none⟩) 1 1, .slice (some ⟨W2.heap.size, 0, none⟩) 1 1] rfl rfl hnw (by simp [Value.oneCell']) HM.out.1 HM.out.2 hbw ?_; intro v1 w1 hown1 hgrow1 _; refine Hid.out ?_)
          refine Lib.hid ?_
          have R : LR w m v1 (.int .i64 ((k + 1 + 1 : Nat) : Int)) w1 := lr_step hlt HR.out.2.1 HR.out.2.2 HO.out.2 HR.out.1 ⟨W2.heap.size, rfl, HS.out.1⟩ (.inr ⟨W3.heap.size, rfl, by omega, HS.out.2⟩) hown1 hgrow1
          have HRR : Hid (LR w m v1 (.int .i64 ((k + 1 + 1 : Nat) : Int)) w1) := R
          clear R hown1 hnw
          go_wp2
          refine ⟨?_, ?_⟩
          · first | exact HRR.out | ((repeat apply Exists.intro); refine ⟨?_, rfl⟩; exact HRR.out)
          · simp [intOf]
            try omega
      · have hkm : k = m := by omega
        subst hkm
        have hlen := line_len V k
        have hK : IsK wr u5 (line V k) := own_isK (by rw [hlen]; exact hown)
        have hP := hlp.parts
        have hz : SzK (line V k) := fun x hx => by
          obtain ⟨i, hi⟩ := List.mem_iff_getElem?.1 hx
          have hlt : i < k := by have := (List.getElem?_eq_some_iff.1 hi).1; rwa [line_len] at this
          rw [line_at V k i hlt] at hi
          obtain rfl := Option.some.inj hi
          exact ⟨by show (2 : Nat) ≤ maxLen; decide, fun f hf => by
            have : f = ⟨nmL i, 1, false, false⟩ := by simpa [lineK] using hf
            subst this; show (2 : Nat) ≤ maxLen; decide⟩
        have HH : Hid (IsK wr u5 (line V k) ∧ Parts wr (line V k) ∧ SzK (line V k) ∧ Below w.heap.size w wr ∧ Hnd w) := ⟨hK, hP, hz, hB, hg⟩
        have hgw : ∀ W, Below w.heap.size w W → Hnd W := fun W h => (h.cell (p := ⟨0, 0, none⟩) (by
          have := hg; exact World.block_lt_of_cell? w _ this)).trans hg
        have HG : Hid (∀ W, Below w.heap.size w W → Hnd W) := hgw
        by_cases ha : 0 ≤ a ∧ a < (k : Int)
        · obtain ⟨j, rfl⟩ : ∃ j : Nat, a = j := ⟨a.toNat, by omega⟩
          have hjk : j < k := by omega
          have hok := line_ok V k j hjk hm8
          unfold lineOk at hok
          simp only [Bool.and_eq_true, beq_iff_eq, decide_eq_true_eq] at hok
          obtain ⟨⟨⟨o1, o2⟩, o3⟩, o4⟩ := hok
          have HL : Hid ((nms (kin (line V k) (nmL j))).length = j + 1 ∧ (under (line V k) (nmL j)).length = k - j ∧ (fields (line V k) (nmL j)).length = j + 1 ∧ nmErr (line V k) (nmL j) = 0) := ⟨by unfold nms; rw [List.length_map]; exact o1, o2, o3, o4⟩
          have cl := letters_any j (by omega)
          have hj0 : ¬ (j : Int) < 0 := by omega
          have hjk' : ¬ (k : Int) ≤ (j : Int) := by omega
          clear hown hlp hB hK hP hz hlen ha o1 o2 o3 o4 hgw HG
          go_wp2_with (go_at_call 7; refine (cl _).mono ?_; rintro e W1 ⟨rfl, hB1⟩; refine Hid.out ?_)
          refine Lib.hid ?_
          have c1 := kin_any (HH.out.1.on hB1) (HH.out.2.1.on hB1) HH.out.2.2.1 (nmL j)
          go_wp2_with (go_at_call 17; refine c1.mono ?_; rintro e W2 ⟨v2, rfl, hown2, hno2, hB2⟩; refine Hid.out ?_)
          refine Lib.hid ?_
          obtain ⟨a2, n2, rfl⟩ := own_slice (hown2 HL.out.2.2.2)
          rw [HL.out.2.2.2, errV_0, HL.out.1]
          have hBa2 := on1 hB1 hB2 (Nat.le_refl _)
          clear c1 hown2 hno2
          go_wp2_with (go_at_call 7; refine (cl _).mono ?_; rintro e W3 ⟨rfl, hB3⟩; refine Hid.out ?_)
          refine Lib.hid ?_
          have hBa3 := on1 hBa2 hB3 (Nat.le_refl _)
          have c2 := under_any (HH.out.1.on hBa3) (HH.out.2.1.on hBa3) HH.out.2.2.1 (nmL j)
          go_wp2_with (go_at_call 19; refine c2.mono ?_; rintro e W4 ⟨v4, rfl, hown4, hno4, hB4⟩; refine Hid.out ?_)
          refine Lib.hid ?_
          obtain ⟨a4, n4, rfl⟩ := own_slice (hown4 HL.out.2.2.2)
          rw [HL.out.2.2.2, errV_0, HL.out.2.1]
          have hBa4 := on1 hBa3 hB4 (Nat.le_refl _)
          clear c2 hown4 hno4
          go_wp2_with (go_at_call 7; refine (cl _).mono ?_; rintro e W5 ⟨rfl, hB5⟩; refine Hid.out ?_)
          refine Lib.hid ?_
          have hBa5 := on1 hBa4 hB5 (Nat.le_refl _)
          have c3 := fields_any (HH.out.1.on hBa5) (HH.out.2.1.on hBa5) HH.out.2.2.1 (nmL j)
          go_wp2_with (go_at_call 20; refine c3.mono ?_; rintro e W6 ⟨v6, rfl, hown6, hno6, hB6⟩; refine Hid.out ?_)
          refine Lib.hid ?_
          obtain ⟨a6, n6, rfl⟩ := own_slice (hown6 HL.out.2.2.2).1
          rw [HL.out.2.2.2, errV_0, HL.out.2.2.1]
          have hBa6 := on1 hBa5 hB6 (Nat.le_refl _)
          have hkj : ((k - j : Nat) : Int) = (k : Int) - (j : Int) := by omega
          clear c3 hown6 hno6 cl
          go_wp2
          go_ret
          exact ⟨by first | rfl | simp [hkj], on1 HH.out.2.2.2.1 hBa6 (Nat.le_refl _)⟩
        · have hno := line_no V k hm1 hm8
          unfold lineNo at hno
          have HE : Hid (nmErr (line V k) [122, 122, 122] = 5) := by
            show _ = _
            exact of_decide_eq_true hno
          have hout : a < 0 ∨ (¬ a < 0 ∧ (k : Int) ≤ a) := by omega
          have c1 := kin_any hK hP hz [122, 122, 122]
          have c1' : Calls Tryd.prog 17 #[u5, .string ⟨#[122, 122, 122]⟩] wr (KPost wr (line V k) [122, 122, 122]) := c1
          clear hown hlp hB hK hP hz hlen ha hno c1 hgw
          rcases hout with h1 | ⟨h1, h2⟩
          all_goals
            go_wp2_with (go_at_call 17; refine c1'.mono ?_; rintro e W2 ⟨v2, rfl, hown2, hno2, hB2⟩; refine Hid.out ?_)
            refine Lib.hid ?_
            obtain rfl := hno2 (by rw [HE.out]; decide)
            rw [HE.out]
            have hBw2 := on1 HH.out.2.2.2.1 hB2 (Nat.le_refl _)
            have c2 := error_gen 5 5 W2 (HG.out W2 hBw2)
            clear c1' hown2 hno2
            go_wp2_with (go_at_call 9; refine c2.mono ?_; rintro e W3 ⟨rfl, hB3⟩)
            go_ret
            exact ⟨rfl, on1 hBw2 hB3 (Nat.le_refl _)⟩
  · have hn' : n < 1 ∨ (¬ n < 1 ∧ 8 < n) := by omega
    clear hn
    rcases hn' with h1 | ⟨h1, h2⟩
    all_goals
      go_enter Tryd.func5, Tryd.ntmps5
      go_wp2
      go_ret
      exact ⟨rfl, Below.refl _ _⟩
end Go.Proofs.YtkinlidkhjnkjabDoor
