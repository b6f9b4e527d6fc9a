/-
  The walk of strings.Lines's iterator.
-/
import Derived.Test.YtgjlonilbhlneaaGreatDoorM13
import Derived.Test.YtgjlonilbhlneaaGreatDoorM19
import Derived.Lib.SplitLaws
namespace Go.Proofs.YtgjlonilbhlneaaGreatDoor
open Go.RowKit Go.Shelf
attribute [local go_sem] Oper.semAt_some
set_option linter.unusedVariables false
set_option linter.unusedSimpArgs false

theorem bs_take (l : Nm) (i : Nat) : (bs l).extract 0 i = bs (l.take i) := by
  rw [← bs_self ((bs l).extract 0 i), Lib.toList_data]
  congr 1
  rw [ByteArray.data_extract, Array.toList_extract, bs_data]
  simp [List.extract]
theorem bs_drop (l : Nm) (i : Nat) : (bs l).extract i l.length = bs (l.drop i) := by
  rw [← bs_self ((bs l).extract i l.length), Lib.toList_data]
  congr 1
  rw [ByteArray.data_extract, Array.toList_extract, bs_data]
  simp only [List.extract]
  rw [List.take_of_length_le (by simp)]
theorem gr_drew {w w' : World} {row : Option Nat} (h : w.grownBy w' row) : w.grownBy w'.drew row := ⟨h.os, h.tape, h.output, h.size, h.block⟩
def txtL (w : World) (b : Nat) : Nat := match w.heap[b]? with
  | some (Obj.cells cs _ _) => (match cs[0]? with | some (Value.string s) => s.size | _ => 0)
  | _ => 0
theorem txtL_of {w : World} {b : Nat} {s : ByteArray} (h : w.heap[b]? = some (.cells #[.string s] 9 (0, 0))) : txtL w b = s.size := by unfold txtL; rw [h]; rfl
set_option maxHeartbeats 4000000 in
set_option maxRecDepth 100000 in
theorem lines1_in (n l Bs : Nat) (hn : 1 ≤ n) (x : Nm) (hx : x.length ≤ 1000000000) (Kp : World → World → Prop) (hKp : ∀ A B, Kp A B → B.heap[Bs]? = A.heap[Bs]?) (J Jx : List Nm → World → Prop) (hJk : AbidesC (· = Bs) J)
    (hY : ∀ pre y W, J pre W → pre.length < (linesL x).length → y.length ≤ x.length → YieldAt Fence.wide (n - 1) Tryz.prog l #[.string (bs y)] W fun e W' =>
      (e = .returned (.bool true) ∧ J (pre ++ [y]) W' ∧ Kp W W') ∨ (e = .returned (.bool false) ∧ Jx (pre ++ [y]) W' ∧ Kp W W'))
    (W : World) (hB : W.heap[Bs]? = some (.cells #[.string (bs x)] 9 (0, 0))) (h0 : J [] W) :
    CallsIn Fence.wide n Tryz.prog 82 #[.func (.yield l) #[] #[], .pointer (some ⟨Bs, 0, none⟩)] W fun e W' => (∃ v, e = .returned v) ∧
      ((∃ ys, ys = linesL x ∧ J ys W') ∨ (∃ pre, pre <+: linesL x ∧ Jx pre W')) := by
  refine callsIn_of_wp Tryz.func82 rfl trivial ?_ rfl
  simp only [Tryz.ntmps82, List.size_toArray, List.length_cons, List.length_nil, Nat.reduceAdd, Nat.reduceSub, Array.replicate_succ, Array.replicate_zero, List.push_toArray, List.append_toArray, List.nil_append, List.cons_append]
  gi_wp2
  gi_loopw [4] (fun p wr => ∃ (pre : List Nm) (r : Nm), linesL x = pre ++ linesL r ∧ r.length ≤ x.length ∧ wr.heap[Bs]? = some (.cells #[.string (bs r)] 9 (0, 0)) ∧ J pre wr)
    (fun _ wr => txtL wr Bs)
  case atStart =>
    exact ⟨[], x, rfl, Nat.le_refl _, hB, h0⟩
  case round =>
    obtain ⟨pre, r, hx', hr, hb, hJs⟩ := hrel
    have hc : wr.cell? ⟨Bs, 0, none⟩ = some (.string (bs r)) := cellB (i := 0) hb rfl
    have hf : wr.frozen? ⟨Bs, 0, none⟩ = false := frzB (i := 0) hb
    by_cases hrn : r = []
    · subst hrn
      gi_wp2
      go_end0
      exact ⟨⟨_, rfl⟩, .inl ⟨pre, by simp [hx', linesL_nil], hJs⟩⟩
    · have hpos : 0 < r.length := List.length_pos_iff.2 hrn
      have hbl : (bs r).data.toList = r := by simp [bs]
      have c83 := callsIn_wide (n := n - 1) |>.2 ((Tryz.strings_IndexByte (bs r) 10 wr).mono (R' := fun e w' => e = .returned (.int .i64 (Lib.indexByte (bs r).data.toList (10 : Int).toNat.toUInt8)) ∧ wr = w') fun e w' h => ⟨h.1, h.2.symm⟩)
      rw [hbl, show (10 : Int).toNat.toUInt8 = 10 from rfl] at c83
      have hlen : pre.length < (linesL x).length := by rw [hx', linesL_cons hrn]; simp
      by_cases hm : Lib.indexByte r 10 = -1
      · have hcut : cutL r = (r, []) := by unfold cutL; rw [if_pos hm]
        rw [hm] at c83
        obtain ⟨fn, tmps, assign, body, hy, hR⟩ := hY pre r (wr.setCell ⟨Bs, 0, none⟩ (.string ⟨#[]⟩)) (hJk pre _ _ _ hJs (grownBy_setCell' wr Bs _) (fun r e => by cases e; rfl)) hlen hr
        gi_wp2_with (refine ⟨trivial, ?_⟩; gi_at_call 83; refine c83.mono ?_; rintro e w' ⟨rfl, rfl⟩)
        refine hR.mono ?_
        rintro e W3 (⟨rfl, hJ3, hk3⟩ | ⟨rfl, hJx3, _⟩)
        · have hb3 := (hKp _ _ hk3).trans ((heap_setCell_same wr Bs 0 _ 9 _ hb).trans rfl)
          gi_wp2
          go_roundw
          case rel => exact ⟨pre ++ [r], [], by rw [hx', linesL_cons hrn, hcut]; simp [linesL_nil], Nat.zero_le _, hb3, hJ3⟩
          case measure => rw [txtL_of hb3, txtL_of hb, bs_size]; exact hpos
        · gi_wp2
          refine bodyPost_ret (results_none rfl _ _ _) rfl ?_
          exact ⟨⟨_, rfl⟩, .inr ⟨pre ++ [r], by rw [hx', linesL_cons hrn, hcut]; simp [linesL_nil], hJx3⟩⟩
      · obtain ⟨i, hi⟩ : ∃ i : Nat, Lib.indexByte r 10 = i := ⟨(Lib.indexByte r 10).toNat, by have := Lib.indexByte_ge r 10; omega⟩
        have hil : i < r.length := by have := (Lib.indexByte_some hi).1; exact (List.getElem?_eq_some_iff.1 this).1
        have hcut : cutL r = (r.take (i + 1), r.drop (i + 1)) := by unfold cutL; rw [if_neg hm, hi]; rfl
        rw [hi] at c83
        have hbz : (bs r).size = r.length := bs_size r
        gi_wp2_with (refine ⟨trivial, ?_⟩; gi_at_call 83; refine c83.mono ?_; rintro e w' ⟨rfl, rfl⟩)
        obtain ⟨fn, tmps, assign, body, hy, hR⟩ := hY pre (r.take (i + 1)) ((wr.setCell ⟨Bs, 0, none⟩ (.string (bs (r.drop (i + 1))))).drew) (hJk pre _ _ _ hJs (gr_drew (grownBy_setCell' wr Bs _)) (fun r e => by cases e; rfl)) hlen (by rw [List.length_take]; omega)
        gi_region
        rw [bs_take, bs_drop]
        have hbW : (wr.setCell ⟨Bs, 0, none⟩ (.string (bs (r.drop (i + 1))))).drew.heap[Bs]? = some (.cells #[.string (bs (r.drop (i + 1)))] 9 (0, 0)) := (heap_setCell_same wr Bs 0 _ 9 _ hb).trans rfl
        gi_wp2
        refine hR.mono ?_
        rintro e W3 (⟨rfl, hJ3, hk3⟩ | ⟨rfl, hJx3, _⟩)
        · have hb3 := (hKp _ _ hk3).trans hbW
          gi_wp2
          go_roundw
          case rel => exact ⟨pre ++ [r.take (i + 1)], r.drop (i + 1), by rw [hx', linesL_cons hrn, hcut]; simp, by rw [List.length_drop]; omega, hb3, hJ3⟩
          case measure => rw [txtL_of hb3, txtL_of hb, bs_size, bs_size, List.length_drop]; omega
        · gi_wp2
          refine bodyPost_ret (results_none rfl _ _ _) rfl ?_
          exact ⟨⟨_, rfl⟩, .inr ⟨pre ++ [r.take (i + 1)], by rw [hx', linesL_cons hrn, hcut]; simp, hJx3⟩⟩
theorem lines1_seq (n Bs : Nat) (hn : 1 ≤ n) (x : Nm) (hx : x.length ≤ 1000000000) (Kp : World → World → Prop) (hKp : ∀ A B, Kp A B → B.heap[Bs]? = A.heap[Bs]?) (W : World) (hB : W.heap[Bs]? = some (.cells #[.string (bs x)] 9 (0, 0))) :
    SeqC Fence.wide n Tryz.prog 82 #[.pointer (some ⟨Bs, 0, none⟩)] (fun y : Nm => #[.string (bs y)]) (· = Bs) Kp (· = linesL x) (· <+: linesL x) (linesL x).length (fun y _ => y.length ≤ x.length) W :=
  fun l J Jx hJ hJx hY h0 => lines1_in n l Bs hn x hx Kp hKp J Jx hJ hY W hB h0
end Go.Proofs.YtgjlonilbhlneaaGreatDoor

/-
  The walk of schema.lines and of its iterator.
-/
namespace Go.Proofs.YtgjlonilbhlneaaGreatDoor
open Go.RowKit Go.Shelf
set_option linter.unusedVariables false
set_option linter.unusedSimpArgs false

theorem stringsLines_any (s : ByteArray) (w : World) : Calls Tryz.prog 54 #[.string s] w fun e w' => e = .returned (.func (.func 82) #[] #[.pointer (some ⟨w.heap.size, 0, none⟩)]) ∧ w.alloc (.cells #[.string s] 9) = w' := by
  go_enter Tryz.func54, Tryz.ntmps54
  go_wp2
  go_ret
  exact ⟨rfl, rfl⟩
theorem lines_any (s : ByteArray) (w : World) : Calls Tryz.prog 34 #[.string s] w fun e w' => e = .returned (.func (.func 53) #[] #[.pointer (some ⟨w.heap.size, 0, none⟩)]) ∧ w.alloc (.cells #[.string s] 9) = w' := by
  go_enter Tryz.func34, Tryz.ntmps34
  go_wp2
  go_ret
  exact ⟨rfl, rfl⟩
def numL (L : List Nm) : List (Nat × Nm) := L.zipIdx.map fun p => (p.2, p.1)
theorem numL_snoc (L : List Nm) (y : Nm) : numL (L ++ [y]) = numL L ++ [(L.length, y)] := by
  unfold numL
  rw [List.zipIdx_append, List.map_append]
  simp
theorem numL_len (L : List Nm) : (numL L).length = L.length := by simp [numL]
theorem numL_pre {L M : List Nm} (h : L <+: M) : numL L <+: numL M := by
  obtain ⟨t, rfl⟩ := h
  unfold numL
  rw [List.zipIdx_append, List.map_append]
  exact ⟨_, rfl⟩
theorem roundIn_wide {m m' : Nat} {P : Program} {l l2 : Nat} {f : FuncId} {tmps : Array Value} {assign body : Code} {w : World} {R : Ending → World → Prop} (h : RoundIn Fence.wide m P l f tmps assign body w R) : RoundIn (Fence.wide.inRound l2) m' P l f tmps assign body w R := ⟨h.1, fun c cs _ => h.2 c cs (room_wide _)⟩
end Go.Proofs.YtgjlonilbhlneaaGreatDoor

/-
  The walk of schema.lines's iterator.
-/
namespace Go.Proofs.YtgjlonilbhlneaaGreatDoor
open Go.RowKit Go.Shelf
attribute [local go_sem] Oper.semAt_some
set_option linter.unusedVariables false
set_option linter.unusedSimpArgs false

theorem linesF_le : ∀ (k : Nat) (l : Nm), (linesF k l).length ≤ k
  | 0, _ => Nat.le_refl _
  | k + 1, l => by
    unfold linesF
    split
    · exact Nat.zero_le _
    · have := linesF_le k (cutL l).2
      simp only [List.length_cons]
      omega
set_option maxHeartbeats 4000000 in
set_option maxRecDepth 100000 in
theorem linesI_in (n l Bt s : Nat) (hn : 5 ≤ n) (x : Nm) (hx : x.length ≤ 1000000000) (Kp : World → World → Prop) (hKp : ∀ A B, Kp A B → ∀ b, s ≤ b → b ≤ s + 4 → B.heap[b]? = A.heap[b]?) (J Jx : List (Nat × Nm) → World → Prop) (hJk : AbidesC (fun r => s ≤ r ∧ r ≤ s + 4) J) (hJxk : AbidesC (fun r => s ≤ r ∧ r ≤ s + 4) Jx)
    (hY : ∀ pre y W, J pre W → pre.length < (linesL x).length → y.2.length ≤ x.length ∧ s + 4 < W.heap.size → YieldAt Fence.wide (n - 1) Tryz.prog l #[.int .i64 y.1, .string (bs y.2)] W fun e W' =>
      (e = .returned (.bool true) ∧ J (pre ++ [y]) W' ∧ Kp W W') ∨ (e = .returned (.bool false) ∧ Jx (pre ++ [y]) W' ∧ Kp W W'))
    (W : World) (hs : W.heap.size = s) (hB : W.heap[Bt]? = some (.cells #[.string (bs x)] 9 (0, 0))) (h0 : J [] W) :
    CallsIn Fence.wide n Tryz.prog 53 #[.func (.yield l) #[] #[], .pointer (some ⟨Bt, 0, none⟩)] W fun e W' => (∃ v, e = .returned v) ∧
      ((∃ ys, ys = numL (linesL x) ∧ J ys W') ∨ (∃ pre, pre <+: numL (linesL x) ∧ Jx pre W')) := by
  have hBt : Bt < s := by have := (Array.getElem?_eq_some_iff.1 hB).1; omega
  have h1 : 1 ≤ n := by omega
  have hc : W.cell? ⟨Bt, 0, none⟩ = some (.string (bs x)) := cellB (i := 0) hB rfl
  refine callsIn_of_wp_marks Tryz.func53 rfl trivial ?_ rfl
  simp only [Tryz.ntmps53, List.size_toArray, List.length_cons, List.length_nil, Nat.reduceAdd, Nat.reduceSub, Array.replicate_succ, Array.replicate_zero, List.push_toArray, List.append_toArray, List.nil_append, List.cons_append]
  subst hs
  have hBt1 : ¬ Bt = W.heap.size := by omega
  have hBt2 : ¬ Bt = W.heap.size + 1 := by omega
  have c54 := fun w' => callsIn_wide (n := n - 1) |>.2 (stringsLines_any (bs x) w')
  gi_wp2_with (refine ⟨trivial, ?_⟩; gi_at_call 54; refine (c54 _).mono ?_; rintro e w' ⟨rfl, rfl⟩)
  obtain ⟨S, hS⟩ : ∃ S, S = W.heap.size := ⟨_, rfl⟩
  obtain ⟨W0, hW0⟩ : ∃ W0, ((W.alloc (.cells #[.func (.yield l) #[] #[]] 100)).alloc (.cells #[.int .i64 0] 3)).alloc (.cells #[.string (bs x)] 9) = W0 := ⟨_, rfl⟩
  have hz : W0.heap.size = S + 3 := by rw [← hW0, hS]; simp
  have hb2 : W0.heap[S + 2]? = some (.cells #[.string (bs x)] 9 (0, 0)) := by
    have := World.alloc_heap_new ((W.alloc (.cells #[.func (.yield l) #[] #[]] 100)).alloc (.cells #[.int .i64 0] 3)) (.cells #[.string (bs x)] 9)
    rw [hW0] at this; rw [hS]; simpa using this
  have hb1 : W0.heap[S + 1]? = some (.cells #[.int .i64 0] 3 (0, 0)) := by
    have := World.alloc_heap_new (W.alloc (.cells #[.func (.yield l) #[] #[]] 100)) (.cells #[.int .i64 0] 3)
    rw [← hW0, Below.heap_alloc _ _ _ (by simp [hS] <;> omega), hS]; simpa using this
  have hb0 : W0.heap[S]? = some (.cells #[.func (.yield l) #[] #[]] 100 (0, 0)) := by
    have := World.alloc_heap_new W (.cells #[.func (.yield l) #[] #[]] 100)
    rw [← hW0, Below.heap_alloc _ _ _ (by simp [hS] <;> omega), Below.heap_alloc _ _ _ (by simp [hS] <;> omega), hS]; exact this
  have hJ0 : J [] W0 := by rw [← hW0]; exact hJk.alloc _ (hJk.alloc _ (hJk.alloc _ h0))
  rw [hW0]
  rw [← hS] at hKp hJk hJxk hY ⊢
  clear hS hW0 hBt1 hBt2 hBt hc c54 h0 hB
  refine rangeC (w := W0) (k := (· = S + 2)) (Kp := fun A B => B.heap[S + 2]? = A.heap[S + 2]?) (S := (· = linesL x)) (Sp := (· <+: linesL x)) (N := (linesL x).length) (encs := fun y : Nm => #[.string (bs y)]) rfl h1 (gf := 82) (lb := #[.pointer (some ⟨S + 1 + 1, 0, none⟩)]) rfl trivial (enters_of Tryz.func82 (by kernel_rfl) rfl)
    (fun W1 hs1 hB1 => lines1_seq (n - 1) (S + 2) (by omega) x hx _ (fun A B h => h) W1 ((hB1.block _ (by omega)).trans hb2)) (fun _ _ _ h => h)
    (by omega) (by omega) (fun h1 h2 => h2.trans h1) (fun A o' hlt => World.putObj_heap_other (by omega)) (fun _ => rfl)
    (fun pre A => (A.heap[S]? = some (.cells #[.func (.yield l) #[] #[]] 100 (0, 0)) ∧ A.heap[S + 1]? = some (.cells #[.int .i64 pre.length] 3 (0, 0))) ∧ J (numL pre) A)
    (fun c pre A => c = .ret ∧ Jx (numL pre) A)
    (fun pre A B row hs hg hr => ⟨⟨kept_of hg hr hs.1.1 (by omega), kept_of hg hr hs.1.2 (by omega)⟩, hJk _ A B row hs.2 hg (fun r e => by have := hr r e; omega)⟩)
    (fun c pre A B row hs hg hr => ⟨hs.1, hJxk _ A B row hs.2 hg (fun r e => by have := hr r e; omega)⟩)
    ⟨⟨hb0, hb1⟩, hJ0⟩
    (fun y => { tmps := #[.func (.yield l) #[] #[], .pointer (some ⟨Bt, 0, none⟩), .pointer (some ⟨S, 0, none⟩), .pointer (some ⟨S + 1, 0, none⟩), .string (bs y), .string (bs x), .func (.func 82) #[] #[.pointer (some ⟨S + 1 + 1, 0, none⟩)], .string (bs y), undef, undef, undef, undef, undef, undef, undef], defers := [] }) ?assign ?body ?done ?stop
  case assign =>
    intro l2 y A K hK
    gi_wp2
    exact hK
  case body =>
    rintro l2 pre y A hlt ⟨⟨q0, q1⟩, hJ1⟩ hlen hyl
    rw [hz] at hlt
    have k0 : A.cell? ⟨S, 0, none⟩ = some (.func (.yield l) #[] #[]) := cellB (i := 0) q0 rfl
    have k1 : A.cell? ⟨S + 1, 0, none⟩ = some (.int .i64 pre.length) := cellB (i := 0) q1 rfl
    obtain ⟨fn, tmps, assign, body, hy, hR⟩ := hY (numL pre) (pre.length, y) A hJ1 (by rw [numL_len]; exact hlen) ⟨hyl, hlt⟩
    dsimp only at hy
    have hR' := roundIn_wide (l2 := l2) (m' := n - 1 - 1 - 1) hR
    have hpl : pre.length ≤ 1000000000 := by have := linesF_le x.length x; unfold linesL at hlen; omega
    gi_wp2
    refine ⟨fun _ => by omega, hR'.mono ?_⟩
    rintro e W3 (⟨rfl, hJ3, hk3⟩ | ⟨rfl, hJx3, hk3⟩)
    · have q1' := (hKp _ _ hk3 (S + 1) (by omega) (by omega)).trans q1
      have q0' := (hKp _ _ hk3 S (by omega) (by omega)).trans q0
      have z1 : W3.cell? ⟨S + 1, 0, none⟩ = some (.int .i64 pre.length) := cellB (i := 0) q1' rfl
      have f1 : W3.frozen? ⟨S + 1, 0, none⟩ = false := frzB (i := 0) q1'
      gi_wp2
      rw [hz]
      refine ⟨⟨?_, ?_⟩, ?_, ⟨?_, ?_⟩, ?_⟩
      · exact (heap_setCell_other _ _ _ _ (by simp)).trans (hKp _ _ hk3 (S + 3) (by omega) (by omega))
      · exact (heap_setCell_other _ _ _ _ (by simp)).trans (hKp _ _ hk3 (S + 3 + 1) (by omega) (by omega))
      · exact (heap_setCell_other _ _ _ _ (by simp)).trans (hKp _ _ hk3 (S + 2) (by omega) (by omega))
      · exact (heap_setCell_other _ _ _ _ (by simp)).trans q0'
      · have := heap_setCell_same W3 (S + 1) 0 _ 3 (.int .i64 ((pre.length : Int) + 1)) q1'
        refine this.trans ?_
        simp
      · rw [numL_snoc]
        exact hJk _ _ _ _ hJ3 (grownBy_setCell' W3 (S + 1) _) (fun r e => by cases e; omega)
    · gi_wp2
      rw [hz]
      exact ⟨⟨hKp _ _ hk3 (S + 3) (by omega) (by omega), hKp _ _ hk3 (S + 3 + 1) (by omega) (by omega)⟩, hKp _ _ hk3 (S + 2) (by omega) (by omega), rfl, by rw [numL_snoc]; exact hJx3⟩
  case done =>
    rintro ys A rfl ⟨_, hJ1⟩ hK
    rw [hz] at hK ⊢
    gi_wp2
    refine ⟨by simp, .inl ⟨_, _, rfl, run_takeDeferred hK, ?_⟩⟩
    exact ⟨_, results_none rfl _ _ _, ⟨_, rfl⟩, .inl ⟨_, rfl, hJk.putObj _ hJ1 (by omega)⟩⟩
  case stop =>
    rintro c pre A hp ⟨rfl, hJ1⟩ hK
    rw [hz] at hK ⊢
    gi_wp2
    refine ⟨by simp, .inl ⟨_, _, rfl, run_takeDeferred hK, ?_⟩⟩
    exact ⟨_, results_none rfl _ _ _, ⟨_, rfl⟩, .inr ⟨_, numL_pre hp, hJxk.putObj _ hJ1 (by omega)⟩⟩
theorem linesI_seq (n Bt : Nat) (hn : 5 ≤ n) (x : Nm) (hx : x.length ≤ 1000000000) (Kp : World → World → Prop) (W : World) (hKp : ∀ A B, Kp A B → ∀ b, W.heap.size ≤ b → b ≤ W.heap.size + 4 → B.heap[b]? = A.heap[b]?) (hB : W.heap[Bt]? = some (.cells #[.string (bs x)] 9 (0, 0))) :
    SeqC Fence.wide n Tryz.prog 53 #[.pointer (some ⟨Bt, 0, none⟩)] (fun y : Nat × Nm => #[.int .i64 y.1, .string (bs y.2)]) (fun r => W.heap.size ≤ r ∧ r ≤ W.heap.size + 4) Kp (· = numL (linesL x)) (· <+: numL (linesL x)) (linesL x).length (fun y A => y.2.length ≤ x.length ∧ W.heap.size + 4 < A.heap.size) W :=
  fun l J Jx hJ hJx hY h0 => linesI_in n l Bt _ hn x hx Kp hKp J Jx hJ hJx hY W rfl hB h0
end Go.Proofs.YtgjlonilbhlneaaGreatDoor

/-
  The walk of schema.Parse.
-/
namespace Go.Proofs.YtgjlonilbhlneaaGreatDoor
open Go.RowKit Go.Shelf
attribute [local go_sem] Oper.semAt_some
set_option linter.unusedVariables false
set_option linter.unusedSimpArgs false

def lnStep (st : List (Nm × List Nm × List Fd) × List Bd) (y : Nm) : Option (List (Nm × List Nm × List Fd) × List Bd) :=
  if Lib.hasSuffix y [10] = true then alStep st.1 st.2 (wordsL (Lib.trimSuffix y [10])) else none
def lnFold (ys : List Nm) : Option (List (Nm × List Nm × List Fd) × List Bd) := ys.foldl (fun o y => o.bind fun st => lnStep st y) (some ([], []))
theorem lnFold_snoc (ys : List Nm) (y : Nm) : lnFold (ys ++ [y]) = (lnFold ys).bind fun st => lnStep st y := by
  unfold lnFold
  rw [List.foldl_append]
  rfl
theorem own_turn {w w2 : World} {base : Nat} {e : TypeId} {size : Nat} {v : Value} {n : Nat} {xs : List Value} {row : Option Nat} (h : w.ownsRow base e size v n xs) (hg : w.grownBy w2 row) (hr : ∀ r, row = some r → r < base) : w2.ownsRow base e size v n xs := by
  refine ⟨h.1, ?_⟩
  rcases h.2 with h | ⟨b, cap, cur, rfl, hb, hbl, rest⟩
  · exact .inl h
  · exact .inr ⟨b, cap, cur, rfl, hb, (hg.block b (Array.getElem?_eq_some_iff.1 hbl).1 (fun e => by have := hr b e.symm; omega)).trans hbl, rest⟩
theorem SSt.turn {base g : Nat} {L : List Kd} {B : List Bd} {w w' : World} {row : Option Nat} (h : SSt base g L B w) (hg : w.grownBy w' row) (hr : ∀ r, row = some r → r < base ∧ r ≠ g) : SSt base g L B w' := by
  obtain ⟨vk, vb, h1, h2, h3, h4, h5, h6, h7, h8⟩ := h
  have hr' : ∀ r, row = some r → r < base := fun r e => (hr r e).1
  exact ⟨vk, vb, (hg.block g (by omega) (fun e => (hr g e.symm).2 rfl)).trans h1, own_turn h2 hg hr', own_turn h3 hg hr', fun k hk => ⟨own_turn (h4 k hk).1 hg hr', own_turn (h4 k hk).2 hg hr'⟩, h5, h6, Nat.le_trans h7 hg.size, h8⟩
structure Oth (m : Nat) (w w' : World) : Prop where
  os : w'.os = w.os
  tape : w'.tape = w.tape
  output : w'.output = w.output
  size : w.heap.size ≤ w'.heap.size
  block : ∀ b, b < m → w'.heap[b]? = w.heap[b]?
theorem Oth.turn {m : Nat} {w w' w2 : World} {row : Option Nat} (h : Oth m w w') (hm : m ≤ w.heap.size) (hg : w'.grownBy w2 row) (hr : ∀ r, row = some r → m ≤ r) : Oth m w w2 :=
  ⟨hg.os.trans h.os, hg.tape.trans h.tape, hg.output.trans h.output, Nat.le_trans h.size hg.size, fun b hb => (hg.block b (Nat.lt_of_lt_of_le hb (Nat.le_trans hm h.size)) (fun e => by have := hr b e.symm; omega)).trans (h.block b hb)⟩
def LnSt (s : Nat) (pre : List (Nat × Nm)) (L : List Kd) (B : List Bd) (A : World) : Prop :=
  (pre = [] ∧ L = [] ∧ B = [] ∧ A.heap[s + 3]? = some (.cells #[.slice none 0 0, .slice none 0 0] 25 (0, 0))) ∨ SSt (s + 12) (s + 3) L B A
def LnI (s : Nat) (w : World) (pre : List (Nat × Nm)) (A : World) : Prop :=
  ∃ L B, lnFold (pre.map (·.2)) = some (L.map kq, B) ∧ LnSt s pre L B A ∧ Oth (s + 3) w A
theorem lnI_abides {s : Nat} {w : World} (hw : w.heap.size = s + 5) : AbidesC (fun r => (s + 7 ≤ r ∧ r ≤ s + 11) ∨ r = s + 6) (LnI s w) := fun pre A A' row ⟨L, B, h1, h2, h3⟩ hg hr => by
  refine ⟨L, B, h1, ?_, h3.turn (by omega) hg (fun r e => by have := hr r e; omega)⟩
  rcases h2 with ⟨q1, q2, q3, q4⟩ | h2
  · exact .inl ⟨q1, q2, q3, kept_of hg hr q4 (by omega)⟩
  · exact .inr (h2.turn hg (fun r e => by have := hr r e; omega))
theorem lnSt_open {s : Nat} {pre : List (Nat × Nm)} {L : List Kd} {B : List Bd} {A : World} (h : LnSt s pre L B A) (hA : s + 11 < A.heap.size) : SSt (s + 12) (s + 3) L B A := by
  rcases h with ⟨_, rfl, rfl, h⟩ | h
  · exact ⟨_, _, h, World.ownsRow_nil _ _ _ _, World.ownsRow_nil _ _ _ _, fun k hk => absurd hk (by simp), Nat.zero_le _, Nat.zero_le _, hA, by omega⟩
  · exact h
end Go.Proofs.YtgjlonilbhlneaaGreatDoor

/-
  Words and lines: what is parted is joined again, what is joined is parted again.
-/
namespace Go.Proofs.YtgjlonilbhlneaaGreatDoor
set_option linter.unusedVariables false
set_option linter.unusedSimpArgs false

def pcs (c : UInt8) : Nm → List Nm
  | [] => [[]]
  | x :: r => if x = c then [] :: pcs c r else match pcs c r with
    | h :: t => (x :: h) :: t
    | [] => [[x]]
theorem pcs_ne (c : UInt8) (l : Nm) : pcs c l ≠ [] := by
  cases l with
  | nil => simp [pcs]
  | cons x r =>
    unfold pcs
    split
    · simp
    · split <;> simp
theorem pcs_hit (c : UInt8) (r : Nm) : pcs c (c :: r) = [] :: pcs c r := by simp [pcs]
theorem pcs_miss {c x : UInt8} (h : x ≠ c) (r : Nm) : ∃ a t, pcs c r = a :: t ∧ pcs c (x :: r) = (x :: a) :: t := by
  obtain ⟨a, t, e⟩ := List.exists_cons_of_ne_nil (pcs_ne c r)
  exact ⟨a, t, e, by simp only [pcs]; rw [if_neg h, e]⟩
theorem index_cons (c b : UInt8) (r : Nm) : Lib.index (b :: r) [c] = if b = c then 0 else if Lib.index r [c] == -1 then -1 else Lib.index r [c] + 1 := by
  rw [Lib.index]
  by_cases h : b = c
  · subst h; simp
  · have : ([c].isPrefixOf (b :: r)) = false := by simp [List.isPrefixOf]; exact fun e => absurd e.symm h
    rw [this, if_neg (by decide), if_neg h]
theorem split_pcs (c : UInt8) : ∀ l : Nm, Lib.splitK [c] 0 (Lib.count l [c]) l = pcs c l
  | [] => by
    have h : Lib.index [] [c] = -1 := rfl
    rw [Lib.count_miss h]
    rfl
  | b :: r => by
    have ih := split_pcs c r
    have hi := index_cons c b r
    by_cases h : b = c
    · subst h
      rw [if_pos rfl] at hi
      rw [Lib.count_hit (i := 0) (by simp) hi, Nat.add_comm, Lib.splitK, hi]
      simp [pcs, ih]
    · rw [if_neg h] at hi
      obtain ⟨a, t, e1, e2⟩ := pcs_miss h r
      by_cases hm : Lib.index r [c] = -1
      · rw [hm] at hi
        have hi' : Lib.index (b :: r) [c] = -1 := hi
        rw [Lib.count_miss hi', e2]
        rw [Lib.count_miss hm, e1] at ih
        simp only [Lib.splitK, List.cons.injEq] at ih ⊢
        obtain ⟨i1, i2⟩ := ih
        exact ⟨by simp [i1], i2⟩
      · have hge := Lib.index_ge r [c]
        obtain ⟨i, hin⟩ : ∃ i : Nat, Lib.index r [c] = i := ⟨(Lib.index r [c]).toNat, by omega⟩
        have hb : (Lib.index r [c] == -1) = false := by simp [hm]
        rw [hb, if_neg (by decide), hin] at hi
        have hi' : Lib.index (b :: r) [c] = ((i + 1 : Nat) : Int) := by rw [hi]; simp
        rw [Lib.count_hit (by simp) hi', e2, Nat.add_comm, Lib.splitK, hi']
        rw [Lib.count_hit (by simp) hin, e1, Nat.add_comm, Lib.splitK, hin] at ih
        have q1 : ((((i + 1 : Nat) : Int)) == -1) = false := by simp; omega
        have q2 : (((i : Nat) : Int) == -1) = false := by simp
        rw [q1, if_neg (by decide)]
        rw [q2, if_neg (by decide)] at ih
        simp only [Int.toNat_natCast, Nat.add_zero, List.length_cons, List.length_nil, List.cons.injEq, List.take_succ_cons, List.drop_succ_cons] at ih ⊢
        refine ⟨?_, ih.2⟩
        simp [ih.1]
theorem wordsL_eq (l : Nm) : wordsL l = pcs 32 l := by
  unfold wordsL
  rw [Lib.splitB_data, bs_data, ← split_pcs]
  show Lib.splitK [32] 0 (Lib.count (bs l).data.toList [32]) l = _
  rw [bs_data]
theorem ofL_eq (l : Nm) : ofL l = pcs 44 l := by
  unfold ofL
  rw [Lib.splitB_data, bs_data, ← split_pcs]
  show Lib.splitK (bs [44]).data.toList 0 (Lib.count (bs l).data.toList (bs [44]).data.toList) l = _
  rw [bs_data, bs_data]
theorem join_cons2 (a b : Nm) (r : List Nm) (c : UInt8) : Lib.join (a :: b :: r) [c] = a ++ c :: Lib.join (b :: r) [c] := by
  unfold Lib.join
  rw [List.intercalate_cons_cons]
  simp
theorem join_head (x : UInt8) (a : Nm) (t : List Nm) (c : UInt8) : Lib.join ((x :: a) :: t) [c] = x :: Lib.join (a :: t) [c] := by
  cases t with
  | nil => rw [Lib.join_one, Lib.join_one]
  | cons b r => rw [join_cons2, join_cons2]; rfl
theorem join_pcs (c : UInt8) : ∀ l : Nm, Lib.join (pcs c l) [c] = l
  | [] => by rw [show pcs c [] = [[]] from rfl, Lib.join_one]
  | x :: r => by
    have ih := join_pcs c r
    by_cases h : x = c
    · subst h
      rw [pcs_hit]
      obtain ⟨a, t, e⟩ := List.exists_cons_of_ne_nil (pcs_ne x r)
      rw [e] at ih ⊢
      rw [join_cons2, ih]
      rfl
    · obtain ⟨a, t, e1, e2⟩ := pcs_miss h r
      rw [e2, join_head, ← e1, ih]
theorem pcs_one {c : UInt8} : ∀ {w : Nm}, c ∉ w → pcs c w = [w]
  | [], _ => rfl
  | x :: r, h => by
    obtain ⟨a, t, e1, e2⟩ := pcs_miss (c := c) (x := x) (fun e => h (by rw [e]; exact List.mem_cons_self ..)) r
    rw [pcs_one (fun hh => h (List.mem_cons_of_mem _ hh))] at e1
    injection e1 with i1 i2
    rw [e2, ← i1, ← i2]
theorem pcs_app {c : UInt8} (s : Nm) : ∀ {w : Nm}, c ∉ w → pcs c (w ++ c :: s) = w :: pcs c s
  | [], _ => pcs_hit c s
  | x :: r, h => by
    obtain ⟨a, t, e1, e2⟩ := pcs_miss (c := c) (x := x) (fun e => h (by rw [e]; exact List.mem_cons_self ..)) (r ++ c :: s)
    rw [pcs_app s (fun hh => h (List.mem_cons_of_mem _ hh))] at e1
    injection e1 with i1 i2
    rw [List.cons_append, e2, ← i1, ← i2]
theorem pcs_join {c : UInt8} : ∀ {ws : List Nm}, ws ≠ [] → (∀ w ∈ ws, c ∉ w) → pcs c (Lib.join ws [c]) = ws
  | [], h, _ => absurd rfl h
  | [w], _, h => by rw [Lib.join_one]; exact pcs_one (h w (by simp))
  | a :: b :: r, _, h => by
    rw [join_cons2, pcs_app _ (h a (by simp)), pcs_join (by simp) (fun w hw => h w (List.mem_cons_of_mem _ hw))]
theorem suf_trim {y p : Nm} (h : Lib.hasSuffix y p = true) : Lib.trimSuffix y p ++ p = y := by
  unfold Lib.trimSuffix
  rw [if_pos h]
  unfold Lib.hasSuffix at h
  obtain ⟨t, ht⟩ := List.isSuffixOf_iff_suffix.1 h
  subst ht
  simp
theorem suf_app (x p : Nm) : Lib.hasSuffix (x ++ p) p = true := List.isSuffixOf_iff_suffix.2 ⟨x, rfl⟩
theorem trim_app (x p : Nm) : Lib.trimSuffix (x ++ p) p = x := by
  unfold Lib.trimSuffix
  rw [if_pos (suf_app x p)]
  simp
theorem trim_no {x p : Nm} (h : Lib.hasSuffix x p = false) : Lib.trimSuffix x p = x := by
  unfold Lib.trimSuffix
  rw [if_neg (by rw [h]; decide)]

theorem idxB_app {c : UInt8} (s : Nm) : ∀ {w : Nm}, c ∉ w → Lib.indexByte (w ++ c :: s) c = w.length
  | [], _ => by simp [Lib.indexByte]
  | x :: r, h => by
    have ih := idxB_app s (w := r) (fun hh => h (List.mem_cons_of_mem _ hh))
    have hx : ¬ x = c := fun e => h (by rw [e]; exact List.mem_cons_self ..)
    rw [List.cons_append, Lib.indexByte, ih, if_neg (by simpa using hx), if_neg (by simp)]
    simp
theorem cutL_app {w : Nm} (h : (10 : UInt8) ∉ w) (s : Nm) : cutL (w ++ 10 :: s) = (w ++ [10], s) := by
  have e := idxB_app s h
  have e2 : w ++ 10 :: s = (w ++ [10]) ++ s := by simp
  have e3 : ((w.length : Int)).toNat + 1 = (w ++ [10]).length := by simp
  unfold cutL
  rw [if_neg (by rw [e]; omega), e, e3, e2, List.take_left, List.drop_left]
theorem linesL_app {w : Nm} (h : (10 : UInt8) ∉ w) (s : Nm) : linesL (w ++ 10 :: s) = (w ++ [10]) :: linesL s := by
  rw [linesL_cons (by simp), cutL_app h]
theorem cutL_join (l : Nm) : (cutL l).1 ++ (cutL l).2 = l := by
  unfold cutL
  split
  · simp
  · exact List.take_append_drop _ _
theorem lines_flat : ∀ (k : Nat) (l : Nm), l.length ≤ k → (linesL l).flatten = l
  | 0, l, h => by
    have : l = [] := List.eq_nil_of_length_eq_zero (by omega)
    subst this; rfl
  | k + 1, l, h => by
    by_cases hl : l = []
    · subst hl; rfl
    · have := cutL_len hl
      rw [linesL_cons hl, List.flatten_cons, lines_flat k _ (by omega), cutL_join]
theorem linesL_flat (l : Nm) : (linesL l).flatten = l := lines_flat _ l (Nat.le_refl _)
theorem linesL_many : ∀ (ws : List Nm) (s : Nm), (∀ w ∈ ws, (10 : UInt8) ∉ w) → linesL ((ws.flatMap fun w => w ++ [10]) ++ s) = (ws.map fun w => w ++ [10]) ++ linesL s
  | [], s, _ => rfl
  | w :: r, s, h => by
    rw [List.flatMap_cons, List.append_assoc, List.append_assoc, List.singleton_append, linesL_app (h w (by simp)), linesL_many r s (fun x hx => h x (List.mem_cons_of_mem _ hx))]
    rfl
end Go.Proofs.YtgjlonilbhlneaaGreatDoor
