/-
  The walk of kind.Under.
-/
import Derived.Test.YtkmkhadacppdnaaGreatDoorM16
import Derived.Test.YtkmkhadacppdnaaGreatDoorM25
namespace Go.Proofs.YtkmkhadacppdnaaGreatDoor
open Go.RowKit
set_option linter.unusedVariables false
set_option linter.unusedSimpArgs false

set_option maxHeartbeats 4000000 in
set_option maxRecDepth 100000 in
theorem find_any {v : Value} {L : List Kd} {w : World} (h : IsK w v L) (hP : Parts w L) (hz : SzK L) (a : Nm) :
    Calls Tryz.prog 32 #[v, .string (bs a)] w fun e w' => e = .returned (.tuple #[.int .i64 (fAt L a), errV (nmErr L a)]) ∧ Below w.heap.size w w' := by
  have c1 := kcheck_any h hP hz
  by_cases e1 : (ksErr L).2 = 0
  · have hn := ksErr_len e1
    have H2 : Hid (IsK w v L ∧ L.length ≤ 12 ∧ (ksErr L).2 = 0) := ⟨h, hn, e1⟩
    rw [e1, errV_0] at c1
    generalize bs (ksErr L).1 = nm at c1
    rcases idxK_spec a L 0 with hx | ⟨j, q, hx, hq, _⟩
    · have HE : Hid (nmErr L a = 5 ∧ fAt L a = 0 ∧ idxK a L 0 = -1) := by
        have e5 : nmErr L a = 5 := by unfold nmErr; rw [if_pos e1, if_pos hx]
        exact ⟨e5, by unfold fAt; rw [if_neg (by rw [e5]; decide)], hx⟩
      clear h hz e1 hn hx hP
      go_enter Tryz.func32, Tryz.ntmps32
      go_wp2_with (go_at_call 35; refine c1.mono ?_; rintro e W1 ⟨rfl, hB1⟩; refine Hid.out ?_)
      refine Lib.hid ?_
      have c2 := index_any (H2.out.1.on hB1) H2.out.2.1 a
      rw [HE.out.2.2] at c2
      clear c1
      go_wp2_with (go_at_call 33; refine c2.mono ?_; rintro e W2 ⟨rfl, hB2⟩)
      go_ret2
      exact ⟨ret_v (by rw [HE.out.1, HE.out.2.1]; rfl), on1K hB1 hB2 (Nat.le_refl _)⟩
    · have hj : j < L.length := (List.getElem?_eq_some_iff.1 hq).1
      have HE : Hid (nmErr L a = 0 ∧ fAt L a = j ∧ idxK a L 0 = j) := by
        have hx' : idxK a L 0 = (j : Int) := by simpa using hx
        have e5 : nmErr L a = 0 := by unfold nmErr; rw [if_pos e1, if_neg (by rw [hx']; omega)]
        exact ⟨e5, by unfold fAt; rw [if_pos e5, hx'], hx'⟩
      have hj8 : j < 12 := by omega
      clear h hz e1 hx hq hn hj hP
      go_enter Tryz.func32, Tryz.ntmps32
      go_wp2_with (go_at_call 35; refine c1.mono ?_; rintro e W1 ⟨rfl, hB1⟩; refine Hid.out ?_)
      refine Lib.hid ?_
      have c2 := index_any (H2.out.1.on hB1) H2.out.2.1 a
      rw [HE.out.2.2] at c2
      clear c1
      go_wp2_with (go_at_call 33; refine c2.mono ?_; rintro e W2 ⟨rfl, hB2⟩)
      go_ret2
      exact ⟨ret_v (by rw [HE.out.1, HE.out.2.1]; rfl), on1K hB1 hB2 (Nat.le_refl _)⟩
  · have HE : Hid (nmErr L a = (ksErr L).2 ∧ ¬ (ksErr L).2 = 0 ∧ fAt L a = 0) := by
      have e5 : nmErr L a = (ksErr L).2 := by unfold nmErr; rw [if_neg e1]
      exact ⟨e5, e1, by unfold fAt; rw [if_neg (by rw [e5]; exact e1)]⟩
    rw [errV_ne e1] at c1
    generalize bs (ksErr L).1 = nm at c1
    clear h hz e1 hP
    go_enter Tryz.func32, Tryz.ntmps32
    go_wp2_with (go_at_call 35; refine c1.mono ?_; rintro e W1 ⟨rfl, hB1⟩)
    go_ret2
    exact ⟨ret_v (by rw [HE.out.1, errV_ne HE.out.2.1, HE.out.2.2]; rfl), hB1⟩


theorem kinOf_ne {L : List Kd} {z : Kd} (h : L.getLast? = some z) : ¬ kinOf L = [] := by
  unfold kinOf
  rw [h]
  obtain ⟨A, rfl⟩ : ∃ A, L = A ++ [z] := ⟨L.dropLast, by
    have hne : L ≠ [] := fun e => by rw [e] at h; simp at h
    have e1 := List.dropLast_concat_getLast hne
    rw [List.getLast?_eq_some_getLast hne] at h
    rw [Option.some.inj h] at e1
    exact e1.symm⟩
  have h1 : hasN [z.nm] z.nm = true := by unfold hasN; simp
  simp [back, h1]

theorem unds_app (L : List Kd) (a : Nm) (x y : List Nat) : unds L a (x ++ y) = unds L a x ++ unds L a y := by
  induction x with
  | nil => rfl
  | cons i x ih =>
    simp only [List.cons_append, unds]
    cases L[i]? with
    | none => exact ih
    | some k =>
      simp only
      split
      · exact ih
      · rw [List.cons_append, ih]
theorem unds_len (L : List Kd) (a : Nm) (x : List Nat) : (unds L a x).length ≤ x.length := by
  induction x with
  | nil => simp [unds]
  | cons i x ih =>
    simp only [unds]
    cases L[i]? with
    | none => simp; omega
    | some k =>
      simp only
      split
      · simp; omega
      · simp; omega
/-- What Under gives. -/
def UPost (w : World) (L : List Kd) (a : Nm) (e : Ending) (w' : World) : Prop :=
  ∃ v, e = .returned (.tuple #[v, errV (nmErr L a)]) ∧ (nmErr L a = 0 → w'.ownsRow w.heap.size 9 1 v (under L a).length (cellsS (under L a))) ∧ (¬ nmErr L a = 0 → v = .slice none 0 0) ∧ Below w.heap.size w w'
/-- Between two rounds. -/
def UR (w : World) (L : List Kd) (a : Nm) (v8 i : Value) (wr : World) : Prop :=
  ∃ k : Nat, k ≤ L.length ∧ i = .int .i64 k ∧ wr.ownsRow w.heap.size 9 1 v8 (unds L a (List.range k)).length (cellsS (unds L a (List.range k))) ∧ Below w.heap.size w wr

set_option maxHeartbeats 4000000 in
set_option maxRecDepth 100000 in
theorem under_any {v : Value} {L : List Kd} {w : World} (h : IsK w v L) (hP : Parts w L) (hz : SzK L) (a : Nm) : Calls Tryz.prog 25 #[v, .string (bs a)] w (UPost w L a) := by
  obtain ⟨i0, hi0, hz0, hz1, hz2⟩ := info_parts info9
  have c1 := find_any h hP hz a
  by_cases e1 : nmErr L a = 0
  · obtain ⟨hG, hn, j, q, hx, hat, hq, hqa⟩ := nmErr_zero e1
    have hA : fAt L a = (j : Int) := by unfold fAt; rw [if_pos e1, hx]
    rcases h with ⟨rfl, rfl⟩ | ⟨b, off, cap, rfl, hc, hm, hb, hl⟩
    · simp at hq
    · have HH : Hid (LiesK w b off L ∧ Parts w L ∧ Small L ∧ L.length ≤ 12 ∧ nmErr L a = 0) := ⟨hl, hP, hG.small, hn, e1⟩
      rw [hA, e1, errV_0] at c1
      unfold maxLen at hm
      clear hz e1 hG hx hat hq hqa hA hl hP
      go_enter Tryz.func25, Tryz.ntmps25
      go_wp2_with (go_at_call 32; refine c1.mono ?_; rintro e W1 ⟨rfl, hB1⟩; refine Hid.out ?_)
      refine Lib.hid ?_
      have HB1 : Hid (Below w.heap.size w W1) := hB1
      clear c1 hB1
      go_wp2
      go_loopw [8, 22] (fun v8 i wr => UR W1 L a v8 i wr) (fun _ i _ => L.length - (intOf i).toNat)
      case atStart => exact ⟨0, Nat.zero_le _, rfl, World.ownsRow_nil _ _ _ _, Below.refl _ _⟩
      case round =>
        obtain ⟨k, hk, rfl, ho, hB⟩ := hrel
        by_cases hlt : k < L.length
        · obtain ⟨p, hp⟩ : ∃ p, L[k]? = some p := ⟨L[k], by simp [hlt]⟩
          obtain ⟨hL, hP, hS, hn', _⟩ := HH.out
          obtain ⟨c0, c1, c2⟩ := hL k p hp
          have hpm : p ∈ L := List.mem_of_getElem? hp
          obtain ⟨ao, no, co, evo⟩ := (hP p hpm).1.sl
          obtain ⟨af, nf, cf, evf⟩ := (hP p hpm).2.sl
          rw [evo] at c1
          rw [evf] at c2
          have hBw := on1K HB1.out hB (Nat.le_refl _)
          have d0 := (hBw.cell (p := ⟨b, off + k * 3, none⟩) hb).trans c0
          have d1 := (hBw.cell (p := ⟨b, off + k * 3 + 1, none⟩) hb).trans c1
          have d2 := (hBw.cell (p := ⟨b, off + k * 3 + 2, none⟩) hb).trans c2
          have hbr : b < wr.heap.size := Nat.lt_of_lt_of_le hb hBw.size
          have hB0 : Below w.heap.size w (wr.alloc (.cells #[.string (bs p.nm), .slice ao no co, .slice af nf cf] 29)) := b_allocK hBw (Nat.le_refl _) _
          have ck := kinTake (cap := cap) (Nat.lt_of_lt_of_le hb hB0.size) (hL.on hb hB0) (hP.on hB0) hS hn' hp
          have hk1 : (k : Int) + 1 ≤ (cap : Int) := by omega
          have HO : Hid (wr.ownsRow W1.heap.size 9 1 u8 (unds L a (List.range k)).length (cellsS (unds L a (List.range k))) ∧ Below W1.heap.size W1 wr ∧ L[k]? = some p ∧ Below w.heap.size w (wr.alloc (.cells #[.string (bs p.nm), .slice ao no co, .slice af nf cf] 29))) := ⟨ho, hB, hp, hB0⟩
          clear c0 c1 c2 hpm hp ho hB hB0 evo evf hL hP hS hn' hBw
          go_wp2_with (go_at_call 34; refine ck.mono ?_; rintro e W2 ⟨v2, rfl, hown2, hB2⟩; refine Hid.out ?_)
          refine Lib.hid ?_
          have hBw2 := on1K HO.out.2.2.2 hB2 (Nat.le_refl _)
          have g0 := hB2.cell (p := ⟨wr.heap.size, 0, none⟩) (by simp)
          simp at g0
          have hs2 : wr.heap.size < W2.heap.size := Nat.lt_of_lt_of_le (by simp) hB2.size
          obtain ⟨f1, f2, f3⟩ := kin_facts (k + 1) W2 (HH.out.2.1.on hBw2) HH.out.2.2.1 HH.out.2.2.2.1
          have cx := index_any (own_isK hown2) f3 a
          clear ck f1 f2 f3 hown2
          rcases idxK_spec a (kinOf (L.take (k + 1))) 0 with hx | ⟨m, q2, hx, hq2, _⟩
          · rw [hx] at cx
            have HU : Hid (unds L a (List.range (k + 1)) = unds L a (List.range k)) := by
              show _ = _
              rw [List.range_succ, unds_app]
              simp [unds, HO.out.2.2.1, hx]
            clear hx
            go_wp2_with (go_at_call 33; refine cx.mono ?_; rintro e W3 ⟨rfl, hB3⟩; refine Hid.out ?_)
            refine Lib.hid ?_
            have hBB : Below W1.heap.size W1 W3 := on1K (on1K (b_allocK HO.out.2.1 (Nat.le_refl _) _) hB2 (Nat.le_refl _)) hB3 (Nat.le_refl _)
            have R : UR W1 L a u8 (.int .i64 ((k + 1 : Nat) : Int)) W3 := by
              refine ⟨k + 1, by omega, rfl, ?_, hBB⟩
              rw [HU.out]
              exact own_below (own_below (HO.out.1.alloc _) hB2) hB3
            have HRR : Hid (UR W1 L a u8 (.int .i64 ((k + 1 : Nat) : Int)) W3) := R
            clear R cx
            go_wp2
            refine ⟨?_, ?_⟩
            · first | exact HRR.out | ((repeat apply Exists.intro); refine ⟨?_, rfl⟩; exact HRR.out)
            · simp [intOf]
              try omega
          · have hne : ¬ idxK a (kinOf (L.take (k + 1))) 0 = -1 := by omega
            rw [hx] at cx
            simp only [Nat.zero_add] at cx
            have HU : Hid (unds L a (List.range (k + 1)) = unds L a (List.range k) ++ [p.nm]) := by
              show _ = _
              rw [List.range_succ, unds_app]
              simp [unds, HO.out.2.2.1, hne]
            have hm12 : m < 100 := by
              have h1 := (List.getElem?_eq_some_iff.1 hq2).1
              have h2 := (kinOf_sub (L.take (k + 1))).2
              have h3 := HH.out.2.2.2.1
              simp at h2
              omega
            have HM : Hid ((unds L a (List.range k)).length + 1 ≤ maxLen ∧ ((unds L a (List.range k)).length + 1) * 16 ≤ 140737488355328) := by
              have := unds_len L a (List.range k)
              have h3 := HH.out.2.2.2.1
              simp at this
              unfold maxLen; exact ⟨by omega, by omega⟩
            clear hx hne hq2
            go_wp2_with (go_at_call 33; refine cx.mono ?_; rintro e W3 ⟨rfl, hB3⟩; refine Hid.out ?_)
            refine Lib.hid ?_
            have k0 := (hB3.cell (p := ⟨wr.heap.size, 0, none⟩) hs2).trans g0
            have hBB : Below W1.heap.size W1 (W3.alloc (.cells #[.string (bs p.nm)] 9)) := b_allocK (on1K (on1K (b_allocK HO.out.2.1 (Nat.le_refl _) _) hB2 (Nat.le_refl _)) hB3 (Nat.le_refl _)) (Nat.le_refl _) _
            have HO3 : Hid ((W3.alloc (.cells #[.string (bs p.nm)] 9)).ownsRow W1.heap.size 9 1 u8 (unds L a (List.range k)).length (cellsS (unds L a (List.range k))) ∧ Below W1.heap.size W1 (W3.alloc (.cells #[.string (bs p.nm)] 9))) := ⟨(own_below (own_below (HO.out.1.alloc _) hB2) hB3).alloc _, hBB⟩
            clear cx g0 hBB
            go_wp2_with (at_builtin; refine wpList_append_own _ rfl (.tmp 35) (.tmp 38) 26 rfl W1.heap.size 9 i0 _ 1 16 Tryz.underlying26 hi0 hz0 hz1 hz2 rfl (by decide) u8 (unds L a (List.range k)).length (cellsS (unds L a (List.range k))) rfl HO3.out.1 ⟨W3.heap.size, 0, none⟩ 1 1 [.string (bs p.nm)] rfl rfl (new_at _ _ _) (by simp [Value.oneCell']) HM.out.1 HM.out.2 HO3.out.2.size ?_; intro v1 w1 hown1 hgrow1 _; refine Hid.out ?_)
            refine Lib.hid ?_
            have R : UR W1 L a v1 (.int .i64 ((k + 1 : Nat) : Int)) w1 := by
              refine ⟨k + 1, by omega, rfl, ?_, HO3.out.2.grown hgrow1 HO3.out.2.size (fun k hk => (HO3.out.1.lt k hk).1)⟩
              rw [HU.out, List.length_append, cellsS_app]
              exact hown1
            have HRR : Hid (UR W1 L a v1 (.int .i64 ((k + 1 : Nat) : Int)) w1) := R
            clear R hown1
            go_wp2
            refine ⟨?_, ?_⟩
            · first | exact HRR.out | ((repeat apply Exists.intro); refine ⟨?_, rfl⟩; exact HRR.out)
            · simp [intOf]
              try omega
        · have hke : k = L.length := by omega
          have HO : Hid (wr.ownsRow W1.heap.size 9 1 u8 (under L a).length (cellsS (under L a)) ∧ Below W1.heap.size W1 wr) := by
            subst hke; exact ⟨ho, hB⟩
          clear ho hB hke
          go_wp2
          go_ret2
          exact ⟨_, ret_v (by rw [HH.out.2.2.2.2]; rfl), fun _ => own_base HO.out.1 HB1.out.size, fun h => absurd HH.out.2.2.2.2 h, on1K HB1.out HO.out.2 (Nat.le_refl _)⟩
  · have hA : fAt L a = 0 := by unfold fAt; rw [if_neg e1]
    have HE : Hid (¬ nmErr L a = 0) := e1
    rw [errV_ne e1, hA] at c1
    clear h hP hz e1 hA
    go_enter Tryz.func25, Tryz.ntmps25
    go_wp2_with (go_at_call 32; refine c1.mono ?_; rintro e W1 ⟨rfl, hB1⟩)
    go_ret2
    exact ⟨.slice none 0 0, ret_v (by rw [errV_ne HE.out]; rfl), fun h => absurd h HE.out, fun _ => rfl, hB1⟩

end Go.Proofs.YtkmkhadacppdnaaGreatDoor

/-
  The walk of change.All.
-/
namespace Go.Proofs.YtkmkhadacppdnaaGreatDoor
open Go.RowKit
set_option linter.unusedVariables false
set_option linter.unusedSimpArgs false

set_option maxHeartbeats 4000000 in
set_option maxRecDepth 100000 in
theorem all_bad {w : World} {vk vb vl : Value} {L : List Kd} {B : List Bd} {l : List Ch} (hK : IsK w vk L) (hP : Parts w L) (hz : SzK L) (hb : IsB w vb B) (hzb : SzB B) (hl : IsC w vl l) (h40 : ¬ 40 < l.length) (hs : ¬ (sErr L B).2 = 0) :
    Calls Tryz.prog 12 #[.agg #[vk, vb], vl] w (AllP w ((sErr L B).2, 0, [], [])) := by
  obtain ⟨aol, cpl, rfl, hm, hLl⟩ := hl
  obtain ⟨a1, c1, rfl, _⟩ := hK.sln
  obtain ⟨a2, c2, rfl, _⟩ := hb.sln
  have h41 : ¬ (40 : Int) < (l.length : Int) := by omega
  obtain ⟨W1, hW1⟩ : ∃ W1, W1 = (w.alloc (.cells #[.slice a1 L.length c1, .slice a2 B.length c2] 25)).alloc (.cells #[.slice none 0 0, .slice none 0 0] 25) := ⟨_, rfl⟩
  have hB0 : Below w.heap.size w W1 := by rw [hW1]; exact b_alloc (b_alloc (Below.refl _ _) _) _
  have hs0 : W1.heap.size = w.heap.size + 2 := by rw [hW1]; simp
  have n0 : W1.heap[w.heap.size]? = some (.cells #[.slice a1 L.length c1, .slice a2 B.length c2] 25 (0, 0)) := by rw [hW1]; exact (heap_alloc_old _ _ (by simp)).trans (heap_alloc_new w _)
  have n1 : W1.heap[w.heap.size + 1]? = some (.cells #[.slice none 0 0, .slice none 0 0] 25 (0, 0)) := by
    have := heap_alloc_new (w.alloc (.cells #[.slice a1 L.length c1, .slice a2 B.length c2] 25)) (.cells #[.slice none 0 0, .slice none 0 0] 25)
    rw [World.size_alloc] at this; rw [hW1]; exact this
  have d0 : W1.cell? ⟨w.heap.size, 0, none⟩ = some (.slice a1 L.length c1) := cell_at n0 rfl
  have d1 : W1.cell? ⟨w.heap.size, 1, none⟩ = some (.slice a2 B.length c2) := cell_at n0 rfl
  have hsc := scheck_any (hK.on hB0) (hP.on hB0) hz (hb.on hB0) hzb
  unfold maxLen at hm
  rw [errV_ne hs] at hsc
  have HE := Lib.hid (errV_ne hs)
  have HN : Hid (∀ W, Below W1.heap.size W1 W → W.heap[w.heap.size + 1]? = some (.cells #[.slice none 0 0, .slice none 0 0] 25 (0, 0))) := fun W hb => (hb.block _ (by omega)).trans n1
  have HB0 := Lib.hid hB0
  generalize (sErr L B).2 = r at *
  generalize (sErr L B).1 = z at *
  clear hK hP hb hz hzb hLl n0 n1 hB0 hs
  go_enter Tryz.func12, Tryz.ntmps12
  go_upto_region 1 with fail
  rw [← hW1]
  clear hW1
  go_wp2_with (go_at_call 26; refine hsc.mono ?_; rintro e w2 ⟨rfl, hB2⟩; have nn := HN.out w2 hB2; have f0 : w2.cell? ⟨w.heap.size + 1, 0, none⟩ = some (.slice none 0 0) := cell_at nn rfl; have f1 : w2.cell? ⟨w.heap.size + 1, 1, none⟩ = some (.slice none 0 0) := cell_at nn rfl; have f2 : w2.frozen? ⟨w.heap.size + 1, 0, none⟩ = false := frz_at nn; have f3 : w2.frozen? ⟨w.heap.size + 1, 1, none⟩ = false := frz_at nn; have HNn := Lib.hid nn; clear nn)
  have t1 : ((w2.setCell ⟨w.heap.size + 1, 0, none⟩ (.slice none 0 0)).setCell ⟨w.heap.size + 1, 1, none⟩ (.slice none 0 0)).heap[w.heap.size + 1]? = some (.cells #[.slice none 0 0, .slice none 0 0] 25 (0, 0)) := heap_setCell_same _ _ 1 _ 25 _ (heap_setCell_same w2 _ 0 _ 25 _ HNn.out)
  have t2 := cell_at (i := 0) t1 rfl
  have t3 := cell_at (i := 1) t1 rfl
  refine bodyPost_ret (v := .tuple #[.agg #[.slice none 0 0, .slice none 0 0], .int .i64 0, .iface 65 (.int .i64 r)]) ?_ rfl (allP_nil (by rw [HE.out]; rfl) ?_)
  · simp [results, Tryz.results12, go_sem, t2, t3]
  · exact ((on1K HB0.out hB2 (Nat.le_refl _)).setCell (by show _ ≤ w.heap.size + 1; omega) _).setCell (by show _ ≤ w.heap.size + 1; omega) _
/-- A round of All that goes on. -/
theorem alI_step {W1 wr wa w' : World} {base p : Nat} {L Lk M : List Kd} {B Bk : List Bd} {l : List Ch} {k : Nat} {c : Ch} (hc : l[k]? = some c) (h1 : goC l 0 L B = goC (l.drop k) k Lk Bk) (h3 : M.map kq3 = Lk.map kq3) (h5 : Below base W1 wr) (ha : apE M Bk c = 0) (hw : Below base wr wa)
    (o : ∃ M', OSc w' base p M' (cB Bk c) ∧ M'.map kq3 = (cK M c).map kq3) (hB : Below base wa w') : AlI W1 base p L B l (k + 1) w' := by
  obtain ⟨M', o1, o2⟩ := o
  have e := apE_kq h3 Bk c
  rw [ha] at e
  exact ⟨cK Lk c, cB Bk c, M', h1.trans (goC_step hc e.symm), apE_right e.symm, o2.trans (cK_kq h3 c), o1, h5.trans (hw.trans hB)⟩
set_option maxHeartbeats 16000000 in
set_option maxRecDepth 100000 in
theorem all_ok {w : World} {vk vb vl : Value} {L : List Kd} {B : List Bd} {l : List Ch} (hK : IsK w vk L) (hP : Parts w L) (hz : SzK L) (hb : IsB w vb B) (hzb : SzB B) (hl : IsC w vl l) (hlz : ∀ c ∈ l, ChSz c) (h40 : ¬ 40 < l.length) (hs : (sErr L B).2 = 0) :
    Calls Tryz.prog 12 #[.agg #[vk, vb], vl] w (AllP w (goC l 0 L B)) := by
  obtain ⟨aol, cpl, rfl, hm, hLl⟩ := hl
  obtain ⟨a1, c1, rfl, _⟩ := hK.sln
  obtain ⟨a2, c2, rfl, _⟩ := hb.sln
  have h41 : ¬ (40 : Int) < (l.length : Int) := by omega
  obtain ⟨W1, hW1⟩ : ∃ W1, W1 = (w.alloc (.cells #[.slice a1 L.length c1, .slice a2 B.length c2] 25)).alloc (.cells #[.slice none 0 0, .slice none 0 0] 25) := ⟨_, rfl⟩
  have hB0 : Below w.heap.size w W1 := by rw [hW1]; exact b_alloc (b_alloc (Below.refl _ _) _) _
  have hs0 : W1.heap.size = w.heap.size + 2 := by rw [hW1]; simp
  have n0 : W1.heap[w.heap.size]? = some (.cells #[.slice a1 L.length c1, .slice a2 B.length c2] 25 (0, 0)) := by rw [hW1]; exact (heap_alloc_old _ _ (by simp)).trans (heap_alloc_new w _)
  have n1 : W1.heap[w.heap.size + 1]? = some (.cells #[.slice none 0 0, .slice none 0 0] 25 (0, 0)) := by
    have := heap_alloc_new (w.alloc (.cells #[.slice a1 L.length c1, .slice a2 B.length c2] 25)) (.cells #[.slice none 0 0, .slice none 0 0] 25)
    rw [World.size_alloc] at this; rw [hW1]; exact this
  have d0 : W1.cell? ⟨w.heap.size, 0, none⟩ = some (.slice a1 L.length c1) := cell_at n0 rfl
  have d1 : W1.cell? ⟨w.heap.size, 1, none⟩ = some (.slice a2 B.length c2) := cell_at n0 rfl
  have hsc := scheck_any (hK.on hB0) (hP.on hB0) hz (hb.on hB0) hzb
  unfold maxLen at hm
  rw [hs, errV_0] at hsc
  obtain ⟨hG, hl12, hb12⟩ := good_of hs
  have HC : Hid (∀ W, Below W1.heap.size W1 W → W.cell? ⟨w.heap.size, 0, none⟩ = some (.slice a1 L.length c1) ∧ W.cell? ⟨w.heap.size, 1, none⟩ = some (.slice a2 B.length c2) ∧ Calls Tryz.prog 27 #[.agg #[.slice a1 L.length c1, .slice a2 B.length c2]] W fun e w' => ∃ uk ub M, e = .returned (.agg #[uk, ub]) ∧ M.map kq3 = L.map kq3 ∧ OwnKs w' W.heap.size uk M ∧ OwnBs w' W.heap.size ub B ∧ Below W.heap.size W w' ∧ Apt M) := fun W hbb => by
    have hbw := on1K hB0 hbb (Nat.le_refl _)
    refine ⟨cell_at ((hbb.block _ (by omega)).trans n0) rfl, cell_at ((hbb.block _ (by omega)).trans n0) rfl, ?_⟩
    exact scopy_any (hK.on hbw) (hP.on hbw) (hb.on hbw) (by omega) (by omega) (fun k hk => by have := hG.small k hk; omega)
  have HI : Hid (∀ wA w2 uk ub M, Below W1.heap.size W1 wA → M.map kq3 = L.map kq3 → OwnKs w2 wA.heap.size uk M → OwnBs w2 wA.heap.size ub B → Below wA.heap.size wA w2 → Apt M → AlI W1 W1.heap.size w2.heap.size L B l 0 (w2.alloc (.cells #[uk, ub] 25))) := fun wA w2 uk ub M hbA hM hK2 hT2 hb2 hA2 => by
    have hba : Below w2.heap.size w2 (w2.alloc (.cells #[uk, ub] 25)) := b_alloc (Below.refl _ _) _
    have hK3 := hK2.kt (.of_below hba) (.of_below hba) (.of_below hba)
    exact ⟨L, B, M, rfl, hs, hM, ⟨uk, ub, Nat.le_trans hbA.size hb2.size, heap_alloc_new w2 _, ⟨own_base hK3.1 hbA.size, fun k hk => ⟨own_base (hK3.2 k hk).1 hbA.size, own_base (hK3.2 k hk).2 hbA.size⟩⟩, hA2, own_base (own_kt hT2 (.of_below hba)) hbA.size⟩, on1K hbA (on1K hb2 hba (Nat.le_refl _)) (Nat.le_refl _)⟩
  have HH : Hid (Below w.heap.size w W1 ∧ W1.heap.size = w.heap.size + 2 ∧ W1.heap[w.heap.size + 1]? = some (.cells #[.slice none 0 0, .slice none 0 0] 25 (0, 0)) ∧ (l = [] ∨ ∃ b off, aol = some ⟨b, off, none⟩ ∧ b < w.heap.size ∧ LiesC w b off l) ∧ (∀ c ∈ l, ChSz c)) := ⟨hB0, hs0, n1, hLl, hlz⟩
  generalize (sErr L B).1 = z at *
  clear hK hP hb hz hzb hLl n0 n1 hB0 hs hG hlz hs0
  go_enter Tryz.func12, Tryz.ntmps12
  go_upto_region 1 with fail
  rw [← hW1]
  clear hW1
  go_wp2_with (first | (go_at_call 26; refine hsc.mono ?_; rintro e wA ⟨rfl, hBA⟩; obtain ⟨f0, f1, cS⟩ := HC.out wA hBA) | (go_at_call 27; refine cS.mono ?_; rintro e w2 ⟨uk, ub, M, rfl, hM, hK2, hT2, hB2, hA2⟩; have HI2 := Lib.hid (HI.out wA w2 uk ub M hBA hM hK2 hT2 hB2 hA2); obtain ⟨x1, y1, rfl⟩ := own_slice hK2.1; obtain ⟨x2, y2, rfl⟩ := own_slice hT2; clear hM hK2 hT2 hB2 hA2))
  clear HI HC hsc cS f0 f1 d0 d1
  obtain ⟨p, hp⟩ : ∃ p, p = w2.heap.size := ⟨_, rfl⟩
  rw [← hp] at HI2 ⊢
  clear hp
  go_loopw [31] (fun i wr => ∃ k : Nat, k ≤ l.length ∧ i = .int .i64 k ∧ AlI W1 W1.heap.size p L B l k wr) (fun i _ => l.length - (intOf i).toNat)
  case atStart => exact ⟨0, Nat.zero_le _, rfl, HI2.out⟩
  case round =>
    obtain ⟨k, hk, rfl, hI⟩ := hrel
    obtain ⟨Lk, Bk, M', g1, g2, g3, g4, g5⟩ := hI
    by_cases hlt : k < l.length
    · obtain ⟨c, hck⟩ : ∃ c, l[k]? = some c := ⟨l[k], by simp [hlt]⟩
      obtain ⟨b, off, rfl, hbl, hLC⟩ : ∃ b off, aol = some ⟨b, off, none⟩ ∧ b < w.heap.size ∧ LiesC w b off l := by
        rcases HH.out.2.2.2.1 with h0 | h0
        · rw [h0] at hlt; simp at hlt
        · exact h0
      have hbw := on1K HH.out.1 g5 (Nat.le_refl _)
      obtain ⟨hR, hcI⟩ := hLC.on hbl hbw k c hck
      have hcz := HH.out.2.2.2.2 c (List.mem_of_getElem? hck)
      have hki : (k : Int) < (l.length : Int) := by omega
      have hwb : W1.heap.size ≤ wr.heap.size := g5.size
      have hnE : W1.heap[w.heap.size + 1]? = some (.cells #[.slice none 0 0, .slice none 0 0] 25 (0, 0)) := HH.out.2.2.1
      have hs0 := HH.out.2.1
      have HCK := Lib.hid hck
      obtain ⟨wh, nm, ⟨kn, ko, kf, vo, vf⟩, ⟨bn, bf, bt, mn, mx⟩, ⟨fn, ft, fm, fk⟩, vt, vn, vs, tn⟩ := c
      obtain ⟨ao, lo1, co, q1⟩ := hcI.1.sl
      obtain ⟨af, lf1, cf, q2⟩ := hcI.2.sl
      simp only at q1 q2
      subst q1 q2
      have hR : wr.rangeAt b (off + k * 18) [.int .i64 wh, .string (bs nm), .string (bs kn), .slice ao lo1 co, .slice af lf1 cf, .string (bs bn), .string (bs bf), .string (bs bt), .int .i64 mn, .int .i64 mx, .string (bs fn), .int .i64 ft, .bool fm, .bool fk, .int .i64 vt, .int .i64 vn, .string (bs vs), .string (bs tn)] := hR
      obtain ⟨wa, hwa⟩ : ∃ wa, wa = wr.alloc (.cells #[.int .i64 wh, .string (bs nm), .string (bs kn), .slice ao lo1 co, .slice af lf1 cf, .string (bs bn), .string (bs bf), .string (bs bt), .int .i64 mn, .int .i64 mx, .string (bs fn), .int .i64 ft, .bool fm, .bool fk, .int .i64 vt, .int .i64 vn, .string (bs vs), .string (bs tn)] 37) := ⟨_, rfl⟩
      have hBa : Below wr.heap.size wr wa := by rw [hwa]; exact b_alloc (Below.refl _ _) _
      have na : wa.heap[wr.heap.size]? = some (.cells #[.int .i64 wh, .string (bs nm), .string (bs kn), .slice ao lo1 co, .slice af lf1 cf, .string (bs bn), .string (bs bf), .string (bs bt), .int .i64 mn, .int .i64 mx, .string (bs fn), .int .i64 ft, .bool fm, .bool fk, .int .i64 vt, .int .i64 vn, .string (bs vs), .string (bs tn)] 37 (0, 0)) := by rw [hwa]; exact heap_alloc_new wr _
      have cap := apply_any (g4.on hBa) (Nat.le_trans hwb hBa.size) (by rw [sErr_kq g3]; exact g2) ⟨wh, nm, ⟨kn, ko, kf, .slice ao lo1 co, .slice af lf1 cf⟩, ⟨bn, bf, bt, mn, mx⟩, ⟨fn, ft, fm, fk⟩, vt, vn, vs, tn⟩ (hcI.on hBa) hcz
      dsimp only [Ch.one] at cap
      have hone : (#[.int .i64 wh, .string (bs nm), .string (bs kn), .slice ao lo1 co, .slice af lf1 cf, .string (bs bn), .string (bs bf), .string (bs bt), .int .i64 mn, .int .i64 mx, .string (bs fn), .int .i64 ft, .bool fm, .bool fk, .int .i64 vt, .int .i64 vn, .string (bs vs), .string (bs tn)] : Array Value).all (·.oneCell') = true := by simp [Value.oneCell']
      have HR := Lib.hid hR
      have HNa := Lib.hid na
      have HWa := Lib.hid hwa
      by_cases hx : apE M' Bk ⟨wh, nm, ⟨kn, ko, kf, .slice ao lo1 co, .slice af lf1 cf⟩, ⟨bn, bf, bt, mn, mx⟩, ⟨fn, ft, fm, fk⟩, vt, vn, vs, tn⟩ = 0
      · have HSt : Hid (∀ e w', ApP wa W1.heap.size p M' Bk ⟨wh, nm, ⟨kn, ko, kf, .slice ao lo1 co, .slice af lf1 cf⟩, ⟨bn, bf, bt, mn, mx⟩, ⟨fn, ft, fm, fk⟩, vt, vn, vs, tn⟩ e w' → e = .returned .nilIface ∧ AlI W1 W1.heap.size p L B l (k + 1) w') := fun e w' ha => by
          obtain ⟨r1, r2, r3⟩ := ha
          exact ⟨by rw [r1, hx, errV_0], alI_step HCK.out g1 g3 g5 hx (hBa.mono hwb) (r2 hx) r3⟩
        generalize apE M' Bk ⟨wh, nm, ⟨kn, ko, kf, .slice ao lo1 co, .slice af lf1 cf⟩, ⟨bn, bf, bt, mn, mx⟩, ⟨fn, ft, fm, fk⟩, vt, vn, vs, tn⟩ = ex at *
        clear g1 g2 g3 g4 g5 hR na hwa hcI hcz hck hbw hLC hx hBa hnE hs0
        go_wp2_with (first | (refine wpList_load_mid rfl 37 (.tmp 34) rfl b (off + k * 18) rfl _ _ HR.out Tryz.underlying37 rfl info37 ?_) | (refine wpList_store_new rfl 37 (.tmp 11) (.tmp 35) rfl _ _ rfl rfl info37 rfl hone ?_; rw [← HWa.out]) | (refine wpList_load_row rfl 37 (.tmp 11) rfl wr.heap.size rfl 37 _ (0, 0) _ HNa.out Tryz.underlying37 rfl info37 ?_) | (go_at_call 28; refine cap.mono ?_; intro e w' ha; obtain ⟨rfl, hI'⟩ := HSt.out e w' ha; have HI' := Lib.hid hI'; clear hI' ha))
        go_roundw
        case rel => exact ⟨k + 1, by omega, by go_num, HI'.out⟩
        case measure => simp [intOf]; omega
      · have HSt : Hid (∀ e w', ApP wa W1.heap.size p M' Bk ⟨wh, nm, ⟨kn, ko, kf, .slice ao lo1 co, .slice af lf1 cf⟩, ⟨bn, bf, bt, mn, mx⟩, ⟨fn, ft, fm, fk⟩, vt, vn, vs, tn⟩ e w' → e = .returned (.iface 65 (.int .i64 (apE M' Bk ⟨wh, nm, ⟨kn, ko, kf, .slice ao lo1 co, .slice af lf1 cf⟩, ⟨bn, bf, bt, mn, mx⟩, ⟨fn, ft, fm, fk⟩, vt, vn, vs, tn⟩))) ∧ w'.heap[w.heap.size + 1]? = some (.cells #[.slice none 0 0, .slice none 0 0] 25 (0, 0)) ∧ Below w.heap.size w w') := fun e w' ha => by
          obtain ⟨r1, r2, r3⟩ := ha
          have hbb : Below W1.heap.size W1 w' := g5.trans ((hBa.mono hwb).trans r3)
          exact ⟨by rw [r1, errV_ne hx], (hbb.block _ (by omega)).trans hnE, on1K HH.out.1 hbb (Nat.le_refl _)⟩
        have HG : Hid (goC l 0 L B = (apE M' Bk ⟨wh, nm, ⟨kn, ko, kf, .slice ao lo1 co, .slice af lf1 cf⟩, ⟨bn, bf, bt, mn, mx⟩, ⟨fn, ft, fm, fk⟩, vt, vn, vs, tn⟩, k, [], []) ∧ errV (apE M' Bk ⟨wh, nm, ⟨kn, ko, kf, .slice ao lo1 co, .slice af lf1 cf⟩, ⟨bn, bf, bt, mn, mx⟩, ⟨fn, ft, fm, fk⟩, vt, vn, vs, tn⟩) = .iface 65 (.int .i64 (apE M' Bk ⟨wh, nm, ⟨kn, ko, kf, .slice ao lo1 co, .slice af lf1 cf⟩, ⟨bn, bf, bt, mn, mx⟩, ⟨fn, ft, fm, fk⟩, vt, vn, vs, tn⟩))) := ⟨by rw [g1, goC_stop HCK.out (by rw [← apE_kq g3]; exact hx), apE_kq g3], errV_ne hx⟩
        generalize apE M' Bk ⟨wh, nm, ⟨kn, ko, kf, .slice ao lo1 co, .slice af lf1 cf⟩, ⟨bn, bf, bt, mn, mx⟩, ⟨fn, ft, fm, fk⟩, vt, vn, vs, tn⟩ = ex at *
        clear g1 g2 g3 g4 g5 hR na hwa hcI hcz hck hbw hLC hx hBa hnE hs0
        go_wp2_with (first | (refine wpList_load_mid rfl 37 (.tmp 34) rfl b (off + k * 18) rfl _ _ HR.out Tryz.underlying37 rfl info37 ?_) | (refine wpList_store_new rfl 37 (.tmp 11) (.tmp 35) rfl _ _ rfl rfl info37 rfl hone ?_; rw [← HWa.out]) | (refine wpList_load_row rfl 37 (.tmp 11) rfl wr.heap.size rfl 37 _ (0, 0) _ HNa.out Tryz.underlying37 rfl info37 ?_) | (go_at_call 28; refine cap.mono ?_; intro e w' ha; obtain ⟨rfl, hn', hB'⟩ := HSt.out e w' ha; have HB' := Lib.hid hB'; have HNn := Lib.hid hn'; have f0 : w'.cell? ⟨w.heap.size + 1, 0, none⟩ = some (.slice none 0 0) := cell_at hn' rfl; have f1 : w'.cell? ⟨w.heap.size + 1, 1, none⟩ = some (.slice none 0 0) := cell_at hn' rfl; have f2 : w'.frozen? ⟨w.heap.size + 1, 0, none⟩ = false := frz_at hn'; have f3 : w'.frozen? ⟨w.heap.size + 1, 1, none⟩ = false := frz_at hn'; clear hB' hn' ha))
        have t1 : ((w'.setCell ⟨w.heap.size + 1, 0, none⟩ (.slice none 0 0)).setCell ⟨w.heap.size + 1, 1, none⟩ (.slice none 0 0)).heap[w.heap.size + 1]? = some (.cells #[.slice none 0 0, .slice none 0 0] 25 (0, 0)) := heap_setCell_same _ _ 1 _ 25 _ (heap_setCell_same w' _ 0 _ 25 _ HNn.out)
        have t2 := cell_at (i := 0) t1 rfl
        have t3 := cell_at (i := 1) t1 rfl
        rw [HG.out.1]
        refine bodyPost_ret (v := .tuple #[.agg #[.slice none 0 0, .slice none 0 0], .int .i64 k, .iface 65 (.int .i64 ex)]) ?_ rfl (allP_nil (by rw [HG.out.2]) ?_)
        · simp [results, Tryz.results12, go_sem, t2, t3]
        · exact (HB'.out.setCell (by show _ ≤ w.heap.size + 1; omega) _).setCell (by show _ ≤ w.heap.size + 1; omega) _
    · have hkl : k = l.length := by omega
      obtain ⟨vk', vb', hp', hX, hKk, hAk, hTk⟩ := g4
      obtain ⟨x3, y3, rfl⟩ := own_slice hKk.1
      obtain ⟨x4, y4, rfl⟩ := own_slice hTk
      have i0 : wr.cell? ⟨p, 0, none⟩ = some (.slice x3 M'.length y3) := cell_at hX rfl
      have i1 : wr.cell? ⟨p, 1, none⟩ = some (.slice x4 Bk.length y4) := cell_at hX rfl
      have hn1 : wr.heap[w.heap.size + 1]? = some (.cells #[.slice none 0 0, .slice none 0 0] 25 (0, 0)) := (g5.block _ (by have := HH.out.2.1; omega)).trans HH.out.2.2.1
      have f0 : wr.cell? ⟨w.heap.size + 1, 0, none⟩ = some (.slice none 0 0) := cell_at hn1 rfl
      have f1 : wr.cell? ⟨w.heap.size + 1, 1, none⟩ = some (.slice none 0 0) := cell_at hn1 rfl
      have f2 : wr.frozen? ⟨w.heap.size + 1, 0, none⟩ = false := frz_at hn1
      have f3 : wr.frozen? ⟨w.heap.size + 1, 1, none⟩ = false := frz_at hn1
      have hki : ¬ (k : Int) < (l.length : Int) := by omega
      have HF : Hid (goC l 0 L B = (0, 0, Lk, Bk) ∧ M'.map kq3 = Lk.map kq3 ∧ OwnKs wr W1.heap.size (.slice x3 M'.length y3) M' ∧ OwnBs wr W1.heap.size (.slice x4 Bk.length y4) Bk ∧ Below w.heap.size w wr ∧ w.heap.size ≤ W1.heap.size) := ⟨by rw [g1, goC_end (by omega)], g3, hKk, hTk, on1K HH.out.1 g5 (Nat.le_refl _), HH.out.1.size⟩
      have HN1 := Lib.hid hn1
      clear g1 g2 g3 g5 hX hKk hAk hTk hn1 hp' hkl
      go_wp2
      have t1 : ((wr.setCell ⟨w.heap.size + 1, 0, none⟩ (.slice x3 M'.length y3)).setCell ⟨w.heap.size + 1, 1, none⟩ (.slice x4 Bk.length y4)).heap[w.heap.size + 1]? = some (.cells #[.slice x3 M'.length y3, .slice x4 Bk.length y4] 25 (0, 0)) := heap_setCell_same _ _ 1 _ 25 _ (heap_setCell_same wr _ 0 _ 25 _ HN1.out)
      have t2 := cell_at (i := 0) t1 rfl
      have t3 := cell_at (i := 1) t1 rfl
      obtain ⟨z1, z2, z3, z4, z5, z6⟩ := HF.out
      rw [z1]
      have kk : ∀ t : TypeId, (25 : TypeId) ≠ t → Kt t wr ((wr.setCell ⟨w.heap.size + 1, 0, none⟩ (.slice x3 M'.length y3)).setCell ⟨w.heap.size + 1, 1, none⟩ (.slice x4 Bk.length y4)) := fun t ht => ((Kt.refl _ _).ty ⟨_, HN1.out⟩ ht _ _).ty (Ty.set ⟨_, HN1.out⟩ _ _ _) ht _ _
      have zk := z3.kt (kk 29 (by decide)) (kk 9 (by decide)) (kk 33 (by decide))
      refine bodyPost_ret (v := .tuple #[.agg #[.slice x3 M'.length y3, .slice x4 Bk.length y4], .int .i64 0, .nilIface]) ?_ rfl ⟨_, _, M', rfl, z2, ⟨own_base zk.1 z6, fun q hq => ⟨own_base (zk.2 q hq).1 z6, own_base (zk.2 q hq).2 z6⟩⟩, own_base (own_kt z4 (kk 31 (by decide))) z6, ?_⟩
      · simp [results, Tryz.results12, go_sem, t2, t3]
      · exact (z5.setCell (by show _ ≤ w.heap.size + 1; omega) _).setCell (by show _ ≤ w.heap.size + 1; omega) _
end Go.Proofs.YtkmkhadacppdnaaGreatDoor
