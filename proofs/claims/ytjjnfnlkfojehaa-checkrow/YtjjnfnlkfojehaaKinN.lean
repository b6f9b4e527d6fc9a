/-
  The walks of kind.Kin, Under and Is.
-/
import Derived.Test.YtjjnfnlkfojehaaKinK
namespace Go.Proofs.Ytjjnfnlkfojehaa
open Go.RowKit
set_option linter.unusedVariables false
set_option linter.unusedSimpArgs false

theorem kinOf_ne {L : List Kd} {z : Kd} (h : L.getLast? = some z) : ¬ kinOf L = [] := by
  unfold kinOf
  rw [h]
  obtain ⟨A, rfl⟩ : ∃ A, L = A ++ [z] := ⟨L.dropLast, by
    have hne : L ≠ [] := fun e => by rw [e] at h; simp at h
    have e1 := List.dropLast_concat_getLast hne
    rw [List.getLast?_eq_some_getLast hne] at h
    rw [Option.some.inj h] at e1
    exact e1.symm⟩
  have h1 : hasN [z.nm] z.nm = true := by unfold hasN; simp
  simp [back, h1]
/-- Names of kinds. -/
def nms (K : List Kd) : List Nm := K.map Kd.nm
/-- What Kin gives. -/
def KPost (w : World) (L : List Kd) (a : Nm) (e : Ending) (w' : World) : Prop :=
  ∃ v, e = .returned (.tuple #[v, errV (nmErr L a)]) ∧ (nmErr L a = 0 → w'.ownsRow w.heap.size 9 1 v (nms (kin L a)).length (cellsS (nms (kin L a)))) ∧ (¬ nmErr L a = 0 → v = .slice none 0 0) ∧ Below w.heap.size w w'
/-- Between two rounds. -/
def NR (w : World) (kk : List Kd) (v8 i : Value) (wr : World) : Prop :=
  ∃ k : Nat, k ≤ kk.length ∧ i = .int .i64 k ∧ wr.ownsRow w.heap.size 9 1 v8 (nms (kk.take k)).length (cellsS (nms (kk.take k))) ∧ Below w.heap.size w wr

set_option maxHeartbeats 4000000 in
set_option maxRecDepth 100000 in
theorem kin_any {v : Value} {L : List Kd} {w : World} (h : IsK w v L) (hP : Parts w L) (hz : SzK L) (a : Nm) : Calls Try.prog 26 #[v, .string (bs a)] w (KPost w L a) := by
  obtain ⟨i0, hi0, hz0, hz1, hz2⟩ := info_parts info9
  have c1 := find_any h hP hz a
  by_cases e1 : nmErr L a = 0
  · obtain ⟨hG, hn, j, q, hx, hat, hq, hqa⟩ := nmErr_zero e1
    have hjl := (List.getElem?_eq_some_iff.1 hq).1
    have hA : fAt L a = (j : Int) := by unfold fAt; rw [if_pos e1, hx]
    have hkin : kin L a = kinOf (L.take (j + 1)) := by unfold kin; rw [hat]
    rcases h with ⟨rfl, rfl⟩ | ⟨b, off, cap, rfl, hc, hm, hb, hl⟩
    · simp at hq
    · have HH : Hid (LiesK w b off L ∧ Parts w L ∧ Small L ∧ L.length ≤ 12 ∧ L[j]? = some q ∧ kin L a = kinOf (L.take (j + 1)) ∧ nmErr L a = 0) := ⟨hl, hP, hG.small, hn, hq, hkin, e1⟩
      rw [hA, e1, errV_0] at c1
      have hj12 : j < 12 := by omega
      have hj1 : (j : Int) + 1 ≤ (cap : Int) := by omega
      unfold maxLen at hm
      clear hz e1 hG hx hat hq hqa hA hkin hl hP
      go_enter Try.func26, Try.ntmps26
      go_wp2_with (go_at_call 40; refine c1.mono ?_; rintro e W1 ⟨rfl, hB1⟩; refine Hid.out ?_)
      refine Lib.hid ?_
      have c2 := kinTake (cap := cap) (Nat.lt_of_lt_of_le hb hB1.size) (HH.out.1.on hb hB1) (HH.out.2.1.on hB1) HH.out.2.2.1 HH.out.2.2.2.1 HH.out.2.2.2.2.1
      clear c1
      go_wp2_with (go_at_call 41; refine c2.mono ?_; rintro e W2 ⟨v2, rfl, hown2, hB2⟩; refine Hid.out ?_)
      refine Lib.hid ?_
      have hBw2 := on1K hB1 hB2 (Nat.le_refl _)
      obtain ⟨f1, f2, f3⟩ := kin_facts (j + 1) W2 (HH.out.2.1.on hBw2) HH.out.2.2.1 HH.out.2.2.2.1
      have hne : ¬ kinOf (L.take (j + 1)) = [] := kinOf_ne (z := q) (by rw [takeK HH.out.2.2.2.2.1]; simp)
      have HKE : Hid (kin L a = kinOf (L.take (j + 1)) ∧ nmErr L a = 0) := HH.out.2.2.2.2.2
      have hK := own_isK hown2
      obtain ⟨kk, hkk⟩ : ∃ kk, kk = kinOf (L.take (j + 1)) := ⟨_, rfl⟩
      rw [← hkk] at f1 f2 f3 hne hK HKE
      clear c2 hown2 hkk HH
      rcases hK with ⟨_, h0⟩ | ⟨bk, ok, ck, rfl, hck, hckm, hbk, hlk⟩
      · exact absurd h0 hne
      · have HK : Hid (LiesK W2 bk ok kk ∧ Parts W2 kk) := ⟨hlk, f1⟩
        have HB2 : Hid (Below w.heap.size w W2) := hBw2
        clear hlk f1 f2 hne hB1 hB2 hBw2
        go_wp2
        go_loopw [8, 26] (fun v8 i wr => NR W2 kk v8 i wr) (fun _ i _ => kk.length - (intOf i).toNat)
        case atStart => exact ⟨0, Nat.zero_le _, rfl, World.ownsRow_nil _ _ _ _, Below.refl _ _⟩
        case round =>
          obtain ⟨k, hk, rfl, ho, hB⟩ := hrel
          by_cases hlt : k < kk.length
          · obtain ⟨p, hp⟩ : ∃ p, kk[k]? = some p := ⟨kk[k], by simp [hlt]⟩
            obtain ⟨c0, c1, c2⟩ := HK.out.1 k p hp
            have hpm : p ∈ kk := List.mem_of_getElem? hp
            obtain ⟨ao, no, co, evo⟩ := (HK.out.2 p hpm).1.sl
            obtain ⟨af, nf, cf, evf⟩ := (HK.out.2 p hpm).2.sl
            rw [evo] at c1
            rw [evf] at c2
            have d0 := (hB.cell (p := ⟨bk, ok + k * 3, none⟩) hbk).trans c0
            have d1 := (hB.cell (p := ⟨bk, ok + k * 3 + 1, none⟩) hbk).trans c1
            have d2 := (hB.cell (p := ⟨bk, ok + k * 3 + 2, none⟩) hbk).trans c2
            have HD : Hid (kk.take (k + 1) = kk.take k ++ [p]) := takeK hp
            have hbr : bk < wr.heap.size := Nat.lt_of_lt_of_le hbk hB.size
            have hln : (nms (kk.take k)).length = k := by unfold nms; rw [List.length_map, List.length_take_of_le hk]
            have HM : Hid ((nms (kk.take k)).length + 1 ≤ maxLen ∧ ((nms (kk.take k)).length + 1) * 16 ≤ 140737488355328) := by rw [hln]; unfold maxLen; exact ⟨by omega, by omega⟩
            have hB0 : Below W2.heap.size W2 ((wr.alloc (.cells #[.string (bs p.nm), .slice ao no co, .slice af nf cf] 70)).alloc (.cells #[.string (bs p.nm)] 9)) := b_allocK (b_allocK hB (Nat.le_refl _) _) (Nat.le_refl _) _
            have HO : Hid (((wr.alloc (.cells #[.string (bs p.nm), .slice ao no co, .slice af nf cf] 70)).alloc (.cells #[.string (bs p.nm)] 9)).ownsRow W2.heap.size 9 1 u8 (nms (kk.take k)).length (cellsS (nms (kk.take k))) ∧ Below W2.heap.size W2 ((wr.alloc (.cells #[.string (bs p.nm), .slice ao no co, .slice af nf cf] 70)).alloc (.cells #[.string (bs p.nm)] 9))) := ⟨(ho.alloc _).alloc _, hB0⟩
            clear c0 c1 c2 hpm hp ho hB hB0 hln evo evf
            go_wp2_with (at_builtin; refine wpList_append_own _ rfl (.tmp 30) (.tmp 33) 68 rfl W2.heap.size 9 i0 _ 1 16 Try.underlying68 hi0 hz0 hz1 hz2 rfl (by decide) u8 (nms (kk.take k)).length (cellsS (nms (kk.take k))) rfl HO.out.1 ⟨wr.heap.size + 1, 0, none⟩ 1 1 [.string (bs p.nm)] (by simp [Act.eval]) rfl (by have := new_at (wr.alloc (.cells #[.string (bs p.nm), .slice ao no co, .slice af nf cf] 70)) [.string (bs p.nm)] 9; simpa using this) (by simp [Value.oneCell']) HM.out.1 HM.out.2 HO.out.2.size ?_; intro v1 w1 hown1 hgrow1 _; refine Hid.out ?_)
            refine Lib.hid ?_
            have R : NR W2 kk v1 (.int .i64 ((k + 1 : Nat) : Int)) w1 := by
              refine ⟨k + 1, by omega, rfl, ?_, HO.out.2.grown hgrow1 HO.out.2.size (fun k hk => (HO.out.1.lt k hk).1)⟩
              rw [HD.out]; unfold nms at *
              rw [List.map_append, List.length_append, cellsS_app]
              exact hown1
            have HRR : Hid (NR W2 kk v1 (.int .i64 ((k + 1 : Nat) : Int)) w1) := R
            clear R hown1
            go_wp2
            refine ⟨?_, ?_⟩
            · first | exact HRR.out | ((repeat apply Exists.intro); refine ⟨?_, rfl⟩; exact HRR.out)
            · simp [intOf]
              try omega
          · have hke : kk.take k = kk := List.take_of_length_le (by omega)
            rw [hke] at ho
            have HO : Hid (wr.ownsRow W2.heap.size 9 1 u8 (nms kk).length (cellsS (nms kk)) ∧ Below W2.heap.size W2 wr) := ⟨ho, hB⟩
            clear ho hB hke
            go_wp2
            go_ret2
            refine ⟨_, ret_v (by rw [HKE.out.2]; rfl), fun _ => ?_, fun h => absurd HKE.out.2 h, on1K HB2.out HO.out.2 (Nat.le_refl _)⟩
            rw [HKE.out.1]
            exact own_base HO.out.1 HB2.out.size
  · have hA : fAt L a = 0 := by unfold fAt; rw [if_neg e1]
    have HE : Hid (¬ nmErr L a = 0) := e1
    rw [errV_ne e1, hA] at c1
    clear h hP hz e1 hA
    go_enter Try.func26, Try.ntmps26
    go_wp2_with (go_at_call 40; refine c1.mono ?_; rintro e W1 ⟨rfl, hB1⟩)
    go_ret2
    exact ⟨.slice none 0 0, ret_v (by rw [errV_ne HE.out]; rfl), fun h => absurd h HE.out, fun _ => rfl, hB1⟩
end Go.Proofs.Ytjjnfnlkfojehaa
