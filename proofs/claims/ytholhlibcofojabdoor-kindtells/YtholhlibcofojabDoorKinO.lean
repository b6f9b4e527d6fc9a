/-
  The walks of kind.Under and Is.
-/
import Derived.Test.YtholhlibcofojabDoorKinN
namespace Go.Proofs.YtholhlibcofojabDoor
open Go.RowKit
set_option linter.unusedVariables false
set_option linter.unusedSimpArgs false

theorem unds_app (L : List Kd) (a : Nm) (x y : List Nat) : unds L a (x ++ y) = unds L a x ++ unds L a y := by
  induction x with
  | nil => rfl
  | cons i x ih =>
    simp only [List.cons_append, unds]
    cases L[i]? with
    | none => exact ih
    | some k =>
      simp only
      split
      · exact ih
      · rw [List.cons_append, ih]
theorem unds_len (L : List Kd) (a : Nm) (x : List Nat) : (unds L a x).length ≤ x.length := by
  induction x with
  | nil => simp [unds]
  | cons i x ih =>
    simp only [unds]
    cases L[i]? with
    | none => simp; omega
    | some k =>
      simp only
      split
      · simp; omega
      · simp; omega
/-- What Under gives. -/
def UPost (w : World) (L : List Kd) (a : Nm) (e : Ending) (w' : World) : Prop :=
  ∃ v, e = .returned (.tuple #[v, errV (nmErr L a)]) ∧ (nmErr L a = 0 → w'.ownsRow w.heap.size 9 1 v (under L a).length (cellsS (under L a))) ∧ (¬ nmErr L a = 0 → v = .slice none 0 0) ∧ Below w.heap.size w w'
/-- Between two rounds. -/
def UR (w : World) (L : List Kd) (a : Nm) (v8 i : Value) (wr : World) : Prop :=
  ∃ k : Nat, k ≤ L.length ∧ i = .int .i64 k ∧ wr.ownsRow w.heap.size 9 1 v8 (unds L a (List.range k)).length (cellsS (unds L a (List.range k))) ∧ Below w.heap.size w wr

set_option maxHeartbeats 4000000 in
set_option maxRecDepth 100000 in
theorem under_any {v : Value} {L : List Kd} {w : World} (h : IsK w v L) (hP : Parts w L) (hz : SzK L) (a : Nm) : Calls Tryd.prog 19 #[v, .string (bs a)] w (UPost w L a) := by
  obtain ⟨i0, hi0, hz0, hz1, hz2⟩ := info_parts info9
  have c1 := find_any h hP hz a
  by_cases e1 : nmErr L a = 0
  · obtain ⟨hG, hn, j, q, hx, hat, hq, hqa⟩ := nmErr_zero e1
    have hA : fAt L a = (j : Int) := by unfold fAt; rw [if_pos e1, hx]
    rcases h with ⟨rfl, rfl⟩ | ⟨b, off, cap, rfl, hc, hm, hb, hl⟩
    · simp at hq
    · have HH : Hid (LiesK w b off L ∧ Parts w L ∧ Small L ∧ L.length ≤ 12 ∧ nmErr L a = 0) := ⟨hl, hP, hG.small, hn, e1⟩
      rw [hA, e1, errV_0] at c1
      unfold maxLen at hm
      clear hz e1 hG hx hat hq hqa hA hl hP
      go_enter Tryd.func19, Tryd.ntmps19
      go_wp2_with (go_at_call 29; refine c1.mono ?_; rintro e W1 ⟨rfl, hB1⟩; refine Hid.out ?_)
      refine Lib.hid ?_
      have HB1 : Hid (Below w.heap.size w W1) := hB1
      clear c1 hB1
      go_wp2
      go_loopw [8, 22] (fun v8 i wr => UR W1 L a v8 i wr) (fun _ i _ => L.length - (intOf i).toNat)
      case atStart => exact ⟨0, Nat.zero_le _, rfl, World.ownsRow_nil _ _ _ _, Below.refl _ _⟩
      case round =>
        obtain ⟨k, hk, rfl, ho, hB⟩ := hrel
        by_cases hlt : k < L.length
        · obtain ⟨p, hp⟩ : ∃ p, L[k]? = some p := ⟨L[k], by simp [hlt]⟩
          obtain ⟨hL, hP, hS, hn', _⟩ := HH.out
          obtain ⟨c0, c1, c2⟩ := hL k p hp
          have hpm : p ∈ L := List.mem_of_getElem? hp
          obtain ⟨ao, no, co, evo⟩ := (hP p hpm).1.sl
          obtain ⟨af, nf, cf, evf⟩ := (hP p hpm).2.sl
          rw [evo] at c1
          rw [evf] at c2
          have hBw := on1 HB1.out hB (Nat.le_refl _)
          have d0 := (hBw.cell (p := ⟨b, off + k * 3, none⟩) hb).trans c0
          have d1 := (hBw.cell (p := ⟨b, off + k * 3 + 1, none⟩) hb).trans c1
          have d2 := (hBw.cell (p := ⟨b, off + k * 3 + 2, none⟩) hb).trans c2
          have hbr : b < wr.heap.size := Nat.lt_of_lt_of_le hb hBw.size
          have hB0 : Below w.heap.size w (wr.alloc (.cells #[.string (bs p.nm), .slice ao no co, .slice af nf cf] 61)) := b_alloc hBw (Nat.le_refl _) _
          have ck := kinTake (cap := cap) (Nat.lt_of_lt_of_le hb hB0.size) (hL.on hb hB0) (hP.on hB0) hS hn' hp
          have hk1 : (k : Int) + 1 ≤ (cap : Int) := by omega
          have HO : Hid (wr.ownsRow W1.heap.size 9 1 u8 (unds L a (List.range k)).length (cellsS (unds L a (List.range k))) ∧ Below W1.heap.size W1 wr ∧ L[k]? = some p ∧ Below w.heap.size w (wr.alloc (.cells #[.string (bs p.nm), .slice ao no co, .slice af nf cf] 61))) := ⟨ho, hB, hp, hB0⟩
          clear c0 c1 c2 hpm hp ho hB hB0 evo evf hL hP hS hn' hBw
          go_wp2_with (go_at_call 30; refine ck.mono ?_; rintro e W2 ⟨v2, rfl, hown2, hB2⟩; refine Hid.out ?_)
          refine Lib.hid ?_
          have hBw2 := on1 HO.out.2.2.2 hB2 (Nat.le_refl _)
          have g0 := hB2.cell (p := ⟨wr.heap.size, 0, none⟩) (by simp)
          simp at g0
          have hs2 : wr.heap.size < W2.heap.size := Nat.lt_of_lt_of_le (by simp) hB2.size
          obtain ⟨f1, f2, f3⟩ := kin_facts (k + 1) W2 (HH.out.2.1.on hBw2) HH.out.2.2.1 HH.out.2.2.2.1
          have cx := index_any (own_isK hown2) f3 a
          clear ck f1 f2 f3 hown2
          rcases idxK_spec a (kinOf (L.take (k + 1))) 0 with hx | ⟨m, q2, hx, hq2, _⟩
          · rw [hx] at cx
            have HU : Hid (unds L a (List.range (k + 1)) = unds L a (List.range k)) := by
              show _ = _
              rw [List.range_succ, unds_app]
              simp [unds, HO.out.2.2.1, hx]
            clear hx
            go_wp2_with (go_at_call 31; refine cx.mono ?_; rintro e W3 ⟨rfl, hB3⟩; refine Hid.out ?_)
            refine Lib.hid ?_
            have hBB : Below W1.heap.size W1 W3 := on1 (on1 (b_alloc HO.out.2.1 (Nat.le_refl _) _) hB2 (Nat.le_refl _)) hB3 (Nat.le_refl _)
            have R : UR W1 L a u8 (.int .i64 ((k + 1 : Nat) : Int)) W3 := by
              refine ⟨k + 1, by omega, rfl, ?_, hBB⟩
              rw [HU.out]
              exact own_below (own_below (HO.out.1.alloc _) hB2) hB3
            have HRR : Hid (UR W1 L a u8 (.int .i64 ((k + 1 : Nat) : Int)) W3) := R
            clear R cx
            go_wp2
            refine ⟨?_, ?_⟩
            · first | exact HRR.out | ((repeat apply Exists.intro); refine ⟨?_, rfl⟩; exact HRR.out)
            · simp [intOf]
              try omega
          · have hne : ¬ idxK a (kinOf (L.take (k + 1))) 0 = -1 := by omega
            rw [hx] at cx
            simp only [Nat.zero_add] at cx
            have HU : Hid (unds L a (List.range (k + 1)) = unds L a (List.range k) ++ [p.nm]) := by
              show _ = _
              rw [List.range_succ, unds_app]
              simp [unds, HO.out.2.2.1, hne]
            have hm12 : m < 100 := by
              have h1 := (List.getElem?_eq_some_iff.1 hq2).1
              have h2 := (kinOf_sub (L.take (k + 1))).2
              have h3 := HH.out.2.2.2.1
              simp at h2
              omega
            have HM : Hid ((unds L a (List.range k)).length + 1 ≤ maxLen ∧ ((unds L a (List.range k)).length + 1) * 16 ≤ 140737488355328) := by
              have := unds_len L a (List.range k)
              have h3 := HH.out.2.2.2.1
              simp at this
              unfold maxLen; exact ⟨by omega, by omega⟩
            clear hx hne hq2
            go_wp2_with (go_at_call 31; refine cx.mono ?_; rintro e W3 ⟨rfl, hB3⟩; refine Hid.out ?_)
            refine Lib.hid ?_
            have k0 := (hB3.cell (p := ⟨wr.heap.size, 0, none⟩) hs2).trans g0
            have hBB : Below W1.heap.size W1 (W3.alloc (.cells #[.string (bs p.nm)] 9)) := b_alloc (on1 (on1 (b_alloc HO.out.2.1 (Nat.le_refl _) _) hB2 (Nat.le_refl _)) hB3 (Nat.le_refl _)) (Nat.le_refl _) _
            have HO3 : Hid ((W3.alloc (.cells #[.string (bs p.nm)] 9)).ownsRow W1.heap.size 9 1 u8 (unds L a (List.range k)).length (cellsS (unds L a (List.range k))) ∧ Below W1.heap.size W1 (W3.alloc (.cells #[.string (bs p.nm)] 9))) := ⟨(own_below (own_below (HO.out.1.alloc _) hB2) hB3).alloc _, hBB⟩
            clear cx g0 hBB
            go_wp2_with (at_builtin; refine wpList_append_own _ rfl (.tmp 35) (.tmp 38) 44 rfl W1.heap.size 9 i0 _ 1 16 Tryd.underlying44 hi0 hz0 hz1 hz2 rfl (by decide) u8 (unds L a (List.range k)).length (cellsS (unds L a (List.range k))) rfl HO3.out.1 ⟨W3.heap.size, 0, none⟩ 1 1 [.string (bs p.nm)] rfl rfl (new_at _ _ _) (by simp [Value.oneCell']) HM.out.1 HM.out.2 HO3.out.2.size ?_; intro v1 w1 hown1 hgrow1 _; refine Hid.out ?_)
            refine Lib.hid ?_
            have R : UR W1 L a v1 (.int .i64 ((k + 1 : Nat) : Int)) w1 := by
              refine ⟨k + 1, by omega, rfl, ?_, HO3.out.2.grown hgrow1 HO3.out.2.size (fun k hk => (HO3.out.1.lt k hk).1)⟩
              rw [HU.out, List.length_append, cellsS_app]
              exact hown1
            have HRR : Hid (UR W1 L a v1 (.int .i64 ((k + 1 : Nat) : Int)) w1) := R
            clear R hown1
            go_wp2
            refine ⟨?_, ?_⟩
            · first | exact HRR.out | ((repeat apply Exists.intro); refine ⟨?_, rfl⟩; exact HRR.out)
            · simp [intOf]
              try omega
        · have hke : k = L.length := by omega
          have HO : Hid (wr.ownsRow W1.heap.size 9 1 u8 (under L a).length (cellsS (under L a)) ∧ Below W1.heap.size W1 wr) := by
            subst hke; exact ⟨ho, hB⟩
          clear ho hB hke
          go_wp2
          go_ret2
          exact ⟨_, ret_v (by rw [HH.out.2.2.2.2]; rfl), fun _ => own_base HO.out.1 HB1.out.size, fun h => absurd HH.out.2.2.2.2 h, on1 HB1.out HO.out.2 (Nat.le_refl _)⟩
  · have hA : fAt L a = 0 := by unfold fAt; rw [if_neg e1]
    have HE : Hid (¬ nmErr L a = 0) := e1
    rw [errV_ne e1, hA] at c1
    clear h hP hz e1 hA
    go_enter Tryd.func19, Tryd.ntmps19
    go_wp2_with (go_at_call 29; refine c1.mono ?_; rintro e W1 ⟨rfl, hB1⟩)
    go_ret2
    exact ⟨.slice none 0 0, ret_v (by rw [errV_ne HE.out]; rfl), fun h => absurd h HE.out, fun _ => rfl, hB1⟩

/-- The fault of two names. -/
def isErr (L : List Kd) (a b : Nm) : Int := if nmErr L a = 0 then (if idxK b L 0 = -1 then 5 else 0) else nmErr L a
/-- Is one kin of the other? -/
def isKin (L : List Kd) (a b : Nm) : Bool := if isErr L a b = 0 then hasN (nms (kin L a)) b else false
set_option maxHeartbeats 4000000 in
set_option maxRecDepth 100000 in
theorem is_any {v : Value} {L : List Kd} {w : World} (h : IsK w v L) (hP : Parts w L) (hz : SzK L) (a c : Nm) :
    Calls Tryd.prog 23 #[v, .string (bs a), .string (bs c)] w fun e w' => e = .returned (.tuple #[.bool (isKin L a c), errV (isErr L a c)]) ∧ Below w.heap.size w w' := by
  have c1 := kin_any h hP hz a
  by_cases e1 : nmErr L a = 0
  · obtain ⟨hG, hn, j, q, hx, hat, hq, hqa⟩ := nmErr_zero e1
    have hkl : (nms (kin L a)).length ≤ 1000 := by
      have := (kinOf_sub (L.take (nmAt L a + 1))).2
      unfold nms kin
      simp at this ⊢
      omega
    have HH : Hid (IsK w v L ∧ L.length ≤ 12 ∧ (nms (kin L a)).length ≤ 1000 ∧ nmErr L a = 0) := ⟨h, hn, hkl, e1⟩
    rcases idxK_spec c L 0 with hy | ⟨m, q2, hy, hq2, _⟩
    · have HE : Hid (isErr L a c = 5 ∧ isKin L a c = false ∧ idxK c L 0 = -1) := by
        have e5 : isErr L a c = 5 := by unfold isErr; rw [if_pos e1, if_pos hy]
        exact ⟨e5, by unfold isKin; rw [if_neg (by rw [e5]; decide)], hy⟩
      clear h hP hz hG hn hx hat hq hqa hkl hy
      go_enter Tryd.func23, Tryd.ntmps23
      go_wp2_with (go_at_call 17; refine c1.mono ?_; rintro e W1 ⟨v1, rfl, hown1, hno1, hB1⟩; refine Hid.out ?_)
      refine Lib.hid ?_
      first | rw [e1, errV_0] | rw [errV_0]
      have c2 := index_any (HH.out.1.on hB1) HH.out.2.1 c
      rw [HE.out.2.2] at c2
      obtain ⟨a1, n1, rfl⟩ := own_slice (hown1 e1)
      clear c1 hown1 hno1 e1
      go_wp2_with (go_at_call 31; refine c2.mono ?_; rintro e W2 ⟨rfl, hB2⟩)
      go_ret2
      exact ⟨ret_v (by rw [HE.out.1, HE.out.2.1]; rfl), on1 hB1 hB2 (Nat.le_refl _)⟩
    · have hm := (List.getElem?_eq_some_iff.1 hq2).1
      have hm12 : m < 12 := by omega
      have HE : Hid (isErr L a c = 0 ∧ isKin L a c = hasN (nms (kin L a)) c ∧ idxK c L 0 = (m : Int)) := by
        have hy' : idxK c L 0 = (m : Int) := by simpa using hy
        have e5 : isErr L a c = 0 := by unfold isErr; rw [if_pos e1, if_neg (by omega)]
        exact ⟨e5, by unfold isKin; rw [if_pos e5], hy'⟩
      clear h hP hz hG hn hx hat hq hqa hkl hy hq2 hm
      go_enter Tryd.func23, Tryd.ntmps23
      go_wp2_with (go_at_call 17; refine c1.mono ?_; rintro e W1 ⟨v1, rfl, hown1, hno1, hB1⟩; refine Hid.out ?_)
      refine Lib.hid ?_
      first | rw [e1, errV_0] | rw [errV_0]
      have c2 := index_any (HH.out.1.on hB1) HH.out.2.1 c
      rw [HE.out.2.2] at c2
      have hO := hown1 e1
      have HO : Hid (W1.ownsRow w.heap.size 9 1 v1 (nms (kin L a)).length (cellsS (nms (kin L a)))) := hO
      clear c1 hown1 hno1 e1 hO
      go_wp2_with (go_at_call 31; refine c2.mono ?_; rintro e W2 ⟨rfl, hB2⟩; refine Hid.out ?_)
      refine Lib.hid ?_
      have c3 := contains_any (own_isS (own_below HO.out hB2)) HH.out.2.2.1 c
      clear c2
      generalize hasN (nms (kin L a)) c = r at c3 HE
      go_wp2_with (go_at_call 34; refine c3.mono ?_; rintro e W3 ⟨rfl, rfl⟩)
      go_ret2
      exact ⟨ret_v (by rw [HE.out.1, HE.out.2.1]; rfl), on1 hB1 hB2 (Nat.le_refl _)⟩
  · have HE : Hid (isErr L a c = nmErr L a ∧ isKin L a c = false ∧ ¬ nmErr L a = 0) := by
      have e5 : isErr L a c = nmErr L a := by unfold isErr; rw [if_neg e1]
      exact ⟨e5, by unfold isKin; rw [if_neg (by rw [e5]; exact e1)], e1⟩
    clear h hP hz
    go_enter Tryd.func23, Tryd.ntmps23
    go_wp2_with (go_at_call 17; refine c1.mono ?_; rintro e W1 ⟨v1, rfl, hown1, hno1, hB1⟩; obtain rfl := hno1 e1; refine Hid.out ?_)
    refine Lib.hid ?_
    rw [errV_ne e1]
    clear c1 hown1 hno1 e1
    go_wp2
    go_ret2
    exact ⟨ret_v (by rw [HE.out.1, HE.out.2.1, errV_ne HE.out.2.2]; rfl), hB1⟩
end Go.Proofs.YtholhlibcofojabDoor
