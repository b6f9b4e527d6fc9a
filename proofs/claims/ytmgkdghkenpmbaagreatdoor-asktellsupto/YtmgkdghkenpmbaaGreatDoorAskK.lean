/-
  The walk of the reader: all steps.
-/
import Derived.Test.YtmgkdghkenpmbaaGreatDoorAskJ
namespace Go.Proofs.YtmgkdghkenpmbaaGreatDoor
open Go.RowKit
set_option linter.unusedVariables false
set_option linter.unusedSimpArgs false

/-- Steps of the call's own, with tests of the call's own. -/
def OwnSp (w : World) (base : Nat) (v : Value) (M : List Sp) : Prop := w.ownsRow base 29 4 v M.length (cellsS M) ∧ ∀ p ∈ M, w.ownsRow base 33 5 p.vt p.st.ts.length (cellsT p.st.ts)
/-- No more than seven steps with no more than nine tests each. -/
def capL (l : List St) : List St := (l.map cap9).take 7
/-- What steps gives. -/
def SsAns (w w' : World) (e : Ending) (o : Option (List St)) : Prop :=
  ∃ a n c, e = .returned (.tuple #[.slice a n c, .bool o.isSome]) ∧ ∀ l, o = some l → ∃ M : List Sp, M.map Sp.st = capL l ∧ OwnSp w' w.heap.size (.slice a n c) M
/-- The steps that are read so far. -/
structure SsI (b : Nat) (s : ByteArray) (r0 : Nm) (w : World) (v : Value) (acc : List St) (M : List Sp) (q : Nm) (wr : World) : Prop where
  own : OwnSp wr w.heap.size v M
  map : M.map Sp.st = capL acc
  eq : stepsR true r0 = ((stepsR acc.isEmpty q).1, (stepsR acc.isEmpty q).2.map (acc ++ ·))
  rd : Rd b s q wr
  gw : Gw b w wr
  sg : Sg wr
theorem capL_len (l : List St) : (capL l).length = min 7 l.length := by unfold capL; simp
theorem ssI_len {b : Nat} {s : ByteArray} {r0 : Nm} {w : World} {v : Value} {acc : List St} {M : List Sp} {q : Nm} {wr : World} (h : SsI b s r0 w v acc M q wr) : M.length = min 7 acc.length := by
  rw [← capL_len, ← h.map, List.length_map]
theorem ssI_zero {b : Nat} {s : ByteArray} {r0 : Nm} {w : World} {v : Value} {acc : List St} {M : List Sp} {q : Nm} {wr : World} (h : SsI b s r0 w v acc M q wr) : ((M.length : Int) == 0) = acc.isEmpty := by
  have := ssI_len h
  cases acc with
  | nil => simp at this; rw [this]; rfl
  | cons a r =>
    have h2 : M.length = min 7 (r.length + 1) := by rw [this]; rfl
    have h3 : ((M.length : Int) == 0) = false := by rw [beq_eq_false_iff_ne]; omega
    rw [h3]; rfl
theorem map_oneMore {α β : Type} (f : α → β) (c : Nat) (l : List α) (x : α) : (oneMore c l x).map f = oneMore c (l.map f) (f x) := by
  unfold oneMore; rw [List.length_map]; split <;> simp
theorem mem_oneMore {α : Type} {c : Nat} {l : List α} {x y : α} (h : y ∈ oneMore c l x) : y ∈ l ∨ y = x := by
  unfold oneMore at h
  split at h
  · exact .inl h
  · simpa using h
/-- What lies behind one round. -/
theorem ssI_step {b : Nat} {s : ByteArray} {r0 : Nm} {w wr W1 W2 : World} {v v' : Value} {acc : List St} {M : List Sp} {q q1 : Nm} {x : Sp} {p : St} {o : Obj} (h : SsI b s r0 w v acc M q wr) (hbl : b < w.heap.size) (hb : b ≠ 0) (hR1 : Rd b s q1 W1) (hG1 : Gw b wr W1)
    (hx : x.st = cap9 p) (hxo : W1.ownsRow wr.heap.size 33 5 x.vt x.st.ts.length (cellsT x.st.ts))
    (hO2 : W2.ownsRow w.heap.size 29 4 v' (oneMore 6 M x).length (cellsS (oneMore 6 M x))) (hg2 : (W1.alloc o).grownBy W2 v.ownBlock) :
    OwnSp W2 w.heap.size v' (oneMore 6 M x) ∧ (oneMore 6 M x).map Sp.st = capL (acc ++ [p]) ∧ Rd b s q1 W2 ∧ Gw b w W2 ∧ Sg W2 := by
  have hge := own_ge h.own.1
  have hne : v.ownBlock ≠ some b := fun e => by have := hge b e; omega
  have hR2 := (hR1.alloc o).own hg2 hne
  have hGa : Gw b w (W1.alloc o) := (h.gw.trans hG1).alloc o
  have hS1 := (h.sg.gw hG1 hb).alloc o
  have hGs : Gw b w W2 := hGa.own hg2 hge
  have hO1 : (W1.alloc o).ownsRow w.heap.size 29 4 v M.length (cellsS M) := (own_kt h.own.1 (h.rd.kt hG1 (by decide))).alloc o
  have hK : Kt 33 W1 W2 := ((Kt.refl 33 W1).alloc o).trans (Kt.of_own hO1 (by decide) hg2)
  refine ⟨⟨hO2, fun y hy => ?_⟩, ?_, hR2, hGs, ?_⟩
  · rcases mem_oneMore hy with hy | rfl
    · exact own_kt (own_kt (h.own.2 y hy) (h.rd.kt hG1 (by decide))) hK
    · exact own_kt (own_base hxo h.gw.size) hK
  · rw [map_oneMore, h.map, hx]; unfold capL; rw [oneMore_take, List.map_append]; rfl
  · have e : W2.heap[0]? = (W1.alloc o).heap[0]? := hg2.block 0 hS1.lt (fun e => by have := hge 0 e.symm; omega)
    have k : ∀ i, W2.cell? ⟨0, i, none⟩ = (W1.alloc o).cell? ⟨0, i, none⟩ := fun i => by simp only [World.cell?, e]
    unfold Sg; rw [k, k, k]; exact hS1
theorem ssI_on {b : Nat} {s : ByteArray} {r0 : Nm} {w : World} {v : Value} {acc : List St} {M : List Sp} {q : Nm} {wr : World} (h : SsI b s r0 w v acc M q wr) {p : St} (hp : (pStep acc.isEmpty q).2 = some p) (h1 : ¬ (pStep acc.isEmpty q).1 = []) :
    stepsR true r0 = ((stepsR (acc ++ [p]).isEmpty (pStep acc.isEmpty q).1).1, (stepsR (acc ++ [p]).isEmpty (pStep acc.isEmpty q).1).2.map ((acc ++ [p]) ++ ·)) := by
  have e : (acc ++ [p]).isEmpty = false := by cases acc <;> rfl
  rw [h.eq, stepsR_on hp h1, e]
  simp only [Option.map_map]
  congr 2; funext l; simp

set_option maxHeartbeats 4000000 in
set_option maxRecDepth 100000 in
theorem steps_any {b : Nat} {s : ByteArray} {r : Nm} {w : World} (h : Rd b s r w) (hs : s.size ≤ 140737488355328) (hS : Sg w) (hb : b ≠ 0) :
    Calls Tryz.prog 13 #[rp b] w fun e w' => SsAns w w' e (stepsR true r).2 ∧ Rd b s (stepsR true r).1 w' ∧ Gw b w w' := by
  have hbl := h.lt
  have hI0 : SsI b s r w (.slice none 0 0) [] [] r w := ⟨⟨World.ownsRow_nil _ _ _ _, fun p hp => by cases hp⟩, rfl, by simp, h, Gw.refl _ _, hS⟩
  clear h hS
  go_enter Tryz.func13, Tryz.ntmps13
  go_wp2
  go_loopw [2] (fun v wr => ∃ (acc : List St) (M : List Sp) (q : Nm), SsI b s r w v acc M q wr) (fun v wr => s.size - atOf b wr)
  case atStart => exact ⟨[], [], r, hI0⟩
  case round =>
    obtain ⟨acc, M, q, hI⟩ := hrel
    clear hI0
    have cX := step_any acc.isEmpty hI.rd hs hI.sg hb
    have hz := ssI_zero hI
    have hml : M.length ≤ 7 := by rw [ssI_len hI]; omega
    obtain ⟨av, nv, ev⟩ := own_slice hI.own.1
    subst ev
    have HI := Lib.hid hI
    have HA := Lib.hid hI.rd.atOf
    rcases hx : (pStep acc.isEmpty q).2 with _ | p
    · rw [hx] at cX
      have HE : Hid (stepsR true r = ((pStep acc.isEmpty q).1, none)) := by show _ = _; rw [hI.eq, stepsR_no hx]; rfl
      clear hI hx
      go_wp2_with (go_at_call 23; refine cX.mono ?_; rintro e W1 ⟨⟨⟨xs, xv⟩, ⟨ax, nx, cx, ex⟩, rfl, _⟩, hR1, hG1⟩; simp only at ex; subst ex)
      go_ret2
      rw [HE.out]
      exact ⟨⟨none, 0, 0, rfl, fun ts h => by cases h⟩, hR1.alloc _, (HI.out.gw.trans hG1).alloc _⟩
    · rw [hx] at cX
      have HX := Lib.hid hx
      have HM := Lib.hid hml
      clear hI hx hml
      go_wp2_with (first | (go_at_call 23; refine cX.mono ?_; rintro e W1 ⟨⟨⟨xs, xv⟩, ⟨ax, nx, cx, ex⟩, rfl, hxp⟩, hR1, hG1⟩; simp only at ex; subst ex; have HXP := Lib.hid (hxp p rfl); have HR1 := Lib.hid hR1; have HG1 := Lib.hid hG1; have HO1 := Lib.hid ((own_kt HI.out.own.1 (HI.out.rd.kt hG1 (by decide))).alloc (boxS ⟨xs, .slice ax nx cx⟩)); have HZ := Lib.hid (Nat.le_trans (HI.out.gw.trans hG1).size (Nat.le_of_lt (by simp) : W1.heap.size ≤ (W1.alloc (boxS ⟨xs, .slice ax nx cx⟩)).heap.size)); clear hR1 hG1 hxp) | (go_at_call 24; refine (withOneS_any _ _ M ⟨xs, .slice ax nx cx⟩ ax nx cx rfl _ HO1.out HZ.out HM.out).mono ?_; rintro e W2 ⟨v', rfl, hO2, hg2⟩; refine Hid.out ?_))
      refine Lib.hid ?_
      obtain ⟨hO3, hM3, hR3, hG3, hS3⟩ := ssI_step HI.out hbl hb HR1.out HG1.out HXP.out.1 HXP.out.2 hO2 hg2
      clear hO2 hg2
      generalize oneMore 6 M ⟨xs, .slice ax nx cx⟩ = M' at hO3 hM3
      have cE := ended_any hR3
      have HK := Lib.hid (⟨hO3, hM3, hR3, hG3, hS3⟩ : _ ∧ _ ∧ _ ∧ _ ∧ _)
      by_cases h0 : (pStep acc.isEmpty q).1 = []
      · rw [show (pStep acc.isEmpty q).1.isEmpty = true by rw [h0]; rfl] at cE
        have HE : Hid (stepsR true r = ([], some (acc ++ [p]))) := by show _ = _; rw [HI.out.eq, stepsR_end HX.out h0]; rfl
        have H0 := Lib.hid h0
        obtain ⟨aw, nw, ew⟩ := own_slice hO3.1
        have HV := Lib.hid ew
        clear hO3 hM3 hR3 hG3 hS3 h0 ew
        go_wp2_with (go_at_call 25; refine cE.mono ?_; rintro e W3 ⟨rfl, nq, rfl⟩)
        go_ret2
        rw [HE.out]
        refine ⟨⟨aw, _, nw, by rw [← HV.out]; rfl, fun l hl => ?_⟩, ?_, HK.out.2.2.2.1.drew nq⟩
        · injection hl with hl
          subst hl
          refine ⟨M', HK.out.2.1, ?_⟩
          rw [← HV.out]
          exact HK.out.1
        · have := HK.out.2.2.1
          rw [H0.out] at this
          exact this.drewN nq
      · rw [show (pStep acc.isEmpty q).1.isEmpty = false by cases hh : (pStep acc.isEmpty q).1 with | nil => exact absurd hh h0 | cons a l => rfl] at cE
        have HE := Lib.hid (ssI_on HI.out HX.out h0)
        have HT := Lib.hid (pStep_len (f := acc.isEmpty) (r := q) (by rw [HX.out]; rfl))
        clear hO3 hM3 hR3 hG3 hS3 h0
        go_wp2_with (go_at_call 25; refine cE.mono ?_; rintro e W3 ⟨rfl, nq, rfl⟩)
        go_roundw
        case rel => exact ⟨acc ++ [p], M', _, ⟨HK.out.1, HK.out.2.1, HE.out, HK.out.2.2.1.drewN nq, HK.out.2.2.2.1.drew nq, HK.out.2.2.2.2⟩⟩
        case measure =>
          have h1 := HA.out
          have h2 := (HK.out.2.2.1.drewN nq).atOf
          have h3 := HT.out
          omega
end Go.Proofs.YtmgkdghkenpmbaaGreatDoor
