/-
  The walk of the document's reader: from the text to the path.
-/
import Derived.Test.YtmgkdghkenpmbaaGreatDoorKrA
namespace Go.Proofs.YtmgkdghkenpmbaaGreatDoor
open Go.RowKit
set_option linter.unusedVariables false
set_option linter.unusedSimpArgs false

theorem own_max {w : World} {base : Nat} {e : TypeId} {size : Nat} {v : Value} {n : Nat} {xs : List Value} (h : w.ownsRow base e size v n xs) : n ≤ maxLen := by
  rcases h.2 with ⟨_, rfl⟩ | ⟨g, cap, cur, _, _, _, h1, h2, _⟩
  · exact Nat.zero_le _
  · exact Nat.le_trans h1 h2
theorem paE_of {r : Nm} {l : List St} (h : (stepsR true r).2 = some l) : paE r = askE l ∧ paAt r = 0 := by
  unfold paE paAt; rw [h]; exact ⟨cap_err l, rfl⟩
theorem paE_none {r q : Nm} (h : stepsR true r = (q, none)) : paE r = 2 ∧ paAt r = (r.length : Int) - (q.length : Int) := by
  unfold paE paAt; rw [h]; exact ⟨rfl, rfl⟩
/-- What the document's reader gives. -/
def RaAns (w w' : World) (e : Ending) (r : Nm) : Prop :=
  ∃ (v : Value) (M : List Sp), e = .returned (.tuple #[v, .int .i64 (paAt r), .int .i64 (paE r)]) ∧ OwnSp w' w.heap.size v M ∧ (paE r = 0 → (stepsR true r).2 = some (M.map Sp.st)) ∧ (¬ paE r = 0 → M = [])
theorem krI_start {s : ByteArray} {r : Nm} {w W1 : World} {x : Sp} {o0 : Obj} (hR1 : Rk w.heap.size s ((pStep true r).1, (pStep true r).2.isNone) W1) (hG1 : Gw w.heap.size (w.alloc o0) W1)
    (hx : ∀ p, (pStep true r).2 = some p → x.st = p ∧ W1.ownsRow (w.alloc o0).heap.size 33 5 x.vt p.ts.length (cellsT p.ts)) (hr : r.length ≤ s.size) :
    KrI w.heap.size s r W1.heap.size w (.slice (some ⟨W1.heap.size + 1, 0, none⟩) 1 1) [x] ((pStep true r).1, (pStep true r).2.isNone) ((W1.alloc (boxS x)).alloc (boxS x)) := by
  have hz : w.heap.size < W1.heap.size := by have := hG1.size; simp at this; omega
  have hB0 : Below w.heap.size w (w.alloc o0) := (Below.refl _ w).alloc (Nat.le_refl _) _
  have hB1 : Below w.heap.size w W1 := below_gw hB0 hG1 (Nat.le_refl _)
  have n2 := new_block (W1.alloc (boxS x)) #[.string (bs x.st.bd), .bool x.st.back, .string (bs x.st.kd), x.vt] 29
  rw [World.size_alloc] at n2
  refine ⟨(hR1.alloc _).alloc _, ⟨rfl, .inr ⟨W1.heap.size + 1, 1, #[.string (bs x.st.bd), .bool x.st.back, .string (bs x.st.kd), x.vt], rfl, Nat.le_refl _, n2, Nat.le_refl _, by decide, rfl, rfl⟩⟩, fun hn => ?_, fun hn => ?_, ⟨_, _, _, _, old_block (new_block W1 _ 29) _⟩, b_alloc (b_alloc hB1 _) _, fun hn => ?_, by omega, Nat.le_refl _, by omega⟩
  · simp only at hn
    rcases hp : (pStep true r).2 with _ | p
    · rw [hp] at hn; cases hn
    · obtain ⟨e1, e2⟩ := hx p hp
      refine ⟨fun y hy => ?_, ?_⟩
      · rw [List.mem_singleton.1 hy, e1]
        exact ((own_base e2 (by simp)).alloc _).alloc _
      · by_cases h0 : (pStep true r).1 = []
        · rw [if_pos h0, stepsR_end hp h0]; simp [e1]
        · rw [if_neg h0, stepsR_on hp h0]; simp [e1]
  · simp only at hn
    rcases hp : (pStep true r).2 with _ | p
    · exact stepsR_no hp
    · rw [hp] at hn; cases hn
  · simp only at hn
    have := pStep_len (f := true) (r := r) (by cases hp : (pStep true r).2 with | none => rw [hp] at hn; cases hn | some p => rfl)
    simp; omega

set_option maxHeartbeats 8000000 in
set_option maxRecDepth 100000 in
theorem readAsk_any (s : ByteArray) (w : World) (hs : s.size ≤ 10000000) :
    Calls Tryz.prog 12 #[.string s] w fun e w' => RaAns w w' e s.data.toList ∧ Below w.heap.size w w' := by
  have hR0 : Rk w.heap.size s (s.data.toList, false) (w.alloc (.cells #[.string s, .int .i64 0, .bool false] 60)) := ⟨0, Nat.zero_le _, rfl, new_block w _ 60⟩
  have hl := size_len s
  have HP := Lib.hid (stepsR_parts _ true s.data.toList (Nat.le_refl _))
  have cF := kstep_first hR0 hs
  have HL := Lib.hid (Nat.le_of_eq hl.symm)
  generalize s.data.toList = r at *
  clear hR0
  obtain ⟨i0, hi0, hz0, hz1, hz2⟩ := info_parts infoS
  go_enter Tryz.func12, Tryz.ntmps12
  go_wp2_with (go_at_call 22; refine cF.mono ?_; rintro e W1 ⟨⟨⟨xs, xv⟩, ⟨ax, nx, cx, ex⟩, rfl, hxp⟩, hR1, hG1⟩; simp only at ex; subst ex; have HK0 := Lib.hid (krI_start hR1 hG1 hxp HL.out); clear hxp hR1 hG1)
  clear cF
  have HLL := Lib.hid hl
  clear hl
  go_loopw [7] (fun v7 wr => ∃ (M : List Sp) (σ : Nm × Bool), KrI w.heap.size s r W1.heap.size w v7 M σ wr) (fun v7 wr => mR w.heap.size s.size wr)
  case atStart => exact ⟨_, _, HK0.out⟩
  case round =>
    obtain ⟨M, ⟨q, bad⟩, hI⟩ := hrel
    clear HK0
    obtain ⟨av, cv, ev⟩ := own_slice hI.own
    subst ev
    have HI := Lib.hid hI
    obtain ⟨k, hk, hr, hbb⟩ := hI.rk
    simp only at hr hbb
    have b1 : wr.cell? ⟨w.heap.size, 1, none⟩ = some (.int .i64 (k : Int)) := cell_at hbb rfl
    have b2 : wr.cell? ⟨w.heap.size, 2, none⟩ = some (.bool bad) := cell_at hbb rfl
    have hkl := congrArg List.length hr
    have hl2 := size_len s
    have hl := HLL.out
    cases bad with
    | true =>
      have HE := Lib.hid (paE_none (hI.bad rfl))
      have e0 : (k : Int) = (r.length : Int) - (q.length : Int) := by
        rw [List.length_drop] at hkl; omega
      have HE0 := Lib.hid e0
      clear hI hbb hr hkl hl2 hl e0
      go_wp2
      go_quiet (fail)
      go_wp2
      refine bodyPost_ret (v := .tuple #[.slice none 0 0, .int .i64 (k : Int), .int .i64 2]) (by simp [results, Tryz.results12, go_sem]) rfl ⟨⟨.slice none 0 0, [], ?_, own_nil _ _, fun h => ?_, fun _ => rfl⟩, b_drewK HI.out.bl _⟩
      · rw [HE.out.1, HE.out.2]
        rw [← HE0.out]
      · rw [HE.out.1] at h; exact absurd h (by decide)
    | false =>
      by_cases hq : q = []
      · have hg := hI.good rfl
        simp only [if_pos hq] at hg
        have hst : (stepsR true r).2 = some (M.map Sp.st) := by rw [hg.2]
        have hO : OwnSp wr w.heap.size (.slice av M.length cv) M := ⟨own_base hI.own (by have := hI.lg; omega), hg.1⟩
        have hsz : ∀ p ∈ M, SpSz p.st := fun p hp => by
          obtain ⟨z1, z2, z3⟩ := HP.out _ hst p.st (List.mem_map_of_mem hp)
          have hm : r.length ≤ maxLen := by unfold maxLen; omega
          exact ⟨Nat.le_trans z1 hm, Nat.le_trans z2 hm, own_max (hO.2 p hp), fun x hx => ⟨Nat.le_trans (z3 x hx).1 hm, Nat.le_trans (z3 x hx).2 hm⟩⟩
        have cA := kask_any (own_isSp hO) hsz (own_max hO.1)
        have HE := Lib.hid (paE_of hst)
        have HO := Lib.hid hO
        have HS := Lib.hid hst
        have g1 : decide ((k : Int) < (s.size : Int)) = false := by
          subst hq; rw [List.length_drop, List.length_nil] at hkl; simp; omega
        have g2 : ¬ k < s.size := by simpa using g1
        have g3 : ¬ (k : Int) < (s.size : Int) := by omega
        clear hg hst hO hsz hI hbb hr hkl hq hl hl2
        by_cases he : askE (M.map Sp.st) = 0
        · rw [he] at HE cA
          clear he
          go_wp2_with (go_at_call 8; refine cA.mono ?_; rintro e W2 ⟨rfl, hB2⟩)
          refine bodyPost_ret (v := .tuple #[.slice av M.length cv, .int .i64 0, .int .i64 0]) (by simp [results, Tryz.results12, go_sem]) rfl ⟨⟨.slice av M.length cv, M, ?_, HO.out.on hB2, fun _ => HS.out, fun h => ?_⟩, on1 HI.out.bl hB2⟩
          · rw [HE.out.1, HE.out.2]
          · exact absurd HE.out.1 h
        · have HZ := Lib.hid he
          have hzb : (askE (M.map Sp.st) == 0) = false := by simpa using he
          generalize askE (M.map Sp.st) = z at HE cA hzb HZ he
          go_wp2_with (go_at_call 8; refine cA.mono ?_; rintro e W2 ⟨rfl, hB2⟩)
          refine bodyPost_ret (v := .tuple #[.slice none 0 0, .int .i64 0, .int .i64 z]) (by simp [results, Tryz.results12, go_sem]) rfl ⟨⟨.slice none 0 0, [], ?_, own_nil _ _, fun h => ?_, fun _ => rfl⟩, on1 HI.out.bl hB2⟩
          · rw [HE.out.1, HE.out.2]
          · rw [HE.out.1] at h; exact absurd h HZ.out
      · have g1 : decide ((k : Int) < (s.size : Int)) = true := by
          have := List.length_pos_iff.2 hq
          rw [List.length_drop] at hkl; simp; omega
        have cX := kstep_next hI.rk hs
        have HQ := Lib.hid hq
        have hln := hI.len rfl
        have hgl := hI.lg
        simp only at hln
        have HM : Hid (M.length + 1 ≤ maxLen ∧ (M.length + 1) * 64 ≤ 140737488355328) := by unfold maxLen; exact ⟨by omega, by omega⟩
        have hmo := mR_ok (n := s.size) hI.rk
        have HMO := Lib.hid hmo
        have hnb : ¬ w.heap.size = W1.heap.size := hI.nb
        have hnb' : ¬ W1.heap.size = w.heap.size := fun e => hI.nb e.symm
        have g2 : k < s.size := by simpa using g1
        have g3 : (k : Int) < (s.size : Int) := by omega
        clear hI hbb hr hkl hq hln hmo hl hl2
        go_wp2_with (first | (go_at_call 22; go_loud (refine cX.mono ?_; rintro e V1 ⟨⟨⟨ys, yv⟩, ⟨ay, ny, cy, ey⟩, rfl, hyp⟩, hR2, hG2⟩; simp only at ey; subst ey; have HR2 := Lib.hid hR2; have HG2 := Lib.hid hG2; have HYP := Lib.hid hyp; obtain ⟨c0, d1, c2, c3, h6⟩ := HI.out.r6; have h61 : V1.heap[W1.heap.size]? = some (.cells #[c0, d1, c2, c3] 29 (0, 0)) := hG2.blk (Ne.symm HI.out.nb) h6; obtain ⟨a0, a1, a2, a3, f0, f1, f2, f3⟩ := own4 h61; have HO1 := Lib.hid ((own_setB (own_setB (own_setB (own_setB (own_kt HI.out.own (HI.out.rk.kt hG2 (by decide))) (Nat.lt_succ_self _) 0 (.string (bs ys.bd))) (Nat.lt_succ_self _) 1 (.bool ys.back)) (Nat.lt_succ_self _) 2 (.string (bs ys.kd))) (Nat.lt_succ_self _) 3 (.slice ay ny cy)).alloc (boxS ⟨ys, .slice ay ny cy⟩)); have H61 := Lib.hid (Array.getElem?_eq_some_iff.1 h61).1; have hnw : Hid (∀ j u, (Sp.cells ⟨ys, .slice ay ny cy⟩)[j]? = some u → ((four V1 W1.heap.size ⟨ys, .slice ay ny cy⟩).alloc (boxS ⟨ys, .slice ay ny cy⟩)).cell? ((⟨V1.heap.size, 0, none⟩ : Addr).add j) = some u) := (by have := new_at (four V1 W1.heap.size ⟨ys, .slice ay ny cy⟩) (Sp.cells ⟨ys, .slice ay ny cy⟩) 29; rw [show (four V1 W1.heap.size ⟨ys, .slice ay ny cy⟩).heap.size = V1.heap.size by simp] at this; exact this); clear hR2 hG2 hyp h6 h61)) | (at_builtin; go_loud (refine wpList_append_own _ rfl (.tmp 32) (.tmp 34) 22 rfl (W1.heap.size + 1) 29 i0 _ 4 64 Tryz.underlying22 hi0 hz0 hz1 hz2 rfl (by decide) (.slice av M.length cv) M.length (cellsS M) rfl HO1.out ⟨V1.heap.size, 0, none⟩ 1 1 (Sp.cells ⟨ys, .slice ay ny cy⟩) rfl rfl hnw.out (by simp [Sp.cells, Value.oneCell']) HM.out.1 HM.out.2 (by have := H61.out; simp; omega) ?_; intro v1 W2 hown1 hgrow1 _; obtain ⟨e1, e2, ev⟩ := own_slice hown1; subst ev)))
        go_roundw
        case rel => exact ⟨_, _, krI_step HI.out HQ.out HR2.out HG2.out HYP.out hown1 hgrow1⟩
        case measure =>
          have hK := krI_step HI.out HQ.out HR2.out HG2.out HYP.out hown1 hgrow1
          have h1 := HMO.out
          have hl1 := HI.out.rk.atOf.2
          rcases hp : (pStep false q).2 with _ | p
          · have h2 := hK.rk
            rw [hp] at h2
            rw [mR_bad h2, h1]; omega
          · have h2 := hK.rk
            rw [hp] at h2
            have h3 := pStep_len (f := false) (r := q) (by rw [hp]; rfl)
            rw [mR_ok h2, h1]
            simp only at hl1
            omega
end Go.Proofs.YtmgkdghkenpmbaaGreatDoor
