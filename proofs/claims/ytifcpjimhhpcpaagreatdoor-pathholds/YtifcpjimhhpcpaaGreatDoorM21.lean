/-
  The walks of kind.Under and Is.
-/
import Derived.Test.YtifcpjimhhpcpaaGreatDoorM07
import Derived.Test.YtifcpjimhhpcpaaGreatDoorM08
namespace Go.Proofs.YtifcpjimhhpcpaaGreatDoor
open Go.RowKit
set_option linter.unusedVariables false
set_option linter.unusedSimpArgs false

theorem unds_app (L : List Kd) (a : Nm) (x y : List Nat) : unds L a (x ++ y) = unds L a x ++ unds L a y := by
  induction x with
  | nil => rfl
  | cons i x ih =>
    simp only [List.cons_append, unds]
    cases L[i]? with
    | none => exact ih
    | some k =>
      simp only
      split
      · exact ih
      · rw [List.cons_append, ih]
theorem unds_len (L : List Kd) (a : Nm) (x : List Nat) : (unds L a x).length ≤ x.length := by
  induction x with
  | nil => simp [unds]
  | cons i x ih =>
    simp only [unds]
    cases L[i]? with
    | none => simp; omega
    | some k =>
      simp only
      split
      · simp; omega
      · simp; omega
/-- What Under gives. -/
def UPost (w : World) (L : List Kd) (a : Nm) (e : Ending) (w' : World) : Prop :=
  ∃ v, e = .returned (.tuple #[v, errV (nmErr L a)]) ∧ (nmErr L a = 0 → w'.ownsRow w.heap.size 9 1 v (under L a).length (cellsS (under L a))) ∧ (¬ nmErr L a = 0 → v = .slice none 0 0) ∧ Below w.heap.size w w'
/-- Between two rounds. -/
def UR (w : World) (L : List Kd) (a : Nm) (v8 i : Value) (wr : World) : Prop :=
  ∃ k : Nat, k ≤ L.length ∧ i = .int .i64 k ∧ wr.ownsRow w.heap.size 9 1 v8 (unds L a (List.range k)).length (cellsS (unds L a (List.range k))) ∧ Below w.heap.size w wr

set_option maxHeartbeats 4000000 in
set_option maxRecDepth 100000 in
theorem under_any {v : Value} {L : List Kd} {w : World} (h : IsK w v L) (hP : Parts w L) (hz : SzK L) (a : Nm) : Calls Tryz.prog 33 #[v, .string (bs a)] w (UPost w L a) := by
  obtain ⟨i0, hi0, hz0, hz1, hz2⟩ := info_parts info9
  have c1 := find_anyC h hP hz a
  by_cases e1 : nmErr L a = 0
  · obtain ⟨hG, hn, j, q, hx, hat, hq, hqa⟩ := nmErr_zero e1
    have hA : fAt L a = (j : Int) := by unfold fAt; rw [if_pos e1, hx]
    rcases h with ⟨rfl, rfl⟩ | ⟨b, off, cap, rfl, hc, hm, hb, hl⟩
    · simp at hq
    · have HH : Hid (LiesK w b off L ∧ Parts w L ∧ Small L ∧ L.length ≤ 12 ∧ nmErr L a = 0) := ⟨hl, hP, hG.small, hn, e1⟩
      rw [hA, e1, errV_0] at c1
      unfold maxLen at hm
      clear hz e1 hG hx hat hq hqa hA hl hP
      go_enter Tryz.func33, Tryz.ntmps33
      go_wp2_with (go_at_call 42; refine c1.mono ?_; rintro e W1 ⟨rfl, hB1⟩; refine Hid.out ?_)
      refine Lib.hid ?_
      have HB1 : Hid (Below w.heap.size w W1) := hB1
      clear c1 hB1
      go_wp2
      go_loopw [8, 22] (fun v8 i wr => UR W1 L a v8 i wr) (fun _ i _ => L.length - (intOf i).toNat)
      case atStart => exact ⟨0, Nat.zero_le _, rfl, World.ownsRow_nil _ _ _ _, Below.refl _ _⟩
      case round =>
        obtain ⟨k, hk, rfl, ho, hB⟩ := hrel
        by_cases hlt : k < L.length
        · obtain ⟨p, hp⟩ : ∃ p, L[k]? = some p := ⟨L[k], by simp [hlt]⟩
          obtain ⟨hL, hP, hS, hn', _⟩ := HH.out
          obtain ⟨c0, c1, c2⟩ := hL k p hp
          have hpm : p ∈ L := List.mem_of_getElem? hp
          obtain ⟨ao, no, co, evo⟩ := (hP p hpm).1.sl
          obtain ⟨af, nf, cf, evf⟩ := (hP p hpm).2.sl
          rw [evo] at c1
          rw [evf] at c2
          have hBw := on1KC HB1.out hB (Nat.le_refl _)
          have d0 := (hBw.cell (p := ⟨b, off + k * 3, none⟩) hb).trans c0
          have d1 := (hBw.cell (p := ⟨b, off + k * 3 + 1, none⟩) hb).trans c1
          have d2 := (hBw.cell (p := ⟨b, off + k * 3 + 2, none⟩) hb).trans c2
          have hbr : b < wr.heap.size := Nat.lt_of_lt_of_le hb hBw.size
          have hB0 : Below w.heap.size w (wr.alloc (.cells #[.string (bs p.nm), .slice ao no co, .slice af nf cf] 34)) := b_allocKC hBw (Nat.le_refl _) _
          have ck := kinTake (cap := cap) (Nat.lt_of_lt_of_le hb hB0.size) (hL.on hb hB0) (hP.on hB0) hS hn' hp
          have hk1 : (k : Int) + 1 ≤ (cap : Int) := by omega
          have HO : Hid (wr.ownsRow W1.heap.size 9 1 u8 (unds L a (List.range k)).length (cellsS (unds L a (List.range k))) ∧ Below W1.heap.size W1 wr ∧ L[k]? = some p ∧ Below w.heap.size w (wr.alloc (.cells #[.string (bs p.nm), .slice ao no co, .slice af nf cf] 34))) := ⟨ho, hB, hp, hB0⟩
          clear c0 c1 c2 hpm hp ho hB hB0 evo evf hL hP hS hn' hBw
          go_wp2_with (go_at_call 43; refine ck.mono ?_; rintro e W2 ⟨v2, rfl, hown2, hB2⟩; refine Hid.out ?_)
          refine Lib.hid ?_
          have hBw2 := on1KC HO.out.2.2.2 hB2 (Nat.le_refl _)
          have g0 := hB2.cell (p := ⟨wr.heap.size, 0, none⟩) (by simp)
          simp at g0
          have hs2 : wr.heap.size < W2.heap.size := Nat.lt_of_lt_of_le (by simp) hB2.size
          obtain ⟨f1, f2, f3⟩ := kin_facts (k + 1) W2 (HH.out.2.1.on hBw2) HH.out.2.2.1 HH.out.2.2.2.1
          have cx := index_anyC (own_isK hown2) f3 a
          clear ck f1 f2 f3 hown2
          rcases idxK_spec a (kinOf (L.take (k + 1))) 0 with hx | ⟨m, q2, hx, hq2, _⟩
          · rw [hx] at cx
            have HU : Hid (unds L a (List.range (k + 1)) = unds L a (List.range k)) := by
              show _ = _
              rw [List.range_succ, unds_app]
              simp [unds, HO.out.2.2.1, hx]
            clear hx
            go_wp2_with (go_at_call 22; refine cx.mono ?_; rintro e W3 ⟨rfl, hB3⟩; refine Hid.out ?_)
            refine Lib.hid ?_
            have hBB : Below W1.heap.size W1 W3 := on1KC (on1KC (b_allocKC HO.out.2.1 (Nat.le_refl _) _) hB2 (Nat.le_refl _)) hB3 (Nat.le_refl _)
            have R : UR W1 L a u8 (.int .i64 ((k + 1 : Nat) : Int)) W3 := by
              refine ⟨k + 1, by omega, rfl, ?_, hBB⟩
              rw [HU.out]
              exact own_below (own_below (HO.out.1.alloc _) hB2) hB3
            have HRR : Hid (UR W1 L a u8 (.int .i64 ((k + 1 : Nat) : Int)) W3) := R
            clear R cx
            go_wp2
            refine ⟨?_, ?_⟩
            · first | exact HRR.out | ((repeat apply Exists.intro); refine ⟨?_, rfl⟩; exact HRR.out)
            · simp [intOf]
              try omega
          · have hne : ¬ idxK a (kinOf (L.take (k + 1))) 0 = -1 := by omega
            rw [hx] at cx
            simp only [Nat.zero_add] at cx
            have HU : Hid (unds L a (List.range (k + 1)) = unds L a (List.range k) ++ [p.nm]) := by
              show _ = _
              rw [List.range_succ, unds_app]
              simp [unds, HO.out.2.2.1, hne]
            have hm12 : m < 100 := by
              have h1 := (List.getElem?_eq_some_iff.1 hq2).1
              have h2 := (kinOf_sub (L.take (k + 1))).2
              have h3 := HH.out.2.2.2.1
              simp at h2
              omega
            have HM : Hid ((unds L a (List.range k)).length + 1 ≤ maxLen ∧ ((unds L a (List.range k)).length + 1) * 16 ≤ 140737488355328) := by
              have := unds_len L a (List.range k)
              have h3 := HH.out.2.2.2.1
              simp at this
              unfold maxLen; exact ⟨by omega, by omega⟩
            clear hx hne hq2
            go_wp2_with (go_at_call 22; refine cx.mono ?_; rintro e W3 ⟨rfl, hB3⟩; refine Hid.out ?_)
            refine Lib.hid ?_
            have k0 := (hB3.cell (p := ⟨wr.heap.size, 0, none⟩) hs2).trans g0
            have hBB : Below W1.heap.size W1 (W3.alloc (.cells #[.string (bs p.nm)] 9)) := b_allocKC (on1KC (on1KC (b_allocKC HO.out.2.1 (Nat.le_refl _) _) hB2 (Nat.le_refl _)) hB3 (Nat.le_refl _)) (Nat.le_refl _) _
            have HO3 : Hid ((W3.alloc (.cells #[.string (bs p.nm)] 9)).ownsRow W1.heap.size 9 1 u8 (unds L a (List.range k)).length (cellsS (unds L a (List.range k))) ∧ Below W1.heap.size W1 (W3.alloc (.cells #[.string (bs p.nm)] 9))) := ⟨(own_below (own_below (HO.out.1.alloc _) hB2) hB3).alloc _, hBB⟩
            clear cx g0 hBB
            go_wp2_with (at_builtin; refine wpList_append_own _ rfl (.tmp 35) (.tmp 38) 31 rfl W1.heap.size 9 i0 _ 1 16 Tryz.underlying31 hi0 hz0 hz1 hz2 rfl (by decide) u8 (unds L a (List.range k)).length (cellsS (unds L a (List.range k))) rfl HO3.out.1 ⟨W3.heap.size, 0, none⟩ 1 1 [.string (bs p.nm)] rfl rfl (new_atC _ _ _) (by simp [Value.oneCell']) HM.out.1 HM.out.2 HO3.out.2.size ?_; intro v1 w1 hown1 hgrow1 _; refine Hid.out ?_)
            refine Lib.hid ?_
            have R : UR W1 L a v1 (.int .i64 ((k + 1 : Nat) : Int)) w1 := by
              refine ⟨k + 1, by omega, rfl, ?_, HO3.out.2.grown hgrow1 HO3.out.2.size (fun k hk => (HO3.out.1.lt k hk).1)⟩
              rw [HU.out, List.length_append, cellsS_app]
              exact hown1
            have HRR : Hid (UR W1 L a v1 (.int .i64 ((k + 1 : Nat) : Int)) w1) := R
            clear R hown1
            go_wp2
            refine ⟨?_, ?_⟩
            · first | exact HRR.out | ((repeat apply Exists.intro); refine ⟨?_, rfl⟩; exact HRR.out)
            · simp [intOf]
              try omega
        · have hke : k = L.length := by omega
          have HO : Hid (wr.ownsRow W1.heap.size 9 1 u8 (under L a).length (cellsS (under L a)) ∧ Below W1.heap.size W1 wr) := by
            subst hke; exact ⟨ho, hB⟩
          clear ho hB hke
          go_wp2
          go_ret2
          exact ⟨_, ret_v (by rw [HH.out.2.2.2.2]; rfl), fun _ => own_baseC HO.out.1 HB1.out.size, fun h => absurd HH.out.2.2.2.2 h, on1KC HB1.out HO.out.2 (Nat.le_refl _)⟩
  · have hA : fAt L a = 0 := by unfold fAt; rw [if_neg e1]
    have HE : Hid (¬ nmErr L a = 0) := e1
    rw [errV_ne e1, hA] at c1
    clear h hP hz e1 hA
    go_enter Tryz.func33, Tryz.ntmps33
    go_wp2_with (go_at_call 42; refine c1.mono ?_; rintro e W1 ⟨rfl, hB1⟩)
    go_ret2
    exact ⟨.slice none 0 0, ret_v (by rw [errV_ne HE.out]; rfl), fun h => absurd h HE.out, fun _ => rfl, hB1⟩

end Go.Proofs.YtifcpjimhhpcpaaGreatDoor

/-
  The walk of schema.Bond.
-/
namespace Go.Proofs.YtifcpjimhhpcpaaGreatDoor
open Go.RowKit
set_option linter.unusedVariables false
set_option linter.unusedSimpArgs false

def bdZ : Bd := ⟨[], [], [], 0, 0⟩
/-- What a name finds among bonds. -/
def bdAt (B : List Bd) (s : Nm) : Option Bd := if idxB s B 0 = -1 then none else B[(idxB s B 0).toNat]?
/-- What schema.Bond tells: the bond and the fault. -/
def bdTell (L : List Kd) (B : List Bd) (s : Nm) : Bd × Int := if (sErr L B).2 = 0 then (match bdAt B s with | none => (bdZ, 5) | some x => (x, 0)) else (bdZ, (sErr L B).2)
/-- The result's block lies there, as it was laid. -/
def Rs5 (h : Nat) (W : World) : Prop := h < W.heap.size ∧
  (W.cell? ⟨h, 0, none⟩ = some (.string ⟨#[]⟩) ∧ W.cell? ⟨h, 1, none⟩ = some (.string ⟨#[]⟩) ∧ W.cell? ⟨h, 2, none⟩ = some (.string ⟨#[]⟩) ∧ W.cell? ⟨h, 3, none⟩ = some (.int .i64 0) ∧ W.cell? ⟨h, 4, none⟩ = some (.int .i64 0)) ∧
  (W.frozen? ⟨h, 0, none⟩ = false ∧ W.frozen? ⟨h, 1, none⟩ = false ∧ W.frozen? ⟨h, 2, none⟩ = false ∧ W.frozen? ⟨h, 3, none⟩ = false ∧ W.frozen? ⟨h, 4, none⟩ = false)
theorem Rs5.on {h : Nat} {W W' : World} (H : Rs5 h W) (hB : Below W.heap.size W W') : Rs5 h W' := by
  obtain ⟨h1, H2⟩ := H
  have hc : ∀ k, W'.cell? ⟨h, k, none⟩ = W.cell? ⟨h, k, none⟩ := fun k => hB.cell (p := ⟨h, k, none⟩) h1
  have hf : ∀ k, W'.frozen? ⟨h, k, none⟩ = W.frozen? ⟨h, k, none⟩ := fun k => hB.frozen (p := ⟨h, k, none⟩) h1
  refine ⟨Nat.lt_of_lt_of_le h1 hB.size, ?_⟩
  simp only [hc, hf]
  exact H2
theorem b_set5 {b h : Nat} {w W : World} (hB : Below b w W) (hb : b ≤ h) (x0 x1 x2 x3 x4 : Value) : Below b w (((((W.setCell ⟨h, 0, none⟩ x0).setCell ⟨h, 1, none⟩ x1).setCell ⟨h, 2, none⟩ x2).setCell ⟨h, 3, none⟩ x3).setCell ⟨h, 4, none⟩ x4) :=
  ((((hB.setCell hb _).setCell hb _).setCell hb _).setCell hb _).setCell hb _
set_option maxHeartbeats 8000000 in
set_option maxRecDepth 100000 in
theorem sbond_any {vk vb : Value} {L : List Kd} {B : List Bd} {w : World} (s : Nm) (hK : IsK w vk L) (hP : Parts w L) (hz : SzK L) (hb : IsB w vb B) (hzb : SzB B) :
    Calls Tryz.prog 81 #[.agg #[vk, vb], .string (bs s)] w fun e w' => e = .returned (.tuple #[(bdTell L B s).1.one, errV (bdTell L B s).2]) ∧ Below w.heap.size w w' := by
  obtain ⟨ak, ck, evk, hkl⟩ := hK.sln
  obtain ⟨ab, cb, evb, hbc, hbm, hvb⟩ := isB_view hb
  obtain ⟨_, _, _, hbl⟩ := hb.sln
  subst evk
  subst evb
  obtain ⟨W0, hW0⟩ : ∃ W0, W0 = (w.alloc (.cells #[.slice ak L.length ck, .slice ab B.length cb] 25)).alloc (.cells #[.string ⟨#[]⟩, .string ⟨#[]⟩, .string ⟨#[]⟩, .int .i64 0, .int .i64 0] 118) := ⟨_, rfl⟩
  have hB0 : Below w.heap.size w W0 := by rw [hW0]; exact b_allocKC (b_allocKC (Below.refl _ _) (Nat.le_refl _) _) (Nat.le_refl _) _
  have HR0 : Hid (Rs5 (w.heap.size + 1) W0) := by show Rs5 _ _; rw [hW0]; unfold Rs5; simp
  have HC0 : Hid (W0.cell? ⟨w.heap.size, 0, none⟩ = some (.slice ak L.length ck) ∧ W0.cell? ⟨w.heap.size, 1, none⟩ = some (.slice ab B.length cb) ∧ w.heap.size < W0.heap.size) := by refine ⟨?_, ?_, ?_⟩ <;> rw [hW0] <;> simp <;> omega
  have c1 := scheck_any (hK.on hB0) (hP.on hB0) hz (hb.on hB0) hzb
  have HB0 : Hid (Below w.heap.size w W0) := hB0
  have HH : Hid (IsB w (.slice ab B.length cb) B ∧ (∀ (j : Nat) g, B[j]? = some g → ∃ b o, ab = some ⟨b, o, none⟩ ∧ b < w.heap.size ∧ LiesB w b o B)) := ⟨hb, hvb⟩
  unfold maxLen at hkl hbl hbm
  clear hK hP hz hb hzb hvb hbc hB0
  rw [hW0] at c1
  by_cases h1 : (sErr L B).2 = 0
  · have HL12 : Hid (B.length ≤ 12) := by
      show _ ≤ _
      unfold sErr at h1
      split at h1
      · split at h1
        · cases h1
        · omega
      · exact absurd h1 (by assumption)
    have HE : Hid (bdTell L B s = match bdAt B s with | none => (bdZ, 5) | some x => (x, 0)) := by
      show _ = _
      unfold bdTell; rw [if_pos h1]
    rw [h1, errV_0] at c1
    obtain ⟨r, hr⟩ : ∃ r, r = (sErr L B).1 := ⟨_, rfl⟩
    rw [← hr] at c1
    clear h1 hr
    go_enter Tryz.func81, Tryz.ntmps81
    go_wp2_with (go_at_call 29; refine c1.mono ?_; rintro e W1 ⟨rfl, hB1⟩; refine Hid.out ?_)
    refine Lib.hid ?_
    rw [← hW0] at hB1
    have g0 := (hB1.cell (p := ⟨w.heap.size, 0, none⟩) HC0.out.2.2).trans HC0.out.1
    have g1 := (hB1.cell (p := ⟨w.heap.size, 1, none⟩) HC0.out.2.2).trans HC0.out.2.1
    have hsz1 : w.heap.size < W1.heap.size := Nat.lt_of_lt_of_le HC0.out.2.2 hB1.size
    have HR1 : Hid (Rs5 (w.heap.size + 1) W1) := HR0.out.on hB1
    have hBw1 : Below w.heap.size w W1 := on1KC HB0.out hB1 (Nat.le_refl _)
    have c2 := bondIndex_any (HH.out.1.on hBw1) HL12.out s
    clear c1 hB1 hW0
    rcases idxB_spec s B 0 with hx | ⟨j, q, hx, hq, _⟩
    · have HS : Hid (bdTell L B s = (bdZ, 5)) := by
        show _ = _
        rw [HE.out]; unfold bdAt; rw [if_pos hx]
      rw [hx] at c2
      clear HE hx
      go_wp2_with (go_at_call 77; refine c2.mono ?_; rintro e W2 ⟨rfl, hB2⟩; obtain ⟨hr0, ⟨r0, r1, r2, r3, r4⟩, ⟨z0, z1, z2, z3, z4⟩⟩ := HR1.out.on hB2)
      (try simp only [Exit.inBlock, Exit.then])
      refine bodyPost_ret (v := .tuple #[bdZ.one, errV 5]) ?_ rfl ⟨ret_v (by rw [HS.out]), b_set5 (on1KC hBw1 hB2 (Nat.le_refl _)) (Nat.le_succ _) _ _ _ _ _⟩
      rw [results_cell_tmp rfl]
      go_simp
      exact ⟨⟨rfl, rfl, rfl, rfl, rfl⟩, rfl⟩
    · rw [Nat.zero_add] at hx
      have HS : Hid (bdTell L B s = (q, 0)) := by
        show _ = _
        rw [HE.out]; unfold bdAt; rw [if_neg (by omega), hx, Int.toNat_natCast, hq]
      rw [hx] at c2
      obtain ⟨bx, ox, rfl, hbx, hlx⟩ := HH.out.2 j q hq
      have hjl : j < B.length := (List.getElem?_eq_some_iff.1 hq).1
      obtain ⟨d0, d1, d2, d3, d4⟩ := hlx j q hq
      clear HE hx hq
      go_wp2_with (go_at_call 77; refine c2.mono ?_; rintro e W2 ⟨rfl, hB2⟩; refine Hid.out ?_)
      refine Lib.hid ?_
      have hBw2 := on1KC hBw1 hB2 (Nat.le_refl _)
      have f0 := (hBw2.cell (p := ⟨bx, ox + j * 5, none⟩) hbx).trans d0
      have f1 := (hBw2.cell (p := ⟨bx, ox + j * 5 + 1, none⟩) hbx).trans d1
      have f2 := (hBw2.cell (p := ⟨bx, ox + j * 5 + 2, none⟩) hbx).trans d2
      have f3 := (hBw2.cell (p := ⟨bx, ox + j * 5 + 3, none⟩) hbx).trans d3
      have f4 := (hBw2.cell (p := ⟨bx, ox + j * 5 + 4, none⟩) hbx).trans d4
      have e1 := (hB2.cell (p := ⟨w.heap.size, 1, none⟩) hsz1).trans g1
      clear d0 d1 d2 d3 d4 c2 hlx
      obtain ⟨hr0, ⟨r0, r1, r2, r3, r4⟩, ⟨z0, z1, z2, z3, z4⟩⟩ := HR1.out.on hB2
      go_wp2
      (try simp only [Exit.inBlock, Exit.then])
      refine bodyPost_ret (v := .tuple #[q.one, errV 0]) ?_ rfl ⟨ret_v (by rw [HS.out]), b_set5 (hBw2) (Nat.le_succ _) _ _ _ _ _⟩
      rw [results_cell_tmp rfl]
      go_simp
      rfl
  · have HE : Hid (bdTell L B s = (bdZ, (sErr L B).2) ∧ ¬ (sErr L B).2 = 0) := by
      refine ⟨?_, h1⟩
      unfold bdTell; rw [if_neg h1]
    rw [errV_ne h1] at c1
    clear h1
    go_enter Tryz.func81, Tryz.ntmps81
    go_wp2_with (go_at_call 29; refine c1.mono ?_; rintro e W1 ⟨rfl, hB1⟩; rw [← hW0] at hB1; obtain ⟨hr0, ⟨r0, r1, r2, r3, r4⟩, ⟨z0, z1, z2, z3, z4⟩⟩ := HR0.out.on hB1)
    (try simp only [Exit.inBlock, Exit.then])
    refine bodyPost_ret (v := .tuple #[bdZ.one, errV (sErr L B).2]) ?_ rfl ⟨ret_v (by rw [HE.out.1]), b_set5 (on1KC HB0.out hB1 (Nat.le_refl _)) (Nat.le_succ _) _ _ _ _ _⟩
    rw [results_cell_tmp rfl]
    go_simp
    rw [errV_ne HE.out.2]; exact ⟨⟨rfl, rfl, rfl, rfl, rfl⟩, rfl⟩
end Go.Proofs.YtifcpjimhhpcpaaGreatDoor
