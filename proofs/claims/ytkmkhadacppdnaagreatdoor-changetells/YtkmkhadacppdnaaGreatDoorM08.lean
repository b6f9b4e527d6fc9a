/-
  The walk of kinref1.Kin.
-/
import Derived.Test.YtkmkhadacppdnaaGreatDoorM07
namespace Go.Proofs.YtkmkhadacppdnaaGreatDoor
open Go.RowKit
set_option linter.unusedVariables false
set_option linter.unusedSimpArgs false

theorem info4 : (Tryz.prog.info? 4).map (fun i => (i.zero, i.size, i.bytes)) = some (some (.bool false), 1, 1) := by kernel_rfl
/-- The marks lie there, and are sound. -/
def KB (w : World) (L : List Kd) (a : Nm) (ja : Nat) (B : Nat → Bool) (wr : World) : Prop :=
  wr.rowIs w.heap.size 4 L.length (fun i => .bool (B i)) ∧ Below w.heap.size w wr ∧ B ja = true ∧ Snd L a B
/-- Around. -/
def KO (w : World) (L : List Kd) (a : Nm) (ja : Nat) (kx : Nat) (s6 : Value) (wr : World) : Prop :=
  ∃ (B : Nat → Bool) (ag : Bool), s6 = .bool ag ∧ KB w L a ja B wr ∧ (ag = false → Cls L B L.length) ∧ (if ag = true then 1 else 0) + 2 * cnt L.length B ≤ kx
/-- Either nothing was marked in this pass, or fewer are left. -/
def KE (L : List Kd) (B0 B : Nat → Bool) (ag : Bool) (X : Prop) : Prop := (ag = false ∧ B = B0 ∧ X) ∨ (ag = true ∧ cnt L.length B < cnt L.length B0)
/-- From one to the next. -/
def KPr (w : World) (L : List Kd) (a : Nm) (ja : Nat) (B0 : Nat → Bool) (s6 s7 : Value) (wr : World) : Prop :=
  ∃ (B : Nat → Bool) (ag : Bool) (i : Nat), s6 = .bool ag ∧ s7 = .int .i64 i ∧ i ≤ L.length ∧ KB w L a ja B wr ∧ KE L B0 B ag (Cls L B i)
/-- Within one. -/
def KQ (w : World) (L : List Kd) (a : Nm) (ja : Nat) (B0 : Nat → Bool) (i : Nat) (kd : Kd) (s6 s8 : Value) (wr : World) : Prop :=
  ∃ (B : Nat → Bool) (ag : Bool) (m : Nat), s6 = .bool ag ∧ s8 = .int .i64 m ∧ m ≤ kd.of.length ∧ KB w L a ja B wr ∧ KE L B0 B ag (Cls L B i ∧ (B i = true → ClsAt L B kd m))
theorem ke_map {L : List Kd} {B0 B : Nat → Bool} {ag : Bool} {X Y : Prop} (h : KE L B0 B ag X) (f : X → Y) : KE L B0 B ag Y := by
  rcases h with ⟨h1, h2, h3⟩ | h
  · exact .inl ⟨h1, h2, f h3⟩
  · exact .inr h
theorem cls_next {L : List Kd} {B : Nat → Bool} {i : Nat} {kd : Kd} (hk : L[i]? = some kd) (h : Cls L B i) (h2 : B i = true → ClsAt L B kd kd.of.length) : Cls L B (i + 1) := by
  intro i' k hi hk' hB
  by_cases e : i' = i
  · subst e
    rw [hk] at hk'
    obtain rfl := Option.some.inj hk'
    exact h2 hB
  · exact h i' k (by omega) hk' hB
theorem clsAt_next {L : List Kd} {B : Nat → Bool} {kd x : Kd} {m j : Nat} {n : Nm} (hR : Right L) (h : ClsAt L B kd m) (hn : kd.of[m]? = some n) (hx : L[j]? = some x) (hxn : x.nm = n) (hB : B j = true) : ClsAt L B kd (m + 1) := by
  intro t n' ht hn' j' x' hx' hxn'
  by_cases e : t = m
  · subst e
    rw [hn] at hn'
    obtain rfl := Option.some.inj hn'
    have := right_names hR j' j x' x hx' hx (hxn'.trans hxn.symm)
    rw [this]; exact hB
  · exact h t n' (by omega) hn' j' x' hx' hxn'
theorem kb_mark {w wr : World} {L : List Kd} {a : Nm} {ja j : Nat} {B : Nat → Bool} (h : KB w L a ja B wr) (hs : Snd L a (mark B j)) : KB w L a ja (mark B j) (wr.setCell ⟨w.heap.size, j, none⟩ (.bool true)) := by
  obtain ⟨h1, h2, h3, h4⟩ := h
  refine ⟨(h1.set j (.bool true)).congr (fun i hi => ?_), h2.setCell (Nat.le_refl _) _, ?_, hs⟩
  · unfold mark; split <;> rfl
  · unfold mark; split
    · rfl
    · exact h3

set_option maxHeartbeats 16000000 in
set_option maxRecDepth 100000 in
theorem rkin_some (b off cap : Nat) (L : List Kd) (a : Nm) (ja : Nat) (q : Kd) (w : World) (hb : b < w.heap.size) (hL : LiesK w b off L) (hP : Parts w L) (hS : Small L) (hn : L.length ≤ 12) (hR : Right L) (hx : idxK a L 0 = (ja : Int)) (hq : L[ja]? = some q) (hqa : q.nm = a) :
    Calls Tryz.prog 43 #[.slice (some ⟨b, off, none⟩) L.length cap, .string (bs a)] w fun e w' => ∃ v, e = .returned v ∧ w'.ownsRow w.heap.size 9 1 v (nms (L.filter fun x => hasN (names L a) x.nm)).length (cellsS (nms (L.filter fun x => hasN (names L a) x.nm))) ∧ Below w.heap.size w w' := by
  obtain ⟨i0, hi0, hz0, hz1, hz2⟩ := info_parts info4
  obtain ⟨i9, hi9, hz90, hz91, hz92⟩ := info_parts info9
  have hjl := (List.getElem?_eq_some_iff.1 hq).1
  have HH : Hid (LiesK w b off L ∧ Parts w L ∧ Small L ∧ L.length ≤ 12 ∧ Right L ∧ L[ja]? = some q ∧ q.nm = a ∧ ja < L.length) := ⟨hL, hP, hS, hn, hR, hq, hqa, hjl⟩
  have HC : Hid (∀ W, Below w.heap.size w W → ∀ s, Calls Tryz.prog 14 #[.slice (some ⟨b, off, none⟩) L.length cap, .string (bs s)] W fun e w' => e = .returned (.int .i64 (idxK s L 0)) ∧ w' = W) := fun W h s => rkind_some b off cap L s W (hL.on hb h) hn
  have hbn : i0.bytes * L.length ≤ 281474976710656 := by rw [hz2]; omega
  have hlm : L.length ≤ 9223372036854775807 := by omega
  clear hL hP hS hR hq hqa
  go_enter Tryz.func43, Tryz.ntmps43
  go_wp2_with (refine wpList_make_row _ rfl (.tmp 13) (.tmp 13) 122 rfl 4 i0 (.bool false) Tryz.underlying122 hi0 hz0 hz1 rfl .i64 .i64 L.length rfl rfl hbn hlm ?_; refine Hid.out ?_)
  refine Lib.hid ?_
  have hrow := World.rowIs_made w (.bool false) L.length 4
  have hB0 : Below w.heap.size w (w.alloc (.cells (madeCells #[.bool false] L.length) 4)) := b_allocK (Below.refl _ _) (Nat.le_refl _) _
  obtain ⟨W0, hW0⟩ : ∃ W0, W0 = w.alloc (.cells (madeCells #[.bool false] L.length) 4) := ⟨_, rfl⟩
  rw [← hW0] at hrow hB0 ⊢
  have c1 := HC.out W0 hB0 a
  rw [hx] at c1
  have s0 := hrow.cell hjl
  have s1 := hrow.frozen ja
  have hs0 : w.heap.size < W0.heap.size := hrow.lt
  have HK0 : Hid (KB w L a ja (mark (fun _ => false) ja) (W0.setCell ⟨w.heap.size, ja, none⟩ (.bool true))) := by
    refine ⟨(hrow.set ja (.bool true)).congr (fun i hi => ?_), hB0.setCell (Nat.le_refl _) _, ?_, ?_⟩
    · unfold mark; split <;> rfl
    · unfold mark; simp
    · intro i k hk hB
      unfold mark at hB
      split at hB
      · rename_i e
        subst e
        have h1 := HH.out.2.2.2.2.2.1
        rw [h1] at hk
        obtain rfl := Option.some.inj hk
        rw [HH.out.2.2.2.2.2.2.1]
        exact names_self L a
      · cases hB
  clear hrow hx hW0
  go_wp2_with (go_at_call 14; refine c1.mono ?_; rintro e W1 ⟨rfl, rfl⟩)
  obtain ⟨W2, hW2⟩ : ∃ W2, W2 = W1.setCell ⟨w.heap.size, ja, none⟩ (.bool true) := ⟨_, rfl⟩
  rw [← hW2] at HK0 ⊢
  clear hW2 c1 s0 s1 hB0 hs0
  go_loopg [6] (2 * L.length + 1) (fun kx s6 wr => KO w L a ja kx s6 wr)
  case atStart =>
    refine ⟨_, true, rfl, HK0.out, fun h => (by cases h), ?_⟩
    have := cnt_le L.length (mark (fun _ => false) ja)
    simp
    omega
  case round =>
    obtain ⟨B0, ag, rfl, hKB, hcl, hkx⟩ := hrel
    cases ag with
    | true =>
      simp only [if_true] at hkx
      have HO : Hid (KB w L a ja B0 wr) := hKB
      clear hKB hcl HK0
      go_wp2
      go_loopw [6, 7] (fun s6 s7 wx => KPr w L a ja B0 s6 s7 wx) (fun _ s7 _ => L.length - (intOf s7).toNat)
      case atStart => exact ⟨B0, false, 0, rfl, rfl, Nat.zero_le _, HO.out, .inl ⟨rfl, rfl, fun i' k h => absurd h (Nat.not_lt_zero _)⟩⟩
      case round =>
        obtain ⟨B, ag, i, rfl, rfl, hi, hKB, hKE⟩ := hrel
        by_cases hlt : i < L.length
        · obtain ⟨hL, hP, hS, hn', hR, _, _, _⟩ := HH.out
          obtain ⟨kd, hkd⟩ : ∃ kd, L[i]? = some kd := ⟨L[i], by simp [hlt]⟩
          obtain ⟨c0, c1, c2⟩ := hL i kd hkd
          have hkm : kd ∈ L := List.mem_of_getElem? hkd
          obtain ⟨ao, co, evo, hvo⟩ := isS_viewR (hP kd hkm).1
          rw [evo] at c1
          have h4 := (hS kd hkm).1
          have HI : Hid (L[i]? = some kd ∧ w.cell? ⟨b, off + i * 3 + 1, none⟩ = some (.slice ao kd.of.length co) ∧ (∀ j g, kd.of[j]? = some g → ∃ b o, ao = some ⟨b, o, none⟩ ∧ b < w.heap.size ∧ w.cell? ⟨b, o + j, none⟩ = some (.string (bs g))) ∧ kd.of.length ≤ 4) := ⟨hkd, c1, hvo, h4⟩
          have HQ0 : Hid (KQ w L a ja B0 i kd (.bool ag) (.int .i64 0) wr) := ⟨B, ag, 0, rfl, rfl, Nat.zero_le _, hKB, ke_map hKE (fun h => ⟨h, fun _ t n ht => absurd ht (Nat.not_lt_zero _)⟩)⟩
          clear hL hP hS hn' hR c0 c1 c2 hkd hkm evo hvo hKB hKE
          go_wp2
          go_loopw [6, 8] (fun s6 s8 wx => KQ w L a ja B0 i kd s6 s8 wx) (fun _ s8 _ => kd.of.length - (intOf s8).toNat)
          case atStart => exact HQ0.out
          case round =>
            obtain ⟨B, ag, m, rfl, rfl, hm, hKB, hKE⟩ := hrel
            have d1 := (hKB.2.1.cell (p := ⟨b, off + i * 3 + 1, none⟩) hb).trans HI.out.2.1
            have r0 := hKB.1.cell hlt
            have hsz : w.heap.size < wr.heap.size := hKB.1.lt
            by_cases hml : m < kd.of.length
            · cases hBi : B i with
              | true =>
                rw [hBi] at r0
                obtain ⟨nn, hnn⟩ : ∃ nn, kd.of[m]? = some nn := ⟨kd.of[m], by simp [hml]⟩
                obtain ⟨bo, oo, rfl, hbo, hco⟩ := HI.out.2.2.1 m nn hnn
                have d2 := (hKB.2.1.cell (p := ⟨bo, oo + m, none⟩) hbo).trans hco
                obtain ⟨y, hy, hyn⟩ := right_of HH.out.2.2.2.2.1 kd (by simpa using List.mem_of_getElem? HI.out.1) nn (List.mem_of_getElem? hnn)
                have hyL : y ∈ L := by simpa using hy
                have hidx : ¬ idxK nn L 0 = -1 := fun e => idxK_none e y hyL hyn
                obtain ⟨j, x, hj, hxj, hxn⟩ := idxK_has hidx
                have hjl := (List.getElem?_eq_some_iff.1 hxj).1
                have ck := HC.out wr hKB.2.1 nn
                rw [hj] at ck
                have q0 := hKB.1.cell hjl
                have q1 := hKB.1.frozen j
                cases hBj : B j with
                | true =>
                  rw [hBj] at q0
                  have R : KQ w L a ja B0 i kd (.bool ag) (.int .i64 ((m + 1 : Nat) : Int)) wr := ⟨B, ag, m + 1, rfl, rfl, by omega, hKB, ke_map hKE (fun h => ⟨h.1, fun hb' => clsAt_next HH.out.2.2.2.2.1 (h.2 hb') hnn hxj hxn hBj⟩)⟩
                  have HR : Hid (KQ w L a ja B0 i kd (.bool ag) (.int .i64 ((m + 1 : Nat) : Int)) wr) := R
                  have hj12 : j < 12 := by omega
                  clear R hKB hKE hy hyn hyL hidx hj hxj hxn hnn hbo hco hBi hBj
                  go_wp2_with (go_at_call 14; refine ck.mono ?_; rintro e Wq ⟨rfl, rfl⟩)
                  refine ⟨?_, ?_⟩
                  · first | exact HR.out | ((repeat apply Exists.intro); refine ⟨?_, rfl⟩; exact HR.out)
                  · simp [intOf]
                    try omega
                | false =>
                  rw [hBj] at q0
                  have hcm := cnt_mark hjl hBj
                  have R : KQ w L a ja B0 i kd (.bool true) (.int .i64 ((m + 1 : Nat) : Int)) (wr.setCell ⟨w.heap.size, j, none⟩ (.bool true)) := by
                    refine ⟨mark B j, true, m + 1, rfl, rfl, by omega, kb_mark hKB (snd_mark HH.out.2.2.2.2.1 hKB.2.2.2 HI.out.1 hBi (List.mem_of_getElem? hnn) hxj hxn), .inr ⟨rfl, ?_⟩⟩
                    rcases hKE with ⟨_, e, _⟩ | ⟨_, e⟩
                    · rw [e] at hcm ⊢; exact hcm
                    · omega
                  have HR : Hid (KQ w L a ja B0 i kd (.bool true) (.int .i64 ((m + 1 : Nat) : Int)) (wr.setCell ⟨w.heap.size, j, none⟩ (.bool true))) := R
                  have hj12 : j < 12 := by omega
                  clear R hKB hKE hy hyn hyL hidx hj hxj hxn hnn hbo hco hBi hBj hcm
                  go_wp2_with (go_at_call 14; refine ck.mono ?_; rintro e Wq ⟨rfl, rfl⟩)
                  refine ⟨?_, ?_⟩
                  · first | exact HR.out | ((repeat apply Exists.intro); refine ⟨?_, rfl⟩; exact HR.out)
                  · simp [intOf]
                    try omega
              | false =>
                rw [hBi] at r0
                have R : KPr w L a ja B0 (.bool ag) (.int .i64 ((i + 1 : Nat) : Int)) wr := ⟨B, ag, i + 1, rfl, rfl, by omega, hKB, ke_map hKE (fun h => cls_next HI.out.1 h.1 (fun hb' => by rw [hBi] at hb'; cases hb'))⟩
                have HR : Hid (KPr w L a ja B0 (.bool ag) (.int .i64 ((i + 1 : Nat) : Int)) wr) := R
                clear R hKB hKE hBi
                go_wp2
                refine ⟨?_, ?_⟩
                · first | exact HR.out | ((repeat apply Exists.intro); refine ⟨?_, rfl⟩; exact HR.out)
                · simp [intOf]
                  try omega
            · have hme : m = kd.of.length := by omega
              have R : KPr w L a ja B0 (.bool ag) (.int .i64 ((i + 1 : Nat) : Int)) wr := ⟨B, ag, i + 1, rfl, rfl, by omega, hKB, ke_map hKE (fun h => cls_next HI.out.1 h.1 (by rw [← hme]; exact h.2))⟩
              have HR : Hid (KPr w L a ja B0 (.bool ag) (.int .i64 ((i + 1 : Nat) : Int)) wr) := R
              clear R hKB hKE hme
              go_wp2
              refine ⟨?_, ?_⟩
              · first | exact HR.out | ((repeat apply Exists.intro); refine ⟨?_, rfl⟩; exact HR.out)
              · simp [intOf]
                try omega
        · have hie : i = L.length := by omega
          subst hie
          rcases hKE with ⟨rfl, rfl, hC⟩ | ⟨rfl, hlt2⟩
          · have R : KO w L a ja (2 * cnt L.length B) (.bool false) wr := ⟨B, false, rfl, hKB, fun _ => hC, by simp⟩
            have HR : Hid (KO w L a ja (2 * cnt L.length B) (.bool false) wr) := R
            clear R hKB hC
            go_wp2
            go_roundg (2 * cnt L.length B)
            case measure => omega
            case rel => exact HR.out
          · have R : KO w L a ja (1 + 2 * cnt L.length B) (.bool true) wr := ⟨B, true, rfl, hKB, fun h => (by cases h), by simp⟩
            have HR : Hid (KO w L a ja (1 + 2 * cnt L.length B) (.bool true) wr) := R
            clear R hKB
            go_wp2
            go_roundg (1 + 2 * cnt L.length B)
            case measure => omega
            case rel => exact HR.out
    | false =>
      have hdone := marks_done HH.out.2.2.2.2.1 hKB.2.2.2 (hcl rfl) HH.out.2.2.2.2.2.1 HH.out.2.2.2.2.2.2.1 hKB.2.2.1
      have HO : Hid (wr.rowIs w.heap.size 4 L.length (fun i => .bool (B0 i)) ∧ Below w.heap.size w wr ∧ ∀ i k, L[i]? = some k → B0 i = hasN (names L a) k.nm) := ⟨hKB.1, hKB.2.1, hdone⟩
      clear hKB hcl hkx hdone HK0
      go_wp2
      go_loopw [10, 11] (fun s10 s11 wx => ∃ k : Nat, k ≤ L.length ∧ s11 = .int .i64 k ∧ wx.ownsRow (w.heap.size + 1) 9 1 s10 (nms ((L.take k).filter fun x => hasN (names L a) x.nm)).length (cellsS (nms ((L.take k).filter fun x => hasN (names L a) x.nm))) ∧ wx.rowIs w.heap.size 4 L.length (fun i => .bool (B0 i)) ∧ Below w.heap.size w wx) (fun _ s11 _ => L.length - (intOf s11).toNat)
      case atStart => exact ⟨0, Nat.zero_le _, rfl, World.ownsRow_nil _ _ _ _, HO.out.1, HO.out.2.1⟩
      case round =>
        obtain ⟨k, hk, rfl, hown, hrow, hB⟩ := hrel
        by_cases hlt : k < L.length
        · obtain ⟨p, hp⟩ : ∃ p, L[k]? = some p := ⟨L[k], by simp [hlt]⟩
          obtain ⟨c0, _, _⟩ := HH.out.1 k p hp
          have d0 := (hB.cell (p := ⟨b, off + k * 3, none⟩) hb).trans c0
          have r0 := hrow.cell hlt
          have hsz : w.heap.size < wr.heap.size := hrow.lt
          have hBk := HO.out.2.2 k p hp
          have htk := takeK hp
          obtain ⟨F, hF⟩ : ∃ F, F = nms ((L.take k).filter fun x => hasN (names L a) x.nm) := ⟨_, rfl⟩
          have hFl : F.length ≤ 12 := by
            rw [hF]; unfold nms
            have h1 := List.length_filter_le (fun x => hasN (names L a) x.nm) (L.take k)
            simp at h1 ⊢
            omega
          rw [← hF] at hown
          cases hN : hasN (names L a) p.nm with
          | false =>
            rw [hBk, hN] at r0
            have HR : Hid (wr.ownsRow (w.heap.size + 1) 9 1 u10 (nms ((L.take (k + 1)).filter fun x => hasN (names L a) x.nm)).length (cellsS (nms ((L.take (k + 1)).filter fun x => hasN (names L a) x.nm))) ∧ wr.rowIs w.heap.size 4 L.length (fun i => .bool (B0 i)) ∧ Below w.heap.size w wr) := by
              refine ⟨?_, hrow, hB⟩
              have e : nms ((L.take (k + 1)).filter fun x => hasN (names L a) x.nm) = F := by rw [htk, hF]; simp [nms, List.filter_append, hN]
              rw [e]; exact hown
            clear hown hrow hB hF hFl htk hBk hN c0 hp
            go_wp2
            go_roundw
            case rel => exact ⟨k + 1, by omega, by go_num, HR.out.1, HR.out.2.1, HR.out.2.2⟩
            case measure => simp [intOf]; omega
          | true =>
            rw [hBk, hN] at r0
            have hBa : Below w.heap.size w (wr.alloc (.cells #[.string (bs p.nm)] 9)) := b_allocK hB (Nat.le_refl _) _
            have HA : Hid ((wr.alloc (.cells #[.string (bs p.nm)] 9)).ownsRow (w.heap.size + 1) 9 1 u10 F.length (cellsS F) ∧ (wr.alloc (.cells #[.string (bs p.nm)] 9)).rowIs w.heap.size 4 L.length (fun i => .bool (B0 i)) ∧ Below w.heap.size w (wr.alloc (.cells #[.string (bs p.nm)] 9))) := ⟨hown.alloc _, hrow.alloc _, hBa⟩
            have HE : Hid (nms ((L.take (k + 1)).filter fun x => hasN (names L a) x.nm) = F ++ [p.nm]) := by
              show _ = _
              rw [htk, hF]; simp [nms, List.filter_append, hN]
            have HM : Hid (F.length + 1 ≤ maxLen ∧ (F.length + 1) * 16 ≤ 140737488355328) := by unfold maxLen; exact ⟨by omega, by omega⟩
            have hbs : w.heap.size + 1 ≤ (wr.alloc (.cells #[.string (bs p.nm)] 9)).heap.size := by simp; omega
            clear hown hrow hB hF hFl htk hBk hN c0 hp hBa
            go_wp2_with (at_builtin; refine wpList_append_own _ rfl (.tmp 71) (.tmp 77) 26 rfl (w.heap.size + 1) 9 i9 _ 1 16 Tryz.underlying26 hi9 hz90 hz91 hz92 rfl (by decide) u10 F.length (cellsS F) rfl HA.out.1 ⟨wr.heap.size, 0, none⟩ 1 1 [.string (bs p.nm)] rfl rfl (new_at _ _ _) (by simp [Value.oneCell']) HM.out.1 HM.out.2 hbs ?_; intro v1 w1 hown1 hgrow1 _; refine Hid.out ?_)
            refine Lib.hid ?_
            have HR : Hid (w1.ownsRow (w.heap.size + 1) 9 1 v1 (nms ((L.take (k + 1)).filter fun x => hasN (names L a) x.nm)).length (cellsS (nms ((L.take (k + 1)).filter fun x => hasN (names L a) x.nm))) ∧ w1.rowIs w.heap.size 4 L.length (fun i => .bool (B0 i)) ∧ Below w.heap.size w w1) := by
              refine ⟨?_, HA.out.2.1.of_block (hgrow1.block _ HA.out.2.1.lt (fun e => ?_)), HA.out.2.2.grown hgrow1 HA.out.2.2.size (fun k hk => ?_)⟩
              · rw [HE.out, List.length_append, cellsS_app]; exact hown1
              · have := (HA.out.1.lt _ e.symm).1; omega
              · have := (HA.out.1.lt k hk).1; omega
            clear hown1
            go_wp2
            go_roundw
            case rel => exact ⟨k + 1, by omega, by go_num, HR.out.1, HR.out.2.1, HR.out.2.2⟩
            case measure => simp [intOf]; omega
        · have hke : L.take k = L := List.take_of_length_le (by omega)
          rw [hke] at hown
          have HR : Hid (wr.ownsRow (w.heap.size + 1) 9 1 u10 (nms (L.filter fun x => hasN (names L a) x.nm)).length (cellsS (nms (L.filter fun x => hasN (names L a) x.nm))) ∧ Below w.heap.size w wr) := ⟨hown, hB⟩
          clear hown hrow hB hke
          go_wp2
          go_ret
          exact ⟨_, rfl, own_base HR.out.1 (Nat.le_succ _), HR.out.2⟩
end Go.Proofs.YtkmkhadacppdnaaGreatDoor

/-
  The walks of kinref1.Is and kinref2.Under.
-/
namespace Go.Proofs.YtkmkhadacppdnaaGreatDoor
open Go.RowKit
set_option linter.unusedVariables false
set_option linter.unusedSimpArgs false

/-- All it comes of, as the marks tell it. -/
def kinF (L : List Kd) (a : Nm) : List Kd := L.filter fun x => hasN (names L a) x.nm
theorem hasN_nms {K : List Kd} {s : Nm} : hasN (nms K) s = true ↔ ¬ idxK s K 0 = -1 := by
  rw [hasN_iff]
  unfold nms
  rw [List.mem_map]
  constructor
  · rintro ⟨x, hx, hn⟩ e
    exact idxK_none e x hx hn
  · intro h
    obtain ⟨j, x, _, h2, h3⟩ := idxK_has h
    exact ⟨x, List.mem_of_getElem? h2, h3⟩
theorem idx_of {L : List Kd} (hR : Right L) {i : Nat} {k : Kd} (hk : L[i]? = some k) : idxK k.nm L 0 = (i : Int) := by
  have hne : ¬ idxK k.nm L 0 = -1 := fun e => idxK_none e k (List.mem_of_getElem? hk) rfl
  obtain ⟨j, x, h1, h2, h3⟩ := idxK_has hne
  have := right_names hR j i x k h2 hk h3
  rw [h1, this]
set_option maxHeartbeats 4000000 in
set_option maxRecDepth 100000 in
theorem ris_some (b off cap : Nat) (L : List Kd) (i : Nat) (q : Kd) (s : Nm) (w : World) (hb : b < w.heap.size) (hL : LiesK w b off L) (hP : Parts w L) (hS : Small L) (hn : L.length ≤ 12) (hR : Right L) (hq : L[i]? = some q) :
    Calls Tryz.prog 31 #[.slice (some ⟨b, off, none⟩) L.length cap, .string (bs q.nm), .string (bs s)] w fun e w' => e = .returned (.bool (hasN (nms (kinF L q.nm)) s)) ∧ Below w.heap.size w w' := by
  have c1 := rkin_some b off cap L q.nm i q w hb hL hP hS hn hR (idx_of hR hq) hq rfl
  have hl : (nms (kinF L q.nm)).length ≤ 1000 := by
    unfold nms kinF
    have := List.length_filter_le (fun x => hasN (names L q.nm) x.nm) L
    simp
    omega
  have HL : Hid ((nms (kinF L q.nm)).length ≤ 1000) := hl
  clear hL hP hS hR hq hl
  go_enter Tryz.func31, Tryz.ntmps31
  go_wp2_with (go_at_call 43; refine c1.mono ?_; rintro e W1 ⟨v1, rfl, hown, hB1⟩; refine Hid.out ?_)
  refine Lib.hid ?_
  have c2 := in_any (own_isS hown) HL.out s
  clear c1 hown
  change Calls Tryz.prog 16 #[v1, .string (bs s)] W1 (fun e w' => e = .returned (.bool (hasN (nms (kinF L q.nm)) s)) ∧ w' = W1) at c2
  obtain ⟨r, hr⟩ : ∃ r, r = hasN (nms (kinF L q.nm)) s := ⟨_, rfl⟩
  have HR : Hid (r = hasN (nms (kinF L q.nm)) s) := hr
  rw [← hr] at c2
  clear hr
  go_wp2_with (go_at_call 16; refine c2.mono ?_; rintro e W2 ⟨rfl, rfl⟩)
  go_ret
  exact ⟨ret_v (by rw [← HR.out]; rfl), hB1⟩
end Go.Proofs.YtkmkhadacppdnaaGreatDoor

/-
  One field more, put in from the end: mathematics; and the three appends of kinref1.Fields.
-/
namespace Go.Proofs.YtkmkhadacppdnaaGreatDoor
open Go.RowKit
set_option linter.unusedVariables false
set_option linter.unusedSimpArgs false

/-- How many are not behind a name. -/
def upF (nm : Nm) (al : List Fd) : Nat := lo nm al + (if fnd nm al = true then 1 else 0)
theorem fnd_at {nm : Nm} {al : List Fd} (h : fnd nm al = true) : ∃ g, al[lo nm al]? = some g ∧ g.nm = nm := by
  unfold fnd at h
  split at h
  · rename_i g hg
    exact ⟨g, hg, by simpa using h⟩
  · cases h
theorem upF_le (nm : Nm) (al : List Fd) : upF nm al ≤ al.length := by
  unfold upF
  split
  · rename_i h
    obtain ⟨g, hg, _⟩ := fnd_at h
    have := (List.getElem?_eq_some_iff.1 hg).1
    omega
  · have := lo_le nm al
    omega
theorem srt_lt {al : List Fd} (h : Srt al) {i j : Nat} {x y : Fd} (hx : al[i]? = some x) (hy : al[j]? = some y) (hij : i < j) : Op.bytesLess x.nm y.nm = true := by
  obtain ⟨h1, e1⟩ := List.getElem?_eq_some_iff.1 hx
  obtain ⟨h2, e2⟩ := List.getElem?_eq_some_iff.1 hy
  have := List.pairwise_iff_getElem.1 h i j h1 h2 hij
  rw [e1, e2] at this
  exact this
/-- Behind it they are greater. -/
theorem up_gt {nm : Nm} {al : List Fd} (h : Srt al) {i : Nat} {g : Fd} (hg : al[i]? = some g) (hi : upF nm al ≤ i) : Op.bytesLess nm g.nm = true := by
  have hlo : lo nm al ≤ i := by unfold upF at hi; omega
  have hnl : ¬ Op.bytesLess g.nm nm = true := fun e => by
    have := (lo_spec nm h i g hg).2 e; omega
  refine less_tri (by simpa using hnl) (fun e => ?_)
  by_cases hf : fnd nm al = true
  · obtain ⟨x, hx, hxn⟩ := fnd_at hf
    have hlt : lo nm al < i := by unfold upF at hi; rw [if_pos hf] at hi; omega
    have := srt_lt h hx hg hlt
    rw [hxn, e, less_irr] at this
    exact absurd this (by decide)
  · by_cases hil : i = lo nm al
    · subst hil
      apply hf
      unfold fnd
      rw [hg]; simpa using e
    · obtain ⟨x, hx⟩ : ∃ x, al[lo nm al]? = some x := ⟨al[lo nm al]'(by have := (List.getElem?_eq_some_iff.1 hg).1; omega), by simp⟩
      have h2 := srt_lt h hx hg (by omega)
      rw [e] at h2
      have := (lo_spec nm h _ x hx).2 h2
      omega
/-- The last one that is not behind it. -/
theorem up_last {nm : Nm} {al : List Fd} (h : Srt al) {i : Nat} {g : Fd} (hg : al[i]? = some g) (hi : upF nm al = i + 1) : Op.bytesLess nm g.nm = false ∧ (g.nm == nm) = fnd nm al := by
  by_cases hf : fnd nm al = true
  · obtain ⟨x, hx, hxn⟩ := fnd_at hf
    have : i = lo nm al := by unfold upF at hi; rw [if_pos hf] at hi; omega
    subst this
    rw [hg] at hx
    obtain rfl := Option.some.inj hx
    rw [hxn, hf]
    exact ⟨less_irr _, by simp⟩
  · have hl : i < lo nm al := by unfold upF at hi; rw [if_neg hf] at hi; omega
    have h1 := (lo_spec nm h i g hg).1 hl
    have hf' : fnd nm al = false := by simpa using hf
    refine ⟨less_asym h1, ?_⟩
    rw [hf']
    have : ¬ g.nm = nm := fun e => by rw [e, less_irr] at h1; exact absurd h1 (by decide)
    simpa using this
theorem up_new {nm : Nm} {al : List Fd} (hf : fnd nm al = false) : upF nm al = lo nm al := by unfold upF; rw [if_neg (by rw [hf]; decide)]; rfl
/-- Each cell of fields that lie there. -/
theorem liesF_cell {w : World} {b off : Nat} {l : List Fd} (hl : LiesF w b off l) : ∀ j u, (cellsF l)[j]? = some u → w.cell? ⟨b, off + j, none⟩ = some u := by
  intro j u hu
  have hjl := (List.getElem?_eq_some_iff.1 hu).1
  rw [cellsF_len] at hjl
  obtain ⟨k, r, hr, rfl⟩ : ∃ k r, r < 4 ∧ j = k * 4 + r := ⟨j / 4, j % 4, by omega, by omega⟩
  have hq : k < l.length := by omega
  have hat := flat_at Fd.cells 4 (fun _ => rfl) l k l[k] r (List.getElem?_eq_getElem hq) hr
  have hu' : (l.flatMap Fd.cells)[k * 4 + r]? = some u := hu
  rw [hat] at hu'
  obtain ⟨e0, e1, e2, e3⟩ := hl k l[k] (List.getElem?_eq_getElem hq)
  have h4 : r = 0 ∨ r = 1 ∨ r = 2 ∨ r = 3 := by omega
  rcases h4 with rfl | rfl | rfl | rfl
  · obtain rfl : Value.string (bs l[k].nm) = u := Option.some.inj hu'
    exact e0
  · obtain rfl : Value.int .i64 l[k].t = u := Option.some.inj hu'
    rw [← Nat.add_assoc]; exact e1
  · obtain rfl : Value.bool l[k].must = u := Option.some.inj hu'
    rw [← Nat.add_assoc]; exact e2
  · obtain rfl : Value.bool l[k].key = u := Option.some.inj hu'
    rw [← Nat.add_assoc]; exact e3
/-- append of a stretch of fields that lies there. -/
theorem app_fields {w : World} {ops : Array Oper} {rest : List Oper} {o : Oper} {a : Act} {Q : Exit → Act → World → Prop} (hgd : o.guard = none) (s x : Operand)
    (ho : o.op = .call { callee := .builtin .append, args := #[s, x], argTypes := #[27, 27] }) (base : Nat)
    (v : Value) (ns l : List Fd) (hs : a.eval s = v) (hown : w.ownsRow base 33 4 v ns.length (cellsF ns)) (u : Value) (hx : a.eval x = u) (hl : IsF w u l) (h63 : ns.length + l.length ≤ 1000) (hbase : base ≤ w.heap.size)
    (h : ∀ v' w', w'.ownsRow base 33 4 v' (ns.length + l.length) (cellsF ns ++ cellsF l) → w.grownBy w' v.ownBlock → wpList Tryz.prog ops Q rest (a.put o.dst v') w') : wpList Tryz.prog ops Q (o :: rest) a w := by
  obtain ⟨i0, hi0, hz0, hz1, hz2⟩ := info_parts info59
  rcases hl with ⟨ao, c0, rfl, rfl, hc0, hcn⟩ | ⟨b, off, cap, rfl, hc, hm, hb, hl⟩
  · cases ao with
    | some ad =>
      refine wpList_append_own w hgd s x 27 ho base 33 i0 _ 4 32 Tryz.underlying27 hi0 hz0 hz1 hz2 rfl (by decide) v ns.length (cellsF ns) hs hown ad 0 c0 [] hx rfl (fun j u hu => by simp at hu) (fun u hu => by simp at hu) (by unfold maxLen; omega) (by omega) hbase (fun v' w' h1 h2 _ => h v' w' h1 h2)
    | none =>
      obtain rfl := hcn rfl
      refine wpList_append_own_none hgd s x 27 ho base 33 i0 4 Tryz.underlying27 hi0 v ns.length (cellsF ns) hs hown hx ?_
      exact h v w (by simpa [cellsF] using hown) ⟨rfl, rfl, rfl, Nat.le_refl _, fun _ _ _ => rfl⟩
  · refine wpList_append_own w hgd s x 27 ho base 33 i0 _ 4 32 Tryz.underlying27 hi0 hz0 hz1 hz2 rfl (by decide) v ns.length (cellsF ns) hs hown ⟨b, off, none⟩ l.length cap (cellsF l) hx (cellsF_len l) ?_ (cellsF_one l) (by unfold maxLen; omega) (by omega) hbase (fun v' w' h1 h2 _ => h v' w' h1 h2)
    intro j u hu
    rw [Addr.add_lit]
    exact liesF_cell hl j u hu
end Go.Proofs.YtkmkhadacppdnaaGreatDoor

/-
  The walk of kinref1.Fields.
-/
namespace Go.Proofs.YtkmkhadacppdnaaGreatDoor
open Go.RowKit
set_option linter.unusedVariables false
set_option linter.unusedSimpArgs false

/-- What Fields gives. -/
def RFPost (w : World) (o : Option (List Fd)) (e : Ending) (w' : World) : Prop :=
  ∃ v, e = .returned (.tuple #[v, .bool o.isSome]) ∧ (∀ l, o = some l → w'.ownsRow w.heap.size 33 4 v l.length (cellsF l)) ∧ (o = none → v = .slice none 0 0) ∧ Below w.heap.size w w'
/-- Between two rounds of the outer loop. -/
def FR2 (w1 : World) (K : List Kd) (o : Option (List Fd)) (s6 s8 : Value) (wr : World) : Prop :=
  ∃ (i : Nat) (al : List Fd), i ≤ K.length ∧ s8 = .int .i64 i ∧ o = fOf al ((K.drop i).flatMap Kd.fs) ∧ Srt al ∧ al.length ≤ 8 * i ∧ wr.ownsRow w1.heap.size 33 4 s6 al.length (cellsF al) ∧ Below w1.heap.size w1 wr
/-- .. of the inner one. -/
def FI2 (w1 : World) (K : List Kd) (o : Option (List Fd)) (i : Nat) (p : Kd) (s6 s10 : Value) (wr : World) : Prop :=
  ∃ (m : Nat) (al : List Fd), m ≤ p.fs.length ∧ s10 = .int .i64 m ∧ o = fOf al (p.fs.drop m ++ (K.drop (i + 1)).flatMap Kd.fs) ∧ Srt al ∧ al.length ≤ 8 * i + m ∧ wr.ownsRow w1.heap.size 33 4 s6 al.length (cellsF al) ∧ Below w1.heap.size w1 wr
theorem own_view {w : World} {base : Nat} {v : Value} {l : List Fd} (h : w.ownsRow base 33 4 v l.length (cellsF l)) : (v = .slice none 0 0 ∧ l = []) ∨ ∃ g c, v = .slice (some ⟨g, 0, none⟩) l.length c ∧ l.length ≤ c ∧ c ≤ maxLen ∧ base ≤ g ∧ g < w.heap.size ∧ LiesF w g 0 l := by
  have hF := own_isF h
  rcases h.2 with ⟨rfl, h0⟩ | ⟨g, c, cur, rfl, hb, hg, hle, hcm, _⟩
  · exact .inl ⟨rfl, List.eq_nil_of_length_eq_zero h0⟩
  · right
    rcases hF with ⟨ao, c', e, rfl, _⟩ | ⟨b', o', c', e, _, _, hlt, hl⟩
    · refine ⟨g, c, rfl, hle, hcm, hb, (Array.getElem?_eq_some_iff.1 hg).1, fun k f hf => by simp at hf⟩
    · injection e with e1 e2 e3
      injection e1 with e1
      injection e1 with e4 e5 _
      subst e4; subst e5
      exact ⟨g, c, rfl, hle, hcm, hb, hlt, hl⟩
theorem liesF_take {w : World} {b off : Nat} {l : List Fd} (h : LiesF w b off l) (t : Nat) : LiesF w b off (l.take t) := fun k f hf => by
  rw [List.getElem?_take] at hf
  split at hf
  · exact h k f hf
  · cases hf
theorem liesF_drop {w : World} {b off : Nat} {l : List Fd} (h : LiesF w b off l) (t : Nat) : LiesF w b (off + t * 4) (l.drop t) := fun k f hf => by
  rw [List.getElem?_drop] at hf
  have := h (t + k) f hf
  rw [show off + (t + k) * 4 = off + t * 4 + k * 4 by rw [Nat.add_mul]; omega] at this
  exact this
theorem LiesF.grown {w w' : World} {b off : Nat} {l : List Fd} {row : Option Nat} (h : LiesF w b off l) (hb : b < w.heap.size) (hg : w.grownBy w' row) (hne : some b ≠ row) : LiesF w' b off l := fun k f hf => by
  have e : w'.heap[b]? = w.heap[b]? := hg.block b hb hne
  obtain ⟨c0, c1, c2, c3⟩ := h k f hf
  exact ⟨(World.cell?_of_block (a := ⟨b, _, none⟩) e).trans c0, (World.cell?_of_block (a := ⟨b, _, none⟩) e).trans c1, (World.cell?_of_block (a := ⟨b, _, none⟩) e).trans c2, (World.cell?_of_block (a := ⟨b, _, none⟩) e).trans c3⟩
end Go.Proofs.YtkmkhadacppdnaaGreatDoor
