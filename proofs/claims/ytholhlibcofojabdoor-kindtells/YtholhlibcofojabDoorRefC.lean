/-
  The walk of kinref1.Kin.
-/
import Derived.Test.YtholhlibcofojabDoorRefB
namespace Go.Proofs.YtholhlibcofojabDoor
open Go.RowKit
set_option linter.unusedVariables false
set_option linter.unusedSimpArgs false

theorem info4 : (Tryd.prog.info? 4).map (fun i => (i.zero, i.size, i.bytes)) = some (some (.bool false), 1, 1) := by kernel_rfl
/-- The marks lie there, and are sound. -/
def KB (w : World) (L : List Kd) (a : Nm) (ja : Nat) (B : Nat → Bool) (wr : World) : Prop :=
  wr.rowIs w.heap.size 4 L.length (fun i => .bool (B i)) ∧ Below w.heap.size w wr ∧ B ja = true ∧ Snd L a B
/-- Around. -/
def KO (w : World) (L : List Kd) (a : Nm) (ja : Nat) (kx : Nat) (s6 : Value) (wr : World) : Prop :=
  ∃ (B : Nat → Bool) (ag : Bool), s6 = .bool ag ∧ KB w L a ja B wr ∧ (ag = false → Cls L B L.length) ∧ (if ag = true then 1 else 0) + 2 * cnt L.length B ≤ kx
/-- Either nothing was marked in this pass, or fewer are left. -/
def KE (L : List Kd) (B0 B : Nat → Bool) (ag : Bool) (X : Prop) : Prop := (ag = false ∧ B = B0 ∧ X) ∨ (ag = true ∧ cnt L.length B < cnt L.length B0)
/-- From one to the next. -/
def KP (w : World) (L : List Kd) (a : Nm) (ja : Nat) (B0 : Nat → Bool) (s6 s7 : Value) (wr : World) : Prop :=
  ∃ (B : Nat → Bool) (ag : Bool) (i : Nat), s6 = .bool ag ∧ s7 = .int .i64 i ∧ i ≤ L.length ∧ KB w L a ja B wr ∧ KE L B0 B ag (Cls L B i)
/-- Within one. -/
def KQ (w : World) (L : List Kd) (a : Nm) (ja : Nat) (B0 : Nat → Bool) (i : Nat) (kd : Kd) (s6 s8 : Value) (wr : World) : Prop :=
  ∃ (B : Nat → Bool) (ag : Bool) (m : Nat), s6 = .bool ag ∧ s8 = .int .i64 m ∧ m ≤ kd.of.length ∧ KB w L a ja B wr ∧ KE L B0 B ag (Cls L B i ∧ (B i = true → ClsAt L B kd m))
theorem ke_map {L : List Kd} {B0 B : Nat → Bool} {ag : Bool} {X Y : Prop} (h : KE L B0 B ag X) (f : X → Y) : KE L B0 B ag Y := by
  rcases h with ⟨h1, h2, h3⟩ | h
  · exact .inl ⟨h1, h2, f h3⟩
  · exact .inr h
theorem cls_next {L : List Kd} {B : Nat → Bool} {i : Nat} {kd : Kd} (hk : L[i]? = some kd) (h : Cls L B i) (h2 : B i = true → ClsAt L B kd kd.of.length) : Cls L B (i + 1) := by
  intro i' k hi hk' hB
  by_cases e : i' = i
  · subst e
    rw [hk] at hk'
    obtain rfl := Option.some.inj hk'
    exact h2 hB
  · exact h i' k (by omega) hk' hB
theorem clsAt_next {L : List Kd} {B : Nat → Bool} {kd x : Kd} {m j : Nat} {n : Nm} (hR : Right L) (h : ClsAt L B kd m) (hn : kd.of[m]? = some n) (hx : L[j]? = some x) (hxn : x.nm = n) (hB : B j = true) : ClsAt L B kd (m + 1) := by
  intro t n' ht hn' j' x' hx' hxn'
  by_cases e : t = m
  · subst e
    rw [hn] at hn'
    obtain rfl := Option.some.inj hn'
    have := right_names hR j' j x' x hx' hx (hxn'.trans hxn.symm)
    rw [this]; exact hB
  · exact h t n' (by omega) hn' j' x' hx' hxn'
theorem kb_mark {w wr : World} {L : List Kd} {a : Nm} {ja j : Nat} {B : Nat → Bool} (h : KB w L a ja B wr) (hs : Snd L a (mark B j)) : KB w L a ja (mark B j) (wr.setCell ⟨w.heap.size, j, none⟩ (.bool true)) := by
  obtain ⟨h1, h2, h3, h4⟩ := h
  refine ⟨(h1.set j (.bool true)).congr (fun i hi => ?_), h2.setCell (Nat.le_refl _) _, ?_, hs⟩
  · unfold mark; split <;> rfl
  · unfold mark; split
    · rfl
    · exact h3

set_option maxHeartbeats 16000000 in
set_option maxRecDepth 100000 in
theorem rkin_some (b off cap : Nat) (L : List Kd) (a : Nm) (ja : Nat) (q : Kd) (w : World) (hb : b < w.heap.size) (hL : LiesK w b off L) (hP : Parts w L) (hS : Small L) (hn : L.length ≤ 12) (hR : Right L) (hx : idxK a L 0 = (ja : Int)) (hq : L[ja]? = some q) (hqa : q.nm = a) :
    Calls Tryd.prog 14 #[.slice (some ⟨b, off, none⟩) L.length cap, .string (bs a)] w fun e w' => ∃ v, e = .returned v ∧ w'.ownsRow w.heap.size 9 1 v (nms (L.filter fun x => hasN (names L a) x.nm)).length (cellsS (nms (L.filter fun x => hasN (names L a) x.nm))) ∧ Below w.heap.size w w' := by
  obtain ⟨i0, hi0, hz0, hz1, hz2⟩ := info_parts info4
  obtain ⟨i9, hi9, hz90, hz91, hz92⟩ := info_parts info9
  have hjl := (List.getElem?_eq_some_iff.1 hq).1
  have HH : Hid (LiesK w b off L ∧ Parts w L ∧ Small L ∧ L.length ≤ 12 ∧ Right L ∧ L[ja]? = some q ∧ q.nm = a ∧ ja < L.length) := ⟨hL, hP, hS, hn, hR, hq, hqa, hjl⟩
  have HC : Hid (∀ W, Below w.heap.size w W → ∀ s, Calls Tryd.prog 13 #[.slice (some ⟨b, off, none⟩) L.length cap, .string (bs s)] W fun e w' => e = .returned (.int .i64 (idxK s L 0)) ∧ w' = W) := fun W h s => rkind_some b off cap L s W (hL.on hb h) hn
  have hbn : i0.bytes * L.length ≤ 281474976710656 := by rw [hz2]; omega
  have hlm : L.length ≤ 9223372036854775807 := by omega
  clear hL hP hS hR hq hqa
  go_enter Tryd.func14, Tryd.ntmps14
  go_wp2_with (refine wpList_make_row _ rfl (.tmp 13) (.tmp 13) 69 rfl 4 i0 (.bool false) Tryd.underlying69 hi0 hz0 hz1 rfl .i64 .i64 L.length rfl rfl hbn hlm ?_; refine Hid.out ?_)
  refine Lib.hid ?_
  have hrow := World.rowIs_made w (.bool false) L.length 4
  have hB0 : Below w.heap.size w (w.alloc (.cells (madeCells #[.bool false] L.length) 4)) := b_alloc (Below.refl _ _) (Nat.le_refl _) _
  obtain ⟨W0, hW0⟩ : ∃ W0, W0 = w.alloc (.cells (madeCells #[.bool false] L.length) 4) := ⟨_, rfl⟩
  rw [← hW0] at hrow hB0 ⊢
  have c1 := HC.out W0 hB0 a
  rw [hx] at c1
  have s0 := hrow.cell hjl
  have s1 := hrow.frozen ja
  have hs0 : w.heap.size < W0.heap.size := hrow.lt
  have HK0 : Hid (KB w L a ja (mark (fun _ => false) ja) (W0.setCell ⟨w.heap.size, ja, none⟩ (.bool true))) := by
    refine ⟨(hrow.set ja (.bool true)).congr (fun i hi => ?_), hB0.setCell (Nat.le_refl _) _, ?_, ?_⟩
    · unfold mark; split <;> rfl
    · unfold mark; simp
    · intro i k hk hB
      unfold mark at hB
      split at hB
      · rename_i e
        subst e
        have h1 := HH.out.2.2.2.2.2.1
        rw [h1] at hk
        obtain rfl := Option.some.inj hk
        rw [HH.out.2.2.2.2.2.2.1]
        exact names_self L a
      · cases hB
  clear hrow hx hW0
  go_wp2_with (go_at_call 13; refine c1.mono ?_; rintro e W1 ⟨rfl, rfl⟩)
  obtain ⟨W2, hW2⟩ : ∃ W2, W2 = W1.setCell ⟨w.heap.size, ja, none⟩ (.bool true) := ⟨_, rfl⟩
  rw [← hW2] at HK0 ⊢
  clear hW2 c1 s0 s1 hB0 hs0
  go_loopg [6] (2 * L.length + 1) (fun kx s6 wr => KO w L a ja kx s6 wr)
  case atStart =>
    refine ⟨_, true, rfl, HK0.out, fun h => (by cases h), ?_⟩
    have := cnt_le L.length (mark (fun _ => false) ja)
    simp
    omega
  case round =>
    obtain ⟨B0, ag, rfl, hKB, hcl, hkx⟩ := hrel
    cases ag with
    | true =>
      simp only [if_true] at hkx
      have HO : Hid (KB w L a ja B0 wr) := hKB
      clear hKB hcl HK0
      go_wp2
      go_loopw [6, 7] (fun s6 s7 wx => KP w L a ja B0 s6 s7 wx) (fun _ s7 _ => L.length - (intOf s7).toNat)
      case atStart => exact ⟨B0, false, 0, rfl, rfl, Nat.zero_le _, HO.out, .inl ⟨rfl, rfl, fun i' k h => absurd h (Nat.not_lt_zero _)⟩⟩
      case round =>
        obtain ⟨B, ag, i, rfl, rfl, hi, hKB, hKE⟩ := hrel
        by_cases hlt : i < L.length
        · obtain ⟨hL, hP, hS, hn', hR, _, _, _⟩ := HH.out
          obtain ⟨kd, hkd⟩ : ∃ kd, L[i]? = some kd := ⟨L[i], by simp [hlt]⟩
          obtain ⟨c0, c1, c2⟩ := hL i kd hkd
          have hkm : kd ∈ L := List.mem_of_getElem? hkd
          obtain ⟨ao, co, evo, hvo⟩ := isS_view (hP kd hkm).1
          rw [evo] at c1
          have h4 := (hS kd hkm).1
          have HI : Hid (L[i]? = some kd ∧ w.cell? ⟨b, off + i * 3 + 1, none⟩ = some (.slice ao kd.of.length co) ∧ (∀ j g, kd.of[j]? = some g → ∃ b o, ao = some ⟨b, o, none⟩ ∧ b < w.heap.size ∧ w.cell? ⟨b, o + j, none⟩ = some (.string (bs g))) ∧ kd.of.length ≤ 4) := ⟨hkd, c1, hvo, h4⟩
          have HQ0 : Hid (KQ w L a ja B0 i kd (.bool ag) (.int .i64 0) wr) := ⟨B, ag, 0, rfl, rfl, Nat.zero_le _, hKB, ke_map hKE (fun h => ⟨h, fun _ t n ht => absurd ht (Nat.not_lt_zero _)⟩)⟩
          clear hL hP hS hn' hR c0 c1 c2 hkd hkm evo hvo hKB hKE
          go_wp2
          go_loopw [6, 8] (fun s6 s8 wx => KQ w L a ja B0 i kd s6 s8 wx) (fun _ s8 _ => kd.of.length - (intOf s8).toNat)
          case atStart => exact HQ0.out
          case round =>
            obtain ⟨B, ag, m, rfl, rfl, hm, hKB, hKE⟩ := hrel
            have d1 := (hKB.2.1.cell (p := ⟨b, off + i * 3 + 1, none⟩) hb).trans HI.out.2.1
            have r0 := hKB.1.cell hlt
            have hsz : w.heap.size < wr.heap.size := hKB.1.lt
            by_cases hml : m < kd.of.length
            · cases hBi : B i with
              | true =>
                rw [hBi] at r0
                obtain ⟨nn, hnn⟩ : ∃ nn, kd.of[m]? = some nn := ⟨kd.of[m], by simp [hml]⟩
                obtain ⟨bo, oo, rfl, hbo, hco⟩ := HI.out.2.2.1 m nn hnn
                have d2 := (hKB.2.1.cell (p := ⟨bo, oo + m, none⟩) hbo).trans hco
                obtain ⟨y, hy, hyn⟩ := right_of HH.out.2.2.2.2.1 kd (by simpa using List.mem_of_getElem? HI.out.1) nn (List.mem_of_getElem? hnn)
                have hyL : y ∈ L := by simpa using hy
                have hidx : ¬ idxK nn L 0 = -1 := fun e => idxK_none e y hyL hyn
                obtain ⟨j, x, hj, hxj, hxn⟩ := idxK_has hidx
                have hjl := (List.getElem?_eq_some_iff.1 hxj).1
                have ck := HC.out wr hKB.2.1 nn
                rw [hj] at ck
                have q0 := hKB.1.cell hjl
                have q1 := hKB.1.frozen j
                cases hBj : B j with
                | true =>
                  rw [hBj] at q0
                  have R : KQ w L a ja B0 i kd (.bool ag) (.int .i64 ((m + 1 : Nat) : Int)) wr := ⟨B, ag, m + 1, rfl, rfl, by omega, hKB, ke_map hKE (fun h => ⟨h.1, fun hb' => clsAt_next HH.out.2.2.2.2.1 (h.2 hb') hnn hxj hxn hBj⟩)⟩
                  have HR : Hid (KQ w L a ja B0 i kd (.bool ag) (.int .i64 ((m + 1 : Nat) : Int)) wr) := R
                  have hj12 : j < 12 := by omega
                  clear R hKB hKE hy hyn hyL hidx hj hxj hxn hnn hbo hco hBi hBj
                  go_wp2_with (go_at_call 13; refine ck.mono ?_; rintro e Wq ⟨rfl, rfl⟩)
                  refine ⟨?_, ?_⟩
                  · first | exact HR.out | ((repeat apply Exists.intro); refine ⟨?_, rfl⟩; exact HR.out)
                  · simp [intOf]
                    try omega
                | false =>
                  rw [hBj] at q0
                  have hcm := cnt_mark hjl hBj
                  have R : KQ w L a ja B0 i kd (.bool true) (.int .i64 ((m + 1 : Nat) : Int)) (wr.setCell ⟨w.heap.size, j, none⟩ (.bool true)) := by
                    refine ⟨mark B j, true, m + 1, rfl, rfl, by omega, kb_mark hKB (snd_mark HH.out.2.2.2.2.1 hKB.2.2.2 HI.out.1 hBi (List.mem_of_getElem? hnn) hxj hxn), .inr ⟨rfl, ?_⟩⟩
                    rcases hKE with ⟨_, e, _⟩ | ⟨_, e⟩
                    · rw [e] at hcm ⊢; exact hcm
                    · omega
                  have HR : Hid (KQ w L a ja B0 i kd (.bool true) (.int .i64 ((m + 1 : Nat) : Int)) (wr.setCell ⟨w.heap.size, j, none⟩ (.bool true))) := R
                  have hj12 : j < 12 := by omega
                  clear R hKB hKE hy hyn hyL hidx hj hxj hxn hnn hbo hco hBi hBj hcm
                  go_wp2_with (go_at_call 13; refine ck.mono ?_; rintro e Wq ⟨rfl, rfl⟩)
                  refine ⟨?_, ?_⟩
                  · first | exact HR.out | ((repeat apply Exists.intro); refine ⟨?_, rfl⟩; exact HR.out)
                  · simp [intOf]
                    try omega
              | false =>
                rw [hBi] at r0
                have R : KP w L a ja B0 (.bool ag) (.int .i64 ((i + 1 : Nat) : Int)) wr := ⟨B, ag, i + 1, rfl, rfl, by omega, hKB, ke_map hKE (fun h => cls_next HI.out.1 h.1 (fun hb' => by rw [hBi] at hb'; cases hb'))⟩
                have HR : Hid (KP w L a ja B0 (.bool ag) (.int .i64 ((i + 1 : Nat) : Int)) wr) := R
                clear R hKB hKE hBi
                go_wp2
                refine ⟨?_, ?_⟩
                · first | exact HR.out | ((repeat apply Exists.intro); refine ⟨?_, rfl⟩; exact HR.out)
                · simp [intOf]
                  try omega
            · have hme : m = kd.of.length := by omega
              have R : KP w L a ja B0 (.bool ag) (.int .i64 ((i + 1 : Nat) : Int)) wr := ⟨B, ag, i + 1, rfl, rfl, by omega, hKB, ke_map hKE (fun h => cls_next HI.out.1 h.1 (by rw [← hme]; exact h.2))⟩
              have HR : Hid (KP w L a ja B0 (.bool ag) (.int .i64 ((i + 1 : Nat) : Int)) wr) := R
              clear R hKB hKE hme
              go_wp2
              refine ⟨?_, ?_⟩
              · first | exact HR.out | ((repeat apply Exists.intro); refine ⟨?_, rfl⟩; exact HR.out)
              · simp [intOf]
                try omega
        · have hie : i = L.length := by omega
          subst hie
          rcases hKE with ⟨rfl, rfl, hC⟩ | ⟨rfl, hlt2⟩
          · have R : KO w L a ja (2 * cnt L.length B) (.bool false) wr := ⟨B, false, rfl, hKB, fun _ => hC, by simp⟩
            have HR : Hid (KO w L a ja (2 * cnt L.length B) (.bool false) wr) := R
            clear R hKB hC
            go_wp2
            go_roundg (2 * cnt L.length B)
            case measure => omega
            case rel => exact HR.out
          · have R : KO w L a ja (1 + 2 * cnt L.length B) (.bool true) wr := ⟨B, true, rfl, hKB, fun h => (by cases h), by simp⟩
            have HR : Hid (KO w L a ja (1 + 2 * cnt L.length B) (.bool true) wr) := R
            clear R hKB
            go_wp2
            go_roundg (1 + 2 * cnt L.length B)
            case measure => omega
            case rel => exact HR.out
    | false =>
      have hdone := marks_done HH.out.2.2.2.2.1 hKB.2.2.2 (hcl rfl) HH.out.2.2.2.2.2.1 HH.out.2.2.2.2.2.2.1 hKB.2.2.1
      have HO : Hid (wr.rowIs w.heap.size 4 L.length (fun i => .bool (B0 i)) ∧ Below w.heap.size w wr ∧ ∀ i k, L[i]? = some k → B0 i = hasN (names L a) k.nm) := ⟨hKB.1, hKB.2.1, hdone⟩
      clear hKB hcl hkx hdone HK0
      go_wp2
      go_loopw [10, 11] (fun s10 s11 wx => ∃ k : Nat, k ≤ L.length ∧ s11 = .int .i64 k ∧ wx.ownsRow (w.heap.size + 1) 9 1 s10 (nms ((L.take k).filter fun x => hasN (names L a) x.nm)).length (cellsS (nms ((L.take k).filter fun x => hasN (names L a) x.nm))) ∧ wx.rowIs w.heap.size 4 L.length (fun i => .bool (B0 i)) ∧ Below w.heap.size w wx) (fun _ s11 _ => L.length - (intOf s11).toNat)
      case atStart => exact ⟨0, Nat.zero_le _, rfl, World.ownsRow_nil _ _ _ _, HO.out.1, HO.out.2.1⟩
      case round =>
        obtain ⟨k, hk, rfl, hown, hrow, hB⟩ := hrel
        by_cases hlt : k < L.length
        · obtain ⟨p, hp⟩ : ∃ p, L[k]? = some p := ⟨L[k], by simp [hlt]⟩
          obtain ⟨c0, _, _⟩ := HH.out.1 k p hp
          have d0 := (hB.cell (p := ⟨b, off + k * 3, none⟩) hb).trans c0
          have r0 := hrow.cell hlt
          have hsz : w.heap.size < wr.heap.size := hrow.lt
          have hBk := HO.out.2.2 k p hp
          have htk := takeK hp
          obtain ⟨F, hF⟩ : ∃ F, F = nms ((L.take k).filter fun x => hasN (names L a) x.nm) := ⟨_, rfl⟩
          have hFl : F.length ≤ 12 := by
            rw [hF]; unfold nms
            have h1 := List.length_filter_le (fun x => hasN (names L a) x.nm) (L.take k)
            simp at h1 ⊢
            omega
          rw [← hF] at hown
          cases hN : hasN (names L a) p.nm with
          | false =>
            rw [hBk, hN] at r0
            have HR : Hid (wr.ownsRow (w.heap.size + 1) 9 1 u10 (nms ((L.take (k + 1)).filter fun x => hasN (names L a) x.nm)).length (cellsS (nms ((L.take (k + 1)).filter fun x => hasN (names L a) x.nm))) ∧ wr.rowIs w.heap.size 4 L.length (fun i => .bool (B0 i)) ∧ Below w.heap.size w wr) := by
              refine ⟨?_, hrow, hB⟩
              have e : nms ((L.take (k + 1)).filter fun x => hasN (names L a) x.nm) = F := by rw [htk, hF]; simp [nms, List.filter_append, hN]
              rw [e]; exact hown
            clear hown hrow hB hF hFl htk hBk hN c0 hp
            go_wp2
            go_roundw
            case rel => exact ⟨k + 1, by omega, by go_num, HR.out.1, HR.out.2.1, HR.out.2.2⟩
            case measure => simp [intOf]; omega
          | true =>
            rw [hBk, hN] at r0
            have hBa : Below w.heap.size w (wr.alloc (.cells #[.string (bs p.nm)] 9)) := b_alloc hB (Nat.le_refl _) _
            have HA : Hid ((wr.alloc (.cells #[.string (bs p.nm)] 9)).ownsRow (w.heap.size + 1) 9 1 u10 F.length (cellsS F) ∧ (wr.alloc (.cells #[.string (bs p.nm)] 9)).rowIs w.heap.size 4 L.length (fun i => .bool (B0 i)) ∧ Below w.heap.size w (wr.alloc (.cells #[.string (bs p.nm)] 9))) := ⟨hown.alloc _, hrow.alloc _, hBa⟩
            have HE : Hid (nms ((L.take (k + 1)).filter fun x => hasN (names L a) x.nm) = F ++ [p.nm]) := by
              show _ = _
              rw [htk, hF]; simp [nms, List.filter_append, hN]
            have HM : Hid (F.length + 1 ≤ maxLen ∧ (F.length + 1) * 16 ≤ 140737488355328) := by unfold maxLen; exact ⟨by omega, by omega⟩
            have hbs : w.heap.size + 1 ≤ (wr.alloc (.cells #[.string (bs p.nm)] 9)).heap.size := by simp; omega
            clear hown hrow hB hF hFl htk hBk hN c0 hp hBa
            go_wp2_with (at_builtin; refine wpList_append_own _ rfl (.tmp 71) (.tmp 77) 44 rfl (w.heap.size + 1) 9 i9 _ 1 16 Tryd.underlying44 hi9 hz90 hz91 hz92 rfl (by decide) u10 F.length (cellsS F) rfl HA.out.1 ⟨wr.heap.size, 0, none⟩ 1 1 [.string (bs p.nm)] rfl rfl (new_at _ _ _) (by simp [Value.oneCell']) HM.out.1 HM.out.2 hbs ?_; intro v1 w1 hown1 hgrow1 _; refine Hid.out ?_)
            refine Lib.hid ?_
            have HR : Hid (w1.ownsRow (w.heap.size + 1) 9 1 v1 (nms ((L.take (k + 1)).filter fun x => hasN (names L a) x.nm)).length (cellsS (nms ((L.take (k + 1)).filter fun x => hasN (names L a) x.nm))) ∧ w1.rowIs w.heap.size 4 L.length (fun i => .bool (B0 i)) ∧ Below w.heap.size w w1) := by
              refine ⟨?_, HA.out.2.1.of_block (hgrow1.block _ HA.out.2.1.lt (fun e => ?_)), HA.out.2.2.grown hgrow1 HA.out.2.2.size (fun k hk => ?_)⟩
              · rw [HE.out, List.length_append, cellsS_app]; exact hown1
              · have := (HA.out.1.lt _ e.symm).1; omega
              · have := (HA.out.1.lt k hk).1; omega
            clear hown1
            go_wp2
            go_roundw
            case rel => exact ⟨k + 1, by omega, by go_num, HR.out.1, HR.out.2.1, HR.out.2.2⟩
            case measure => simp [intOf]; omega
        · have hke : L.take k = L := List.take_of_length_le (by omega)
          rw [hke] at hown
          have HR : Hid (wr.ownsRow (w.heap.size + 1) 9 1 u10 (nms (L.filter fun x => hasN (names L a) x.nm)).length (cellsS (nms (L.filter fun x => hasN (names L a) x.nm))) ∧ Below w.heap.size w wr) := ⟨hown, hB⟩
          clear hown hrow hB hke
          go_wp2
          go_ret
          exact ⟨_, rfl, own_base HR.out.1 (Nat.le_succ _), HR.out.2⟩
end Go.Proofs.YtholhlibcofojabDoor
