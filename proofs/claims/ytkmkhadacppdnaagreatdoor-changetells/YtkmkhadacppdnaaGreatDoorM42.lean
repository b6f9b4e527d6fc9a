/-
  kinref2.Under, kinref2.Kinds; change.Kinds.
-/
import Derived.Test.YtkmkhadacppdnaaGreatDoorM40
import Derived.Test.YtkmkhadacppdnaaGreatDoorM08
import Derived.Test.YtkmkhadacppdnaaGreatDoorM41
namespace Go.Proofs.YtkmkhadacppdnaaGreatDoor
open Go.RowKit
set_option linter.unusedVariables false
set_option linter.unusedSimpArgs false

theorem under_filter {L : List Kd} (hR : Right L) (s : Nm) : under L s = nms (L.filter fun x => hasN (nms (kinF L x.nm)) s) := by
  have gen : ∀ m, m ≤ L.length → unds L s (List.range m) = nms ((L.take m).filter fun x => hasN (nms (kinF L x.nm)) s) := by
    intro m
    induction m with
    | zero => intro _; rfl
    | succ m ih =>
      intro hm
      obtain ⟨k, hk⟩ : ∃ k, L[m]? = some k := ⟨L[m], by simp⟩
      rw [List.range_succ, unds_app, ih (by omega), takeK hk, List.filter_append]
      have e : kinOf (L.take (m + 1)) = kinF L k.nm := kinOf_at hR hk
      unfold nms
      rw [List.map_append]
      congr 1
      simp only [unds, hk]
      rw [e]
      by_cases hx : idxK s (kinF L k.nm) 0 = -1
      · have : ¬ hasN (nms (kinF L k.nm)) s = true := fun h => hasN_nms.1 h hx
        have h2 : hasN (nms (kinF L k.nm)) s = false := by simpa using this
        rw [if_pos hx]
        unfold nms at h2
        simp [List.filter_cons, h2]
      · have h2 := hasN_nms.2 hx
        rw [if_neg hx]
        unfold nms at h2
        simp [List.filter_cons, h2]
  unfold under
  rw [gen L.length (Nat.le_refl _), List.take_length]
set_option maxHeartbeats 4000000 in
set_option maxRecDepth 100000 in
theorem runder_some (b off cap : Nat) (L : List Kd) (s : Nm) (w : World) (hb : b < w.heap.size) (hL : LiesK w b off L) (hP : Parts w L) (hS : Small L) (hn : L.length ≤ 12) (hR : Right L) :
    Calls Tryz.prog 24 #[.slice (some ⟨b, off, none⟩) L.length cap, .string (bs s)] w fun e w' => ∃ v, e = .returned v ∧ w'.ownsRow w.heap.size 9 1 v (under L s).length (cellsS (under L s)) ∧ Below w.heap.size w w' := by
  obtain ⟨i9, hi9, hz90, hz91, hz92⟩ := info_parts info9
  have HH : Hid (LiesK w b off L ∧ Parts w L ∧ Small L ∧ L.length ≤ 12 ∧ Right L) := ⟨hL, hP, hS, hn, hR⟩
  rw [under_filter hR s]
  obtain ⟨p, hp⟩ : ∃ p : Kd → Bool, p = fun x => hasN (nms (kinF L x.nm)) s := ⟨_, rfl⟩
  rw [← hp]
  have HC : Hid (∀ (W : World), Below w.heap.size w W → ∀ (i : Nat) (q : Kd), L[i]? = some q → Calls Tryz.prog 31 #[.slice (some ⟨b, off, none⟩) L.length cap, .string (bs q.nm), .string (bs s)] W fun e w' => e = .returned (.bool (p q)) ∧ Below W.heap.size W w') := by
    intro W h i q hq
    rw [hp]
    exact ris_some b off cap L i q s W (Nat.lt_of_lt_of_le hb h.size) (hL.on hb h) (hP.on h) hS hn hR hq
  clear hL hP hS hR hp
  go_enter Tryz.func24, Tryz.ntmps24
  go_wp2
  go_loopw [5, 6] (fun s5 s6 wr => ∃ k : Nat, k ≤ L.length ∧ s6 = .int .i64 k ∧ wr.ownsRow w.heap.size 9 1 s5 (nms ((L.take k).filter p)).length (cellsS (nms ((L.take k).filter p))) ∧ Below w.heap.size w wr) (fun _ s6 _ => L.length - (intOf s6).toNat)
  case atStart => exact ⟨0, Nat.zero_le _, rfl, World.ownsRow_nil _ _ _ _, Below.refl _ _⟩
  case round =>
    obtain ⟨k, hk, rfl, hown, hB⟩ := hrel
    by_cases hlt : k < L.length
    · obtain ⟨x, hx⟩ : ∃ x, L[k]? = some x := ⟨L[k], by simp [hlt]⟩
      obtain ⟨c0, _, _⟩ := HH.out.1 k x hx
      have d0 := (hB.cell (p := ⟨b, off + k * 3, none⟩) hb).trans c0
      have hbr : b < wr.heap.size := Nat.lt_of_lt_of_le hb hB.size
      have ci := HC.out wr hB k x hx
      have htk := takeK hx
      obtain ⟨F, hF⟩ : ∃ F, F = nms ((L.take k).filter p) := ⟨_, rfl⟩
      have hFl : F.length ≤ 12 := by
        rw [hF]; unfold nms
        have h1 := List.length_filter_le p (L.take k)
        simp at h1 ⊢
        omega
      rw [← hF] at hown
      have HO : Hid (wr.ownsRow w.heap.size 9 1 u5 F.length (cellsS F) ∧ Below w.heap.size w wr) := ⟨hown, hB⟩
      cases hN : p x with
      | false =>
        rw [hN] at ci
        have HE : Hid (nms ((L.take (k + 1)).filter p) = F) := by
          show _ = _
          rw [htk, hF]; simp [nms, List.filter_append, hN]
        clear hown hB hF hFl htk hN c0 hx
        go_wp2_with (go_at_call 31; refine ci.mono ?_; rintro e W1 ⟨rfl, hB1⟩)
        go_roundw
        case rel => exact ⟨k + 1, by omega, by go_num, by rw [HE.out]; exact own_below HO.out.1 hB1, on1K HO.out.2 hB1 (Nat.le_refl _)⟩
        case measure => simp [intOf]; omega
      | true =>
        rw [hN] at ci
        have HE : Hid (nms ((L.take (k + 1)).filter p) = F ++ [x.nm]) := by
          show _ = _
          rw [htk, hF]; simp [nms, List.filter_append, hN]
        have HM : Hid (F.length + 1 ≤ maxLen ∧ (F.length + 1) * 16 ≤ 140737488355328) := by unfold maxLen; exact ⟨by omega, by omega⟩
        clear hown hB hF hFl htk hN c0 hx
        go_wp2_with (go_at_call 31; refine ci.mono ?_; rintro e W1 ⟨rfl, hB1⟩; refine Hid.out ?_)
        refine Lib.hid ?_
        have d1 := (hB1.cell (p := ⟨b, off + k * 3, none⟩) hbr).trans d0
        have HA : Hid ((W1.alloc (.cells #[.string (bs x.nm)] 9)).ownsRow w.heap.size 9 1 u5 F.length (cellsS F) ∧ Below w.heap.size w (W1.alloc (.cells #[.string (bs x.nm)] 9))) := ⟨(own_below HO.out.1 hB1).alloc _, b_allocK (on1K HO.out.2 hB1 (Nat.le_refl _)) (Nat.le_refl _) _⟩
        clear ci d0
        go_wp2_with (at_builtin; refine wpList_append_own _ rfl (.tmp 23) (.tmp 29) 26 rfl w.heap.size 9 i9 _ 1 16 Tryz.underlying26 hi9 hz90 hz91 hz92 rfl (by decide) u5 F.length (cellsS F) rfl HA.out.1 ⟨W1.heap.size, 0, none⟩ 1 1 [.string (bs x.nm)] rfl rfl (new_at _ _ _) (by simp [Value.oneCell']) HM.out.1 HM.out.2 HA.out.2.size ?_; intro v1 w1 hown1 hgrow1 _; refine Hid.out ?_)
        refine Lib.hid ?_
        have HR : Hid (w1.ownsRow w.heap.size 9 1 v1 (nms ((L.take (k + 1)).filter p)).length (cellsS (nms ((L.take (k + 1)).filter p))) ∧ Below w.heap.size w w1) := by
          refine ⟨?_, HA.out.2.grown hgrow1 HA.out.2.size (fun k hk => (HA.out.1.lt k hk).1)⟩
          rw [HE.out, List.length_append, cellsS_app]; exact hown1
        clear hown1
        go_wp2
        go_roundw
        case rel => exact ⟨k + 1, by omega, by go_num, HR.out.1, HR.out.2⟩
        case measure => simp [intOf]; omega
    · have hke : L.take k = L := List.take_of_length_le (by omega)
      rw [hke] at hown
      have HR : Hid (wr.ownsRow w.heap.size 9 1 u5 (nms (L.filter p)).length (cellsS (nms (L.filter p))) ∧ Below w.heap.size w wr) := ⟨hown, hB⟩
      clear hown hB hke
      go_wp2
      go_ret
      exact ⟨_, rfl, HR.out.1, HR.out.2⟩

/-- The kinds that a change reaches. -/
def kdsA (L : List Kd) (c : Ch) : List Nm := if c.wh = 3 ∨ c.wh = 4 ∨ c.wh = 7 then under L c.nm else []
theorem isS_none (w : World) : IsS w (.slice none 0 0) [] := own_isS (World.ownsRow_nil w 0 9 1)
theorem cE_has {L : List Kd} {B : List Bd} {c : Ch} (h : apE L B c = 0) (hw : c.wh = 3 ∨ c.wh = 4 ∨ c.wh = 7) : ¬ idxK c.nm L 0 = -1 := by
  intro hx
  have h0 : cE L B c = 0 := by
    unfold apE at h
    split at h
    · assumption
    · exact h
  rcases hw with hw | hw | hw
  · simp [cE, hw, e3, hx] at h0
  · simp [cE, hw, e4, hx] at h0
  · simp [cE, hw, e7, e4, hx] at h0
theorem under_le (L : List Kd) (a : Nm) : (under L a).length ≤ L.length := by
  have := unds_len L a (List.range L.length)
  simpa [under] using this
theorem kdsA_le (L : List Kd) (c : Ch) : (kdsA L c).length ≤ L.length := by
  unfold kdsA
  split
  · exact under_le L c.nm
  · simp
theorem isK_at {w : World} {a1 : Option Addr} {n c1 : Nat} {L : List Kd} (hK : IsK w (.slice a1 n c1) L) (h : ¬ L = []) : ∃ b off, a1 = some ⟨b, off, none⟩ ∧ n = L.length ∧ b < w.heap.size ∧ LiesK w b off L := by
  rcases hK with ⟨_, h0⟩ | ⟨b, off, cap, e', _, _, hb, hl⟩
  · exact absurd h0 h
  · injection e' with e1 e2 e3
    exact ⟨b, off, e1, e2, hb, hl⟩
set_option maxHeartbeats 4000000 in
set_option maxRecDepth 100000 in
theorem rkd_any {w : World} {vk vb : Value} {L : List Kd} {B : List Bd} (c : Ch) (hK : IsK w vk L) (hP : Parts w L) (hb : IsB w vb B) (hs : (sErr L B).2 = 0) (hc : ChIs w c) (hx : c.wh = 3 ∨ c.wh = 4 ∨ c.wh = 7 → ¬ idxK c.nm L 0 = -1) :
    Calls Tryz.prog 9 #[.agg #[vk, vb], c.one] w fun e w' => ∃ v, e = .returned v ∧ IsS w' v (kdsA L c) ∧ Below w.heap.size w w' := by
  obtain ⟨hG, hn, hnb⟩ := good_of hs
  obtain ⟨wh, nm, ⟨kn, ko, kf, vo, vf⟩, ⟨bn, bf, bt, mn, mx⟩, ⟨fn, ft, fm, fk⟩, vt, vn, vs, tn⟩ := c
  obtain ⟨a1, c1, rfl, _⟩ := hK.sln
  obtain ⟨a2, c2, rfl, _⟩ := hb.sln
  obtain ⟨ao, lo1, co, q1⟩ := hc.1.sl
  obtain ⟨af, lf1, cf, q2⟩ := hc.2.sl
  simp only at q1 q2 hx hc ⊢
  subst q1 q2
  obtain ⟨W0, hW0⟩ : ∃ W0, W0 = (w.alloc (.cells #[.slice a1 L.length c1, .slice a2 B.length c2] 25)).alloc (.cells #[.int .i64 wh, .string (bs nm), .string (bs kn), .slice ao lo1 co, .slice af lf1 cf, .string (bs bn), .string (bs bf), .string (bs bt), .int .i64 mn, .int .i64 mx, .string (bs fn), .int .i64 ft, .bool fm, .bool fk, .int .i64 vt, .int .i64 vn, .string (bs vs), .string (bs tn)] 37) := ⟨_, rfl⟩
  have hB0 : Below w.heap.size w W0 := by rw [hW0]; exact b_alloc (b_alloc (Below.refl _ _) _) _
  have n0 : W0.heap[w.heap.size]? = some (.cells #[.slice a1 L.length c1, .slice a2 B.length c2] 25 (0, 0)) := by rw [hW0]; exact (heap_alloc_old _ _ (by simp)).trans (heap_alloc_new w _)
  have n1 : W0.heap[w.heap.size + 1]? = some (.cells #[.int .i64 wh, .string (bs nm), .string (bs kn), .slice ao lo1 co, .slice af lf1 cf, .string (bs bn), .string (bs bf), .string (bs bt), .int .i64 mn, .int .i64 mx, .string (bs fn), .int .i64 ft, .bool fm, .bool fk, .int .i64 vt, .int .i64 vn, .string (bs vs), .string (bs tn)] 37 (0, 0)) := by
    have := heap_alloc_new (w.alloc (.cells #[.slice a1 L.length c1, .slice a2 B.length c2] 25)) (.cells #[.int .i64 wh, .string (bs nm), .string (bs kn), .slice ao lo1 co, .slice af lf1 cf, .string (bs bn), .string (bs bf), .string (bs bt), .int .i64 mn, .int .i64 mx, .string (bs fn), .int .i64 ft, .bool fm, .bool fk, .int .i64 vt, .int .i64 vn, .string (bs vs), .string (bs tn)] 37)
    rw [World.size_alloc] at this; rw [hW0]; exact this
  have s0 : W0.cell? ⟨w.heap.size, 0, none⟩ = some (.slice a1 L.length c1) := cell_at n0 rfl
  have k0 : W0.cell? ⟨w.heap.size + 1, 0, none⟩ = some (.int .i64 wh) := cell_at n1 rfl
  have k1 : W0.cell? ⟨w.heap.size + 1, 1, none⟩ = some (.string (bs nm)) := cell_at n1 rfl
  have HB := Lib.hid hB0
  by_cases hw : wh = 3 ∨ wh = 4 ∨ wh = 7
  · rw [show kdsA L ⟨wh, nm, ⟨kn, ko, kf, .slice ao lo1 co, .slice af lf1 cf⟩, ⟨bn, bf, bt, mn, mx⟩, ⟨fn, ft, fm, fk⟩, vt, vn, vs, tn⟩ = under L nm from if_pos hw]
    have hne : ¬ L = [] := fun e => hx hw (by rw [e]; rfl)
    obtain ⟨b, off, rfl, _, hb', hl⟩ := isK_at hK hne
    have cU := runder_some b off c1 L nm W0 (Nat.lt_of_lt_of_le hb' hB0.size) (hl.on hb' hB0) (hP.on hB0) hG.small hn hG.right
    clear hK hP hb hs hc hx hG hn hnb n0 n1 hB0 hne hb' hl
    rcases hw with rfl | rfl | rfl
    all_goals
      go_enter Tryz.func9, Tryz.ntmps9
      go_upto_region 1 with fail
      rw [← hW0]
      clear hW0
      go_wp2_with (go_at_call 24; refine cU.mono ?_; rintro e W1 ⟨v, rfl, ho, hB1⟩; have HO : Hid (_ ∧ _) := ⟨ho, hB1⟩; clear ho hB1)
      go_ret
      exact ⟨_, rfl, own_isS HO.out.1, on1K HB.out HO.out.2 (Nat.le_refl _)⟩
  · rw [show kdsA L ⟨wh, nm, ⟨kn, ko, kf, .slice ao lo1 co, .slice af lf1 cf⟩, ⟨bn, bf, bt, mn, mx⟩, ⟨fn, ft, fm, fk⟩, vt, vn, vs, tn⟩ = [] from if_neg hw]
    have h3 : ¬ wh = 3 := fun e => hw (.inl e)
    have h4 : ¬ wh = 4 := fun e => hw (.inr (.inl e))
    have h7 : ¬ wh = 7 := fun e => hw (.inr (.inr e))
    have b3 : (wh == 3) = false := by simpa using h3
    have b4 : (wh == 4) = false := by simpa using h4
    have b7 : (wh == 7) = false := by simpa using h7
    clear hK hP hb hs hc hx hG hn hnb n0 n1 hB0 hw
    go_enter Tryz.func9, Tryz.ntmps9
    go_upto_region 1 with fail
    rw [← hW0]
    clear hW0
    go_wp2
    first
      | (go_ret; exact ⟨_, rfl, isS_none _, HB.out⟩)
      | (refine bodyPost_ret (v := .slice none 0 0) ?_ rfl ?_
         · simp [results, Tryz.results9, go_sem]
         · exact ⟨_, rfl, isS_none _, HB.out⟩)
      | (trace_state; fail)
theorem one_err (L : List Kd) (B : List Bd) (c : Ch) : (allA L B [c]).1 = doE L B c := by
  rw [allA_one]
  unfold doE
  split
  · split
    · rename_i h; exact h.symm
    · rfl
  · rfl
theorem info25u : (Tryz.prog.info? 25).map (fun i => i.size) = some 2 := by kernel_rfl
set_option maxHeartbeats 4000000 in
set_option maxRecDepth 100000 in
theorem ckinds_any {w : World} {vk vb : Value} {L : List Kd} {B : List Bd} (c : Ch) (hK : IsK w vk L) (hP : Parts w L) (hz : SzK L) (hb : IsB w vb B) (hzb : SzB B) (hc : ChIs w c) (hcz : ChSz c) :
    Calls Tryz.prog 10 #[.agg #[vk, vb], c.one] w fun e w' => ∃ v, e = .returned (.tuple #[v, errV (doE L B c)]) ∧ IsS w' v (if doE L B c = 0 then kdsA L c else []) ∧ Below w.heap.size w w' := by
  have hd : ∀ W, Below w.heap.size w W → Calls Tryz.prog 6 #[.agg #[vk, vb], c.one] W fun e w' => ∃ uk ub, e = .returned (.tuple #[.agg #[uk, ub], errV (doE L B c)]) ∧ uk.oneCell' = true ∧ ub.oneCell' = true ∧ Below W.heap.size W w' := fun W h => (do_any c (hK.on h) (hP.on h) hz (hb.on h) hzb (hc.on h) hcz).mono (by
    rintro e w' ⟨uk, ub, M, he, h1, h2, h3, h4⟩
    rw [one_err] at he
    refine ⟨uk, ub, he, ?_, ?_, h4⟩
    · obtain ⟨a, c, e⟩ := own_slice h2.1; rw [e]; rfl
    · obtain ⟨a, c, e⟩ := own_slice h3; rw [e]; rfl)
  have hne : doE L B c = 0 → (c.wh = 3 ∨ c.wh = 4 ∨ c.wh = 7) → nmErr L c.nm = 0 := fun h hw => by
    have h1 : (sErr L B).2 = 0 := by
      unfold doE at h
      split at h
      · assumption
      · exact h
    have h2 : apE L B c = 0 := by unfold doE at h; rw [if_pos h1] at h; exact h
    unfold nmErr
    rw [if_pos (sErr_good.1 h1).1, if_neg (cE_has h2 hw)]
  have hu : ∀ W, Below w.heap.size w W → Calls Tryz.prog 25 #[vk, .string (bs c.nm)] W (UPost W L c.nm) := fun W h => under_any (hK.on h) (hP.on h) hz c.nm
  obtain ⟨wh, nm, ⟨kn, ko, kf, vo, vf⟩, ⟨bn, bf, bt, mn, mx⟩, ⟨fn, ft, fm, fk⟩, vt, vn, vs, tn⟩ := c
  obtain ⟨a1, c1, rfl, _⟩ := hK.sln
  obtain ⟨a2, c2, rfl, _⟩ := hb.sln
  obtain ⟨ao, lo1, co, q1⟩ := hc.1.sl
  obtain ⟨af, lf1, cf, q2⟩ := hc.2.sl
  simp only at q1 q2 hc hcz hne hu ⊢
  subst q1 q2
  obtain ⟨W0, hW0⟩ : ∃ W0, W0 = (w.alloc (.cells #[.slice a1 L.length c1, .slice a2 B.length c2] 25)).alloc (.cells #[.int .i64 wh, .string (bs nm), .string (bs kn), .slice ao lo1 co, .slice af lf1 cf, .string (bs bn), .string (bs bf), .string (bs bt), .int .i64 mn, .int .i64 mx, .string (bs fn), .int .i64 ft, .bool fm, .bool fk, .int .i64 vt, .int .i64 vn, .string (bs vs), .string (bs tn)] 37) := ⟨_, rfl⟩
  have hB0 : Below w.heap.size w W0 := by rw [hW0]; exact b_alloc (b_alloc (Below.refl _ _) _) _
  have n0 : W0.heap[w.heap.size]? = some (.cells #[.slice a1 L.length c1, .slice a2 B.length c2] 25 (0, 0)) := by rw [hW0]; exact (heap_alloc_old _ _ (by simp)).trans (heap_alloc_new w _)
  have n1 : W0.heap[w.heap.size + 1]? = some (.cells #[.int .i64 wh, .string (bs nm), .string (bs kn), .slice ao lo1 co, .slice af lf1 cf, .string (bs bn), .string (bs bf), .string (bs bt), .int .i64 mn, .int .i64 mx, .string (bs fn), .int .i64 ft, .bool fm, .bool fk, .int .i64 vt, .int .i64 vn, .string (bs vs), .string (bs tn)] 37 (0, 0)) := by
    have := heap_alloc_new (w.alloc (.cells #[.slice a1 L.length c1, .slice a2 B.length c2] 25)) (.cells #[.int .i64 wh, .string (bs nm), .string (bs kn), .slice ao lo1 co, .slice af lf1 cf, .string (bs bn), .string (bs bf), .string (bs bt), .int .i64 mn, .int .i64 mx, .string (bs fn), .int .i64 ft, .bool fm, .bool fk, .int .i64 vt, .int .i64 vn, .string (bs vs), .string (bs tn)] 37)
    rw [World.size_alloc] at this; rw [hW0]; exact this
  rw [show (⟨wh, nm, ⟨kn, ko, kf, .slice ao lo1 co, .slice af lf1 cf⟩, ⟨bn, bf, bt, mn, mx⟩, ⟨fn, ft, fm, fk⟩, vt, vn, vs, tn⟩ : Ch).one = .agg #[.int .i64 wh, .string (bs nm), .string (bs kn), .slice ao lo1 co, .slice af lf1 cf, .string (bs bn), .string (bs bf), .string (bs bt), .int .i64 mn, .int .i64 mx, .string (bs fn), .int .i64 ft, .bool fm, .bool fk, .int .i64 vt, .int .i64 vn, .string (bs vs), .string (bs tn)] from rfl] at hd
  generalize hE : doE L B ⟨wh, nm, ⟨kn, ko, kf, .slice ao lo1 co, .slice af lf1 cf⟩, ⟨bn, bf, bt, mn, mx⟩, ⟨fn, ft, fm, fk⟩, vt, vn, vs, tn⟩ = E at hd hne ⊢
  generalize hKd : kdsA L ⟨wh, nm, ⟨kn, ko, kf, .slice ao lo1 co, .slice af lf1 cf⟩, ⟨bn, bf, bt, mn, mx⟩, ⟨fn, ft, fm, fk⟩, vt, vn, vs, tn⟩ = F
  generalize hF2 : (if E = 0 then F else []) = F2
  have HF2 := Lib.hid hF2
  have cD := hd W0 hB0
  have HN : Hid (∀ W1 W2, Below W0.heap.size W0 W1 → Below W1.heap.size W1 W2 → Below w.heap.size w W2) := fun W1 W2 h1 h2 => on1K (on1K hB0 h1 (Nat.le_refl _)) h2 (Nat.le_refl _)
  have HX : Hid (∀ W1, Below W0.heap.size W0 W1 → W1.heap[w.heap.size]? = some (.cells #[.slice a1 L.length c1, .slice a2 B.length c2] 25 (0, 0)) ∧ W1.heap[w.heap.size + 1]? = some (.cells #[.int .i64 wh, .string (bs nm), .string (bs kn), .slice ao lo1 co, .slice af lf1 cf, .string (bs bn), .string (bs bf), .string (bs bt), .int .i64 mn, .int .i64 mx, .string (bs fn), .int .i64 ft, .bool fm, .bool fk, .int .i64 vt, .int .i64 vn, .string (bs vs), .string (bs tn)] 37 (0, 0))) := fun W1 h => ⟨(h.block _ (Array.getElem?_eq_some_iff.1 n0).1).trans n0, (h.block _ (Array.getElem?_eq_some_iff.1 n1).1).trans n1⟩
  have s0 : W0.cell? ⟨w.heap.size, 0, none⟩ = some (.slice a1 L.length c1) := cell_at n0 rfl
  have s1 : W0.cell? ⟨w.heap.size, 1, none⟩ = some (.slice a2 B.length c2) := cell_at n0 rfl
  have d0 : W0.cell? ⟨w.heap.size + 1, 0, none⟩ = some (.int .i64 wh) := cell_at n1 rfl
  have d1 : W0.cell? ⟨w.heap.size + 1, 1, none⟩ = some (.string (bs nm)) := cell_at n1 rfl
  have d2 : W0.cell? ⟨w.heap.size + 1, 2, none⟩ = some (.string (bs kn)) := cell_at n1 rfl
  have d3 : W0.cell? ⟨w.heap.size + 1, 3, none⟩ = some (.slice ao lo1 co) := cell_at n1 rfl
  have d4 : W0.cell? ⟨w.heap.size + 1, 4, none⟩ = some (.slice af lf1 cf) := cell_at n1 rfl
  have d5 : W0.cell? ⟨w.heap.size + 1, 5, none⟩ = some (.string (bs bn)) := cell_at n1 rfl
  have d6 : W0.cell? ⟨w.heap.size + 1, 6, none⟩ = some (.string (bs bf)) := cell_at n1 rfl
  have d7 : W0.cell? ⟨w.heap.size + 1, 7, none⟩ = some (.string (bs bt)) := cell_at n1 rfl
  have d8 : W0.cell? ⟨w.heap.size + 1, 8, none⟩ = some (.int .i64 mn) := cell_at n1 rfl
  have d9 : W0.cell? ⟨w.heap.size + 1, 9, none⟩ = some (.int .i64 mx) := cell_at n1 rfl
  have d10 : W0.cell? ⟨w.heap.size + 1, 10, none⟩ = some (.string (bs fn)) := cell_at n1 rfl
  have d11 : W0.cell? ⟨w.heap.size + 1, 11, none⟩ = some (.int .i64 ft) := cell_at n1 rfl
  have d12 : W0.cell? ⟨w.heap.size + 1, 12, none⟩ = some (.bool fm) := cell_at n1 rfl
  have d13 : W0.cell? ⟨w.heap.size + 1, 13, none⟩ = some (.bool fk) := cell_at n1 rfl
  have d14 : W0.cell? ⟨w.heap.size + 1, 14, none⟩ = some (.int .i64 vt) := cell_at n1 rfl
  have d15 : W0.cell? ⟨w.heap.size + 1, 15, none⟩ = some (.int .i64 vn) := cell_at n1 rfl
  have d16 : W0.cell? ⟨w.heap.size + 1, 16, none⟩ = some (.string (bs vs)) := cell_at n1 rfl
  have d17 : W0.cell? ⟨w.heap.size + 1, 17, none⟩ = some (.string (bs tn)) := cell_at n1 rfl
  have HU := Lib.hid hu
  have HE := Lib.hid hne
  have HKd := Lib.hid hKd
  have HB := Lib.hid hB0
  clear hd hu hne hK hP hz hb hzb hc hcz n0 n1 hB0 hE hKd hF2
  go_enter Tryz.func10, Tryz.ntmps10
  go_upto_region 1 with fail
  rw [← hW0]
  clear hW0
  go_upto_region 2 with (first | (go_at_call 6; refine cD.mono ?_; rintro e W1 ⟨uk, ub, rfl, o1, o2, hB1⟩) | (refine wpList_store_new rfl 25 (.tmp 6) (.tmp 12) rfl _ _ rfl rfl info25u rfl (by simp [o1, o2]) ?_))
  have hBa : Below W1.heap.size W1 (W1.alloc (.cells #[uk, ub] 25)) := b_alloc (Below.refl _ _) _
  obtain ⟨m0, m1⟩ := HX.out _ (on1K hB1 hBa (Nat.le_refl _))
  have HBw := Lib.hid (HN.out _ _ hB1 hBa)
  generalize W1.alloc (.cells #[uk, ub] 25) = W2 at m0 m1 HBw hBa ⊢
  have s2 : W2.cell? ⟨w.heap.size, 0, none⟩ = some (.slice a1 L.length c1) := cell_at m0 rfl
  have s3 : W2.cell? ⟨w.heap.size + 1, 0, none⟩ = some (.int .i64 wh) := cell_at m1 rfl
  have s4 : W2.cell? ⟨w.heap.size + 1, 1, none⟩ = some (.string (bs nm)) := cell_at m1 rfl
  have cU := HU.out W2 HBw.out
  clear cD s0 s1 d0 d1 d2 d3 d4 d5 d6 d7 d8 d9 d10 d11 d12 d13 d14 d15 d16 d17 HN HX HU m0 m1 hBa hB1
  by_cases h0 : E = 0
  · subst h0
    have hF1 : F2 = F := HF2.out.symm.trans (if_pos rfl)
    rw [errV_0]
    by_cases hw : wh = 3 ∨ wh = 4 ∨ wh = 7
    · have hF : Hid (F2 = under L nm) := hF1.trans (HKd.out.symm.trans (if_pos hw))
      have h5 : nmErr L nm = 0 := HE.out rfl hw
      have cU' : Calls Tryz.prog 25 #[.slice a1 L.length c1, .string (bs nm)] W2 fun e w' => ∃ v, e = .returned (.tuple #[v, .nilIface]) ∧ IsS w' v (under L nm) ∧ Below W2.heap.size W2 w' := cU.mono (by
        rintro e w' ⟨v, he, h1, _, h3⟩
        rw [h5, errV_0] at he
        exact ⟨v, he, own_isS (h1 h5), h3⟩)
      clear cU HE HKd h5 hF1 HF2
      rcases hw with rfl | rfl | rfl
      all_goals
        go_wp2_with (go_at_call 25; refine cU'.mono ?_; rintro e W3 ⟨v, rfl, hS, hB3⟩; have HO : Hid (_ ∧ _) := ⟨hS, hB3⟩; clear hS hB3)
        go_ret2
        exact ⟨_, rfl, by rw [hF.out]; exact HO.out.1, on1K HBw.out HO.out.2 (Nat.le_refl _)⟩
    · have hF : Hid (F2 = []) := hF1.trans (HKd.out.symm.trans (if_neg hw))
      have h3 : ¬ wh = 3 := fun e => hw (.inl e)
      have h4 : ¬ wh = 4 := fun e => hw (.inr (.inl e))
      have h7 : ¬ wh = 7 := fun e => hw (.inr (.inr e))
      clear cU HE HKd hF1 HF2 hw
      go_wp2
      go_ret2
      exact ⟨_, rfl, by rw [hF.out]; exact isS_none _, HBw.out⟩
  · have hF : Hid (F2 = []) := HF2.out.symm.trans (if_neg h0)
    have HE0 := Lib.hid h0
    rw [errV_ne h0]
    clear cU HE HKd h0 HF2
    go_wp2
    go_ret2
    exact ⟨.slice none 0 0, ret_v (by rw [errV_ne HE0.out]; rfl), by rw [hF.out]; exact isS_none _, HBw.out⟩
end Go.Proofs.YtkmkhadacppdnaaGreatDoor
