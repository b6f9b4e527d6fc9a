/-
  The walks of kinref1.Is and kinref2.Under.
-/
import Derived.Test.YtholhlibcofojabDoorRefC
namespace Go.Proofs.YtholhlibcofojabDoor
open Go.RowKit
set_option linter.unusedVariables false
set_option linter.unusedSimpArgs false

/-- All it comes of, as the marks tell it. -/
def kinF (L : List Kd) (a : Nm) : List Kd := L.filter fun x => hasN (names L a) x.nm
theorem hasN_nms {K : List Kd} {s : Nm} : hasN (nms K) s = true ↔ ¬ idxK s K 0 = -1 := by
  rw [hasN_iff]
  unfold nms
  rw [List.mem_map]
  constructor
  · rintro ⟨x, hx, hn⟩ e
    exact idxK_none e x hx hn
  · intro h
    obtain ⟨j, x, _, h2, h3⟩ := idxK_has h
    exact ⟨x, List.mem_of_getElem? h2, h3⟩
theorem under_filter {L : List Kd} (hR : Right L) (s : Nm) : under L s = nms (L.filter fun x => hasN (nms (kinF L x.nm)) s) := by
  have gen : ∀ m, m ≤ L.length → unds L s (List.range m) = nms ((L.take m).filter fun x => hasN (nms (kinF L x.nm)) s) := by
    intro m
    induction m with
    | zero => intro _; rfl
    | succ m ih =>
      intro hm
      obtain ⟨k, hk⟩ : ∃ k, L[m]? = some k := ⟨L[m], by simp⟩
      rw [List.range_succ, unds_app, ih (by omega), takeK hk, List.filter_append]
      have e : kinOf (L.take (m + 1)) = kinF L k.nm := kinOf_at hR hk
      unfold nms
      rw [List.map_append]
      congr 1
      simp only [unds, hk]
      rw [e]
      by_cases hx : idxK s (kinF L k.nm) 0 = -1
      · have : ¬ hasN (nms (kinF L k.nm)) s = true := fun h => hasN_nms.1 h hx
        have h2 : hasN (nms (kinF L k.nm)) s = false := by simpa using this
        rw [if_pos hx]
        unfold nms at h2
        simp [List.filter_cons, h2]
      · have h2 := hasN_nms.2 hx
        rw [if_neg hx]
        unfold nms at h2
        simp [List.filter_cons, h2]
  unfold under
  rw [gen L.length (Nat.le_refl _), List.take_length]
theorem idx_of {L : List Kd} (hR : Right L) {i : Nat} {k : Kd} (hk : L[i]? = some k) : idxK k.nm L 0 = (i : Int) := by
  have hne : ¬ idxK k.nm L 0 = -1 := fun e => idxK_none e k (List.mem_of_getElem? hk) rfl
  obtain ⟨j, x, h1, h2, h3⟩ := idxK_has hne
  have := right_names hR j i x k h2 hk h3
  rw [h1, this]
set_option maxHeartbeats 4000000 in
set_option maxRecDepth 100000 in
theorem ris_some (b off cap : Nat) (L : List Kd) (i : Nat) (q : Kd) (s : Nm) (w : World) (hb : b < w.heap.size) (hL : LiesK w b off L) (hP : Parts w L) (hS : Small L) (hn : L.length ≤ 12) (hR : Right L) (hq : L[i]? = some q) :
    Calls Tryd.prog 22 #[.slice (some ⟨b, off, none⟩) L.length cap, .string (bs q.nm), .string (bs s)] w fun e w' => e = .returned (.bool (hasN (nms (kinF L q.nm)) s)) ∧ Below w.heap.size w w' := by
  have c1 := rkin_some b off cap L q.nm i q w hb hL hP hS hn hR (idx_of hR hq) hq rfl
  have hl : (nms (kinF L q.nm)).length ≤ 1000 := by
    unfold nms kinF
    have := List.length_filter_le (fun x => hasN (names L q.nm) x.nm) L
    simp
    omega
  have HL : Hid ((nms (kinF L q.nm)).length ≤ 1000) := hl
  clear hL hP hS hR hq hl
  go_enter Tryd.func22, Tryd.ntmps22
  go_wp2_with (go_at_call 14; refine c1.mono ?_; rintro e W1 ⟨v1, rfl, hown, hB1⟩; refine Hid.out ?_)
  refine Lib.hid ?_
  have c2 := in_any (own_isS hown) HL.out s
  clear c1 hown
  change Calls Tryd.prog 33 #[v1, .string (bs s)] W1 (fun e w' => e = .returned (.bool (hasN (nms (kinF L q.nm)) s)) ∧ w' = W1) at c2
  obtain ⟨r, hr⟩ : ∃ r, r = hasN (nms (kinF L q.nm)) s := ⟨_, rfl⟩
  have HR : Hid (r = hasN (nms (kinF L q.nm)) s) := hr
  rw [← hr] at c2
  clear hr
  go_wp2_with (go_at_call 33; refine c2.mono ?_; rintro e W2 ⟨rfl, rfl⟩)
  go_ret
  exact ⟨ret_v (by rw [← HR.out]; rfl), hB1⟩
set_option maxHeartbeats 4000000 in
set_option maxRecDepth 100000 in
theorem runder_some (b off cap : Nat) (L : List Kd) (s : Nm) (w : World) (hb : b < w.heap.size) (hL : LiesK w b off L) (hP : Parts w L) (hS : Small L) (hn : L.length ≤ 12) (hR : Right L) :
    Calls Tryd.prog 15 #[.slice (some ⟨b, off, none⟩) L.length cap, .string (bs s)] w fun e w' => ∃ v, e = .returned v ∧ w'.ownsRow w.heap.size 9 1 v (under L s).length (cellsS (under L s)) ∧ Below w.heap.size w w' := by
  obtain ⟨i9, hi9, hz90, hz91, hz92⟩ := info_parts info9
  have HH : Hid (LiesK w b off L ∧ Parts w L ∧ Small L ∧ L.length ≤ 12 ∧ Right L) := ⟨hL, hP, hS, hn, hR⟩
  rw [under_filter hR s]
  obtain ⟨p, hp⟩ : ∃ p : Kd → Bool, p = fun x => hasN (nms (kinF L x.nm)) s := ⟨_, rfl⟩
  rw [← hp]
  have HC : Hid (∀ (W : World), Below w.heap.size w W → ∀ (i : Nat) (q : Kd), L[i]? = some q → Calls Tryd.prog 22 #[.slice (some ⟨b, off, none⟩) L.length cap, .string (bs q.nm), .string (bs s)] W fun e w' => e = .returned (.bool (p q)) ∧ Below W.heap.size W w') := by
    intro W h i q hq
    rw [hp]
    exact ris_some b off cap L i q s W (Nat.lt_of_lt_of_le hb h.size) (hL.on hb h) (hP.on h) hS hn hR hq
  clear hL hP hS hR hp
  go_enter Tryd.func15, Tryd.ntmps15
  go_wp2
  go_loopw [5, 6] (fun s5 s6 wr => ∃ k : Nat, k ≤ L.length ∧ s6 = .int .i64 k ∧ wr.ownsRow w.heap.size 9 1 s5 (nms ((L.take k).filter p)).length (cellsS (nms ((L.take k).filter p))) ∧ Below w.heap.size w wr) (fun _ s6 _ => L.length - (intOf s6).toNat)
  case atStart => exact ⟨0, Nat.zero_le _, rfl, World.ownsRow_nil _ _ _ _, Below.refl _ _⟩
  case round =>
    obtain ⟨k, hk, rfl, hown, hB⟩ := hrel
    by_cases hlt : k < L.length
    · obtain ⟨x, hx⟩ : ∃ x, L[k]? = some x := ⟨L[k], by simp [hlt]⟩
      obtain ⟨c0, _, _⟩ := HH.out.1 k x hx
      have d0 := (hB.cell (p := ⟨b, off + k * 3, none⟩) hb).trans c0
      have hbr : b < wr.heap.size := Nat.lt_of_lt_of_le hb hB.size
      have ci := HC.out wr hB k x hx
      have htk := takeK hx
      obtain ⟨F, hF⟩ : ∃ F, F = nms ((L.take k).filter p) := ⟨_, rfl⟩
      have hFl : F.length ≤ 12 := by
        rw [hF]; unfold nms
        have h1 := List.length_filter_le p (L.take k)
        simp at h1 ⊢
        omega
      rw [← hF] at hown
      have HO : Hid (wr.ownsRow w.heap.size 9 1 u5 F.length (cellsS F) ∧ Below w.heap.size w wr) := ⟨hown, hB⟩
      cases hN : p x with
      | false =>
        rw [hN] at ci
        have HE : Hid (nms ((L.take (k + 1)).filter p) = F) := by
          show _ = _
          rw [htk, hF]; simp [nms, List.filter_append, hN]
        clear hown hB hF hFl htk hN c0 hx
        go_wp2_with (go_at_call 22; refine ci.mono ?_; rintro e W1 ⟨rfl, hB1⟩)
        go_roundw
        case rel => exact ⟨k + 1, by omega, by go_num, by rw [HE.out]; exact own_below HO.out.1 hB1, on1 HO.out.2 hB1 (Nat.le_refl _)⟩
        case measure => simp [intOf]; omega
      | true =>
        rw [hN] at ci
        have HE : Hid (nms ((L.take (k + 1)).filter p) = F ++ [x.nm]) := by
          show _ = _
          rw [htk, hF]; simp [nms, List.filter_append, hN]
        have HM : Hid (F.length + 1 ≤ maxLen ∧ (F.length + 1) * 16 ≤ 140737488355328) := by unfold maxLen; exact ⟨by omega, by omega⟩
        clear hown hB hF hFl htk hN c0 hx
        go_wp2_with (go_at_call 22; refine ci.mono ?_; rintro e W1 ⟨rfl, hB1⟩; refine Hid.out ?_)
        refine Lib.hid ?_
        have d1 := (hB1.cell (p := ⟨b, off + k * 3, none⟩) hbr).trans d0
        have HA : Hid ((W1.alloc (.cells #[.string (bs x.nm)] 9)).ownsRow w.heap.size 9 1 u5 F.length (cellsS F) ∧ Below w.heap.size w (W1.alloc (.cells #[.string (bs x.nm)] 9))) := ⟨(own_below HO.out.1 hB1).alloc _, b_alloc (on1 HO.out.2 hB1 (Nat.le_refl _)) (Nat.le_refl _) _⟩
        clear ci d0
        go_wp2_with (at_builtin; refine wpList_append_own _ rfl (.tmp 23) (.tmp 29) 44 rfl w.heap.size 9 i9 _ 1 16 Tryd.underlying44 hi9 hz90 hz91 hz92 rfl (by decide) u5 F.length (cellsS F) rfl HA.out.1 ⟨W1.heap.size, 0, none⟩ 1 1 [.string (bs x.nm)] rfl rfl (new_at _ _ _) (by simp [Value.oneCell']) HM.out.1 HM.out.2 HA.out.2.size ?_; intro v1 w1 hown1 hgrow1 _; refine Hid.out ?_)
        refine Lib.hid ?_
        have HR : Hid (w1.ownsRow w.heap.size 9 1 v1 (nms ((L.take (k + 1)).filter p)).length (cellsS (nms ((L.take (k + 1)).filter p))) ∧ Below w.heap.size w w1) := by
          refine ⟨?_, HA.out.2.grown hgrow1 HA.out.2.size (fun k hk => (HA.out.1.lt k hk).1)⟩
          rw [HE.out, List.length_append, cellsS_app]; exact hown1
        clear hown1
        go_wp2
        go_roundw
        case rel => exact ⟨k + 1, by omega, by go_num, HR.out.1, HR.out.2⟩
        case measure => simp [intOf]; omega
    · have hke : L.take k = L := List.take_of_length_le (by omega)
      rw [hke] at hown
      have HR : Hid (wr.ownsRow w.heap.size 9 1 u5 (nms (L.filter p)).length (cellsS (nms (L.filter p))) ∧ Below w.heap.size w wr) := ⟨hown, hB⟩
      clear hown hB hke
      go_wp2
      go_ret
      exact ⟨_, rfl, HR.out.1, HR.out.2⟩
end Go.Proofs.YtholhlibcofojabDoor
