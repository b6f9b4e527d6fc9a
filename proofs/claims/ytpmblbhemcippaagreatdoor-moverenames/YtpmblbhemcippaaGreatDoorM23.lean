/-
  The walk of change.dropKind.
-/
import Derived.Test.YtpmblbhemcippaaGreatDoorM21
import Derived.Test.YtpmblbhemcippaaGreatDoorM17
import Derived.Test.YtpmblbhemcippaaGreatDoorM14
import Derived.Test.YtpmblbhemcippaaGreatDoorM01
namespace Go.Proofs.YtpmblbhemcippaaGreatDoor
open Go.RowKit
set_option linter.unusedVariables false
set_option linter.unusedSimpArgs false

def gidx {α : Type} (q : α → Bool) : List α → Nat → Int
  | [], _ => -1
  | p :: r, k => if q p = true then k else gidx q r (k + 1)
theorem gidx_has {α : Type} (q : α → Bool) (L : List α) : ∀ k : Nat, decide (0 ≤ gidx q L k) = L.any q := by
  induction L with
  | nil => intro k; rfl
  | cons p r ih =>
    intro k
    unfold gidx
    rw [List.any_cons]
    cases hq : q p
    · simpa using ih (k + 1)
    · simp
def cmsQ (n : Nm) (k : Kd) : Bool := hasN k.of n
def asks (n : Nm) (x : Bd) : Bool := x.fr == n || x.tt == n
theorem usK_eq (L : List Kd) (n : Nm) : L.any (cmsQ n) = usK L n := rfl
theorem usB_eq (B : List Bd) (n : Nm) : B.any (asks n) = usB B n := rfl
set_option maxHeartbeats 1000000 in
theorem comes_any (k : Kd) (b : Nat) (n : Nm) (w : World) (hc : w.cell? ⟨b, 0, none⟩ = some (.string (bs n))) (hb : b < w.heap.size) (hs : IsS w k.vo k.of) (hl : k.of.length ≤ 4) :
    Calls Tryz.prog 106 #[k.one, .pointer (some ⟨b, 0, none⟩)] w fun e w' => e = .returned (.bool (cmsQ n k)) ∧ Below w.heap.size w w' := by
  obtain ⟨nm, of, fs, vo, vf⟩ := k
  obtain ⟨a, l, c, e⟩ := hs.sl
  simp only at e
  subst e
  have hB0 : Below w.heap.size w (w.alloc (.cells #[.string (bs nm), .slice a l c, vf] 32)) := b_alloc (Below.refl _ _) _
  have cc := contains_any (hs.on hB0) (by simp only at hl ⊢; omega) n
  unfold cmsQ
  simp only at cc ⊢
  generalize hasN of n = r at cc ⊢
  clear hs hl
  go_enter Tryz.func106, Tryz.ntmps106
  go_wp2_with (go_at_call 96; refine cc.mono ?_; rintro e w' ⟨rfl, rfl⟩)
  go_ret
  exact ⟨rfl, hB0⟩
set_option maxHeartbeats 1000000 in
theorem asks_any (x : Bd) (b : Nat) (n : Nm) (w : World) (hc : w.cell? ⟨b, 0, none⟩ = some (.string (bs n))) (hb : b < w.heap.size) :
    Calls Tryz.prog 107 #[x.one, .pointer (some ⟨b, 0, none⟩)] w fun e w' => e = .returned (.bool (asks n x)) ∧ Below w.heap.size w w' := by
  have hB0 : Below w.heap.size w (w.alloc (.cells #[.string (bs x.nm), .string (bs x.fr), .string (bs x.tt), .int .i64 x.mn, .int .i64 x.mx] 34)) := b_alloc (Below.refl _ _) _
  have hne : ¬ b = w.heap.size := by omega
  cases h1 : (x.fr == n)
  · cases h2 : (x.tt == n)
    all_goals
      go_enter Tryz.func107, Tryz.ntmps107
      go_wp2
      go_ret
      exact ⟨by simp [asks, h1, h2], hB0⟩
  · go_enter Tryz.func107, Tryz.ntmps107
    go_wp2
    go_ret
    exact ⟨by simp [asks, h1], hB0⟩
set_option maxHeartbeats 4000000 in
set_option maxRecDepth 100000 in
theorem idxC_some (b off cap : Nat) (L : List Kd) (bn : Nat) (n : Nm) (w : World) (hb : b < w.heap.size) (hL : LiesK w b off L) (hP : Parts w L) (hS : Small L) (hn : L.length ≤ 12) (hbn : bn < w.heap.size) (hc : w.cell? ⟨bn, 0, none⟩ = some (.string (bs n))) :
    Calls Tryz.prog 118 #[.slice (some ⟨b, off, none⟩) L.length cap, .func (.func 106) #[] #[.pointer (some ⟨bn, 0, none⟩)]] w fun e w' => e = .returned (.int .i64 (gidx (cmsQ n) L 0)) ∧ Below w.heap.size w w' := by
  have HPS : Hid (Parts w L ∧ Small L) := ⟨hP, hS⟩
  clear hP hS
  go_enter Tryz.func118, Tryz.ntmps118
  go_wp2
  go_loopw [8] (fun i wr => ∃ k : Nat, k ≤ L.length ∧ i = .int .i64 k ∧ gidx (cmsQ n) L 0 = gidx (cmsQ n) (L.drop k) k ∧ Below w.heap.size w wr) (fun i _ => L.length - (intOf i).toNat)
  case atStart => exact ⟨0, Nat.zero_le _, rfl, rfl, Below.refl _ _⟩
  case round =>
    obtain ⟨k, hk, rfl, hi, hB⟩ := hrel
    have HI : Hid (gidx (cmsQ n) L 0 = gidx (cmsQ n) (L.drop k) k) := hi
    clear hi
    by_cases hlt : k < L.length
    · obtain ⟨p, hp⟩ : ∃ p, L[k]? = some p := ⟨L[k], by simp [hlt]⟩
      obtain ⟨c0, c1, c2⟩ := hL k p hp
      have d0 := (hB.cell (p := ⟨b, off + k * 3, none⟩) hb).trans c0
      have d1 := (hB.cell (p := ⟨b, off + k * 3 + 1, none⟩) hb).trans c1
      have d2 := (hB.cell (p := ⟨b, off + k * 3 + 2, none⟩) hb).trans c2
      have HD : Hid (L.drop k = p :: L.drop (k + 1)) := dropK hp
      have hpm := List.mem_of_getElem? hp
      have cn := comes_any p bn n wr ((hB.cell (p := ⟨bn, 0, none⟩) hbn).trans hc) (Nat.lt_of_lt_of_le hbn hB.size) ((HPS.out.1 p hpm).1.on hB) (HPS.out.2 p hpm).1
      clear c0 c1 c2 hp hL hc hpm
      by_cases hq : cmsQ n p = true
      · have H : Hid (gidx (cmsQ n) L 0 = k) := by
          show _ = _
          rw [HI.out, HD.out]; unfold gidx; rw [if_pos hq]
        rw [hq] at cn
        clear HI HD hq
        go_wp2_with (go_at_call 106; refine cn.mono ?_; rintro e w' ⟨rfl, hB2⟩)
        go_ret
        exact ⟨ret_v (by rw [H.out]; rfl), on1K hB hB2 (Nat.le_refl _)⟩
      · have H : Hid (gidx (cmsQ n) L 0 = gidx (cmsQ n) (L.drop (k + 1)) (k + 1)) := by
          show _ = _
          rw [HI.out, HD.out]; conv => lhs; unfold gidx
          rw [if_neg hq]
        have hq' : cmsQ n p = false := by simpa using hq
        rw [hq'] at cn
        clear HI HD hq hq'
        go_wp2_with (go_at_call 106; refine cn.mono ?_; rintro e w' ⟨rfl, hB2⟩)
        go_roundw
        case rel => exact ⟨k + 1, by omega, by go_num, H.out, on1K hB hB2 (Nat.le_refl _)⟩
        case measure => simp [intOf]; omega
    · have hd : L.drop k = [] := List.drop_eq_nil_of_le (by omega)
      have H : Hid (gidx (cmsQ n) L 0 = -1) := by
        show _ = _
        rw [HI.out, hd]; rfl
      clear HI hd hL hc
      go_wp2
      go_ret
      exact ⟨ret_v (by rw [H.out]; rfl), hB⟩
theorem idxC_any {v : Value} {L : List Kd} {w : World} (h : IsK w v L) (hP : Parts w L) (hS : Small L) (hn : L.length ≤ 12) (bn : Nat) (n : Nm) (hbn : bn < w.heap.size) (hc : w.cell? ⟨bn, 0, none⟩ = some (.string (bs n))) :
    Calls Tryz.prog 118 #[v, .func (.func 106) #[] #[.pointer (some ⟨bn, 0, none⟩)]] w fun e w' => e = .returned (.int .i64 (gidx (cmsQ n) L 0)) ∧ Below w.heap.size w w' := by
  rcases h with ⟨rfl, rfl⟩ | ⟨b, off, cap, rfl, hcap, hm, hb, hl⟩
  · exact idxF_nil _ w
  · exact idxC_some b off cap L bn n w hb hl hP hS hn hbn hc
set_option maxHeartbeats 1000000 in
theorem anyK_any {v : Value} {L : List Kd} {w : World} (h : IsK w v L) (hP : Parts w L) (hS : Small L) (hn : L.length ≤ 12) (bn : Nat) (n : Nm) (hbn : bn < w.heap.size) (hc : w.cell? ⟨bn, 0, none⟩ = some (.string (bs n))) :
    Calls Tryz.prog 103 #[v, .func (.func 106) #[] #[.pointer (some ⟨bn, 0, none⟩)]] w fun e w' => e = .returned (.bool (usK L n)) ∧ Below w.heap.size w w' := by
  have c := idxC_any h hP hS hn bn n hbn hc
  have H : Hid (decide (0 ≤ gidx (cmsQ n) L 0) = usK L n) := (gidx_has _ _ _).trans (usK_eq L n)
  generalize gidx (cmsQ n) L 0 = r at c H
  clear h hP hS hn
  go_enter Tryz.func103, Tryz.ntmps103
  go_wp2_with (go_at_call 118; refine c.mono ?_; rintro e w' ⟨rfl, hB1⟩)
  go_ret
  exact ⟨ret_v (by rw [← H.out]; rfl), hB1⟩
set_option maxHeartbeats 4000000 in
set_option maxRecDepth 100000 in
theorem idxA_some (b off cap : Nat) (L : List Bd) (bn : Nat) (n : Nm) (w : World) (hb : b < w.heap.size) (hL : LiesB w b off L) (hn : L.length ≤ 12) (hbn : bn < w.heap.size) (hc : w.cell? ⟨bn, 0, none⟩ = some (.string (bs n))) :
    Calls Tryz.prog 101 #[.slice (some ⟨b, off, none⟩) L.length cap, .func (.func 107) #[] #[.pointer (some ⟨bn, 0, none⟩)]] w fun e w' => e = .returned (.int .i64 (gidx (asks n) L 0)) ∧ Below w.heap.size w w' := by
  go_enter Tryz.func101, Tryz.ntmps101
  go_wp2
  go_loopw [8] (fun i wr => ∃ k : Nat, k ≤ L.length ∧ i = .int .i64 k ∧ gidx (asks n) L 0 = gidx (asks n) (L.drop k) k ∧ Below w.heap.size w wr) (fun i _ => L.length - (intOf i).toNat)
  case atStart => exact ⟨0, Nat.zero_le _, rfl, rfl, Below.refl _ _⟩
  case round =>
    obtain ⟨k, hk, rfl, hi, hB⟩ := hrel
    have HI : Hid (gidx (asks n) L 0 = gidx (asks n) (L.drop k) k) := hi
    clear hi
    by_cases hlt : k < L.length
    · obtain ⟨p, hp⟩ : ∃ p, L[k]? = some p := ⟨L[k], by simp [hlt]⟩
      obtain ⟨c0, c1, c2, c3, c4⟩ := hL k p hp
      have d0 := (hB.cell (p := ⟨b, off + k * 5, none⟩) hb).trans c0
      have d1 := (hB.cell (p := ⟨b, off + k * 5 + 1, none⟩) hb).trans c1
      have d2 := (hB.cell (p := ⟨b, off + k * 5 + 2, none⟩) hb).trans c2
      have d3 := (hB.cell (p := ⟨b, off + k * 5 + 3, none⟩) hb).trans c3
      have d4 := (hB.cell (p := ⟨b, off + k * 5 + 4, none⟩) hb).trans c4
      have HD : Hid (L.drop k = p :: L.drop (k + 1)) := dropK hp
      have cn := asks_any p bn n wr ((hB.cell (p := ⟨bn, 0, none⟩) hbn).trans hc) (Nat.lt_of_lt_of_le hbn hB.size)
      clear c0 c1 c2 c3 c4 hp hL hc
      by_cases hq : asks n p = true
      · have H : Hid (gidx (asks n) L 0 = k) := by
          show _ = _
          rw [HI.out, HD.out]; unfold gidx; rw [if_pos hq]
        rw [hq] at cn
        clear HI HD hq
        go_wp2_with (go_at_call 107; refine cn.mono ?_; rintro e w' ⟨rfl, hB2⟩)
        go_ret
        exact ⟨ret_v (by rw [H.out]; rfl), on1K hB hB2 (Nat.le_refl _)⟩
      · have H : Hid (gidx (asks n) L 0 = gidx (asks n) (L.drop (k + 1)) (k + 1)) := by
          show _ = _
          rw [HI.out, HD.out]; conv => lhs; unfold gidx
          rw [if_neg hq]
        have hq' : asks n p = false := by simpa using hq
        rw [hq'] at cn
        clear HI HD hq hq'
        go_wp2_with (go_at_call 107; refine cn.mono ?_; rintro e w' ⟨rfl, hB2⟩)
        go_roundw
        case rel => exact ⟨k + 1, by omega, by go_num, H.out, on1K hB hB2 (Nat.le_refl _)⟩
        case measure => simp [intOf]; omega
    · have hd : L.drop k = [] := List.drop_eq_nil_of_le (by omega)
      have H : Hid (gidx (asks n) L 0 = -1) := by
        show _ = _
        rw [HI.out, hd]; rfl
      clear HI hd hL hc
      go_wp2
      go_ret
      exact ⟨ret_v (by rw [H.out]; rfl), hB⟩
theorem idxA_any {v : Value} {L : List Bd} {w : World} (h : IsB w v L) (hn : L.length ≤ 12) (bn : Nat) (n : Nm) (hbn : bn < w.heap.size) (hc : w.cell? ⟨bn, 0, none⟩ = some (.string (bs n))) :
    Calls Tryz.prog 101 #[v, .func (.func 107) #[] #[.pointer (some ⟨bn, 0, none⟩)]] w fun e w' => e = .returned (.int .i64 (gidx (asks n) L 0)) ∧ Below w.heap.size w w' := by
  rcases h with ⟨rfl, rfl⟩ | ⟨b, off, cap, rfl, hcap, hm, hb, hl⟩
  · exact idxFB_nil _ w
  · exact idxA_some b off cap L bn n w hb hl hn hbn hc
set_option maxHeartbeats 1000000 in
theorem anyB_any {v : Value} {L : List Bd} {w : World} (h : IsB w v L) (hn : L.length ≤ 12) (bn : Nat) (n : Nm) (hbn : bn < w.heap.size) (hc : w.cell? ⟨bn, 0, none⟩ = some (.string (bs n))) :
    Calls Tryz.prog 108 #[v, .func (.func 107) #[] #[.pointer (some ⟨bn, 0, none⟩)]] w fun e w' => e = .returned (.bool (usB L n)) ∧ Below w.heap.size w w' := by
  have c := idxA_any h hn bn n hbn hc
  have H : Hid (decide (0 ≤ gidx (asks n) L 0) = usB L n) := (gidx_has _ _ _).trans (usB_eq L n)
  generalize gidx (asks n) L 0 = r at c H
  clear h hn
  go_enter Tryz.func108, Tryz.ntmps108
  go_wp2_with (go_at_call 101; refine c.mono ?_; rintro e w' ⟨rfl, hB1⟩)
  go_ret
  exact ⟨ret_v (by rw [← H.out]; rfl), hB1⟩
end Go.Proofs.YtpmblbhemcippaaGreatDoor

/-
  The walk of change.dropKind.
-/
namespace Go.Proofs.YtpmblbhemcippaaGreatDoor
open Go.RowKit
set_option linter.unusedVariables false
set_option linter.unusedSimpArgs false

theorem nmAt_has {n : Nm} {L : List Kd} (h : ¬ idxK n L 0 = -1) : ∃ (j : Nat) (q : Kd), idxK n L 0 = (j : Int) ∧ nmAt L n = j ∧ L[j]? = some q ∧ q.nm = n := by
  obtain ⟨j, q, h1, h2, h3⟩ := idxK_has h
  exact ⟨j, q, h1, by unfold nmAt; rw [h1]; rfl, h2, h3⟩
set_option maxHeartbeats 2000000 in
theorem dropKind_no {w : World} {base p : Nat} {L : List Kd} {B : List Bd} (h : OSc w base p L B) (hn : L.length ≤ 12) (n : Nm) (hx : idxK n L 0 = -1) :
    Calls Tryz.prog 72 #[.pointer (some ⟨p, 0, none⟩), .string (bs n)] w fun e w' => e = .returned (errV 5) ∧ Below w.heap.size w w' := by
  obtain ⟨vk, vb, hp, hX, hK, hA, hT⟩ := h
  obtain ⟨a, c, rfl⟩ := own_slice hK.1
  obtain ⟨W0, hW0⟩ : ∃ W0, W0 = w.alloc (.cells #[.string (bs n)] 9) := ⟨_, rfl⟩
  have hB0 : Below w.heap.size w W0 := by rw [hW0]; exact b_alloc (Below.refl _ _) _
  have n0 := heap_alloc_new w (.cells #[.string (bs n)] 9)
  rw [← hW0] at n0
  have hX0 := (hB0.block p (Array.getElem?_eq_some_iff.1 hX).1).trans hX
  have c0 : W0.cell? ⟨p, 0, none⟩ = some (.slice a L.length c) := cell_at hX0 rfl
  have c1 : W0.cell? ⟨w.heap.size, 0, none⟩ = some (.string (bs n)) := cell_at n0 rfl
  have cc : ∀ W, Below W0.heap.size W0 W → Calls Tryz.prog 105 #[.slice a L.length c, .string (bs n)] W fun e w' => e = .returned (.int .i64 (-1)) ∧ Below W.heap.size W w' := fun W hb => by
    have := findKind_any ((hK.isK.on hB0).on hb) hn n
    rw [hx] at this
    exact this
  have HC := Lib.hid cc
  have HB0 := Lib.hid hB0
  clear hT hK hA hX hx hX0 cc n0 hB0
  go_enter Tryz.func72, Tryz.ntmps72
  go_upto_region 1 with fail
  rw [← hW0]
  clear hW0
  go_cut [5] (fun s wx => s = .int .i64 (-1) ∧ Below W0.heap.size W0 wx)
  case first =>
    go_region_with (go_at_call 105; refine (HC.out _ (b_drewK (Below.refl _ _) 1)).mono ?_; rintro e W2 ⟨rfl, hB2⟩)
    all_goals go_wp2
    all_goals go_meet
    all_goals exact ⟨rfl, on1K (b_drewK (Below.refl _ _) 1) hB2 (Nat.le_refl _)⟩
  case rest =>
    obtain ⟨rfl, hB⟩ := hcut
    go_wp2
    go_ret
    exact ⟨rfl, on1K HB0.out hB (Nat.le_refl _)⟩
set_option maxHeartbeats 4000000 in
set_option maxRecDepth 100000 in
theorem dropKind_us {w : World} {base p : Nat} {L : List Kd} {B : List Bd} (h : OSc w base p L B) (hn : L.length ≤ 12) (hS : Small L) (hnb : B.length ≤ 12) (n : Nm) (hx : ¬ idxK n L 0 = -1) (hu : usK L n = true ∨ (usK L n = false ∧ usB B n = true)) :
    Calls Tryz.prog 72 #[.pointer (some ⟨p, 0, none⟩), .string (bs n)] w fun e w' => e = .returned (errV 6) ∧ Below w.heap.size w w' := by
  obtain ⟨vk, vb, hp, hX, hK, hA, hT⟩ := h
  obtain ⟨j, q, hj, hat, hq, _⟩ := nmAt_has hx
  obtain ⟨a, c, rfl⟩ := own_slice hK.1
  obtain ⟨a', c', rfl⟩ := own_slice hT
  obtain ⟨W0, hW0⟩ : ∃ W0, W0 = w.alloc (.cells #[.string (bs n)] 9) := ⟨_, rfl⟩
  have hB0 : Below w.heap.size w W0 := by rw [hW0]; exact b_alloc (Below.refl _ _) _
  have n0 := heap_alloc_new w (.cells #[.string (bs n)] 9)
  rw [← hW0] at n0
  have hX0 := (hB0.block p (Array.getElem?_eq_some_iff.1 hX).1).trans hX
  have c0 : W0.cell? ⟨p, 0, none⟩ = some (.slice a L.length c) := cell_at hX0 rfl
  have c1 : W0.cell? ⟨w.heap.size, 0, none⟩ = some (.string (bs n)) := cell_at n0 rfl
  have cc : ∀ W, Below W0.heap.size W0 W → Calls Tryz.prog 105 #[.slice a L.length c, .string (bs n)] W fun e w' => e = .returned (.int .i64 (j : Int)) ∧ Below W.heap.size W w' := fun W hb => by
    have := findKind_any ((hK.isK.on hB0).on hb) hn n
    rw [hj] at this
    exact this
  have hlt : w.heap.size < W0.heap.size := by rw [hW0]; simp
  have hpl : p < W0.heap.size := (Array.getElem?_eq_some_iff.1 hX0).1
  have HX : Hid (∀ W, Below W0.heap.size W0 W → W.cell? ⟨p, 0, none⟩ = some (.slice a L.length c) ∧ W.cell? ⟨p, 1, none⟩ = some (.slice a' B.length c')) := fun W hb => ⟨cell_at ((hb.block p hpl).trans hX0) rfl, cell_at ((hb.block p hpl).trans hX0) rfl⟩
  have HU : Hid (∀ W, Below W0.heap.size W0 W → Calls Tryz.prog 103 #[.slice a L.length c, .func (.func 106) #[] #[.pointer (some ⟨w.heap.size, 0, none⟩)]] W fun e w' => e = .returned (.bool (usK L n)) ∧ Below W.heap.size W w') := fun W hb => anyK_any ((hK.isK.on hB0).on hb) ((hK.parts.on hB0).on hb) hS hn w.heap.size n (Nat.lt_of_lt_of_le hlt hb.size) ((hb.cell (p := ⟨w.heap.size, 0, none⟩) hlt).trans c1)
  have HV : Hid (∀ W, Below W0.heap.size W0 W → Calls Tryz.prog 108 #[.slice a' B.length c', .func (.func 107) #[] #[.pointer (some ⟨w.heap.size, 0, none⟩)]] W fun e w' => e = .returned (.bool (usB B n)) ∧ Below W.heap.size W w') := fun W hb => anyB_any ((OwnBs.isB (own_kt hT (.of_below hB0))).on hb) hnb w.heap.size n (Nat.lt_of_lt_of_le hlt hb.size) ((hb.cell (p := ⟨w.heap.size, 0, none⟩) hlt).trans c1)
  have HC := Lib.hid cc
  have HB0 := Lib.hid hB0
  have hjn : ¬ (j : Int) < 0 := by omega
  clear hT hK hA hX hx hX0 cc n0 hB0 hj hat hq hS
  go_enter Tryz.func72, Tryz.ntmps72
  go_upto_region 1 with fail
  rw [← hW0]
  clear hW0
  go_cut [5] (fun s wx => s = .int .i64 (j : Int) ∧ Below W0.heap.size W0 wx)
  case first =>
    go_region_with (go_at_call 105; refine (HC.out _ (b_drewK (Below.refl _ _) 1)).mono ?_; rintro e W2 ⟨rfl, hB2⟩)
    all_goals go_wp2
    all_goals go_meet
    all_goals exact ⟨rfl, on1K (b_drewK (Below.refl _ _) 1) hB2 (Nat.le_refl _)⟩
  case rest =>
    obtain ⟨rfl, hB⟩ := hcut
    obtain ⟨d0, d1⟩ := HX.out wc hB
    have cu := HU.out wc hB
    rcases hu with hu | ⟨hu, hv⟩
    · rw [hu] at cu
      go_wp2_with (first | (go_at_call 103; refine cu.mono ?_; rintro e W3 ⟨rfl, hB3⟩))
      go_ret
      exact ⟨rfl, on1K HB0.out (on1K hB hB3 (Nat.le_refl _)) (Nat.le_refl _)⟩
    · rw [hu] at cu
      have HV' : Hid (∀ W, Below W0.heap.size W0 W → Calls Tryz.prog 108 #[.slice a' B.length c', .func (.func 107) #[] #[.pointer (some ⟨w.heap.size, 0, none⟩)]] W fun e w' => e = .returned (.bool true) ∧ Below W.heap.size W w') := fun W hb => by have := HV.out W hb; rw [hv] at this; exact this
      clear HV hu hv
      go_wp2_with (first | (go_at_call 103; refine cu.mono ?_; rintro e W3 ⟨rfl, hB3⟩; have hB4 := on1K hB hB3 (Nat.le_refl _); obtain ⟨g0, g1⟩ := HX.out W3 hB4) | (go_at_call 108; refine (HV'.out _ hB4).mono ?_; rintro e W5 ⟨rfl, hB5⟩))
      go_ret
      exact ⟨rfl, on1K HB0.out (on1K hB4 hB5 (Nat.le_refl _)) (Nat.le_refl _)⟩
set_option maxHeartbeats 8000000 in
set_option maxRecDepth 100000 in
theorem dropKind_yes {w : World} {base p : Nat} {L : List Kd} {B : List Bd} (h : OSc w base p L B) (hbase : base ≤ w.heap.size) (hn : L.length ≤ 12) (hS : Small L) (hnb : B.length ≤ 12) (n : Nm) (hx : ¬ idxK n L 0 = -1) (hu : usK L n = false) (hv : usB B n = false) :
    Calls Tryz.prog 72 #[.pointer (some ⟨p, 0, none⟩), .string (bs n)] w fun e w' => e = .returned (errV 0) ∧ OSc w' base p (L.eraseIdx (nmAt L n)) B ∧ Below base w w' := by
  obtain ⟨vk, vb, hp, hX, hK, hA, hT⟩ := h
  obtain ⟨j, q, hj, hat, hq, _⟩ := nmAt_has hx
  rw [hat]
  have hjl := (List.getElem?_eq_some_iff.1 hq).1
  obtain ⟨a, c, rfl⟩ := own_slice hK.1
  obtain ⟨a', c', rfl⟩ := own_slice hT
  obtain ⟨W0, hW0⟩ : ∃ W0, W0 = w.alloc (.cells #[.string (bs n)] 9) := ⟨_, rfl⟩
  have hB0 : Below w.heap.size w W0 := by rw [hW0]; exact b_alloc (Below.refl _ _) _
  have n0 := heap_alloc_new w (.cells #[.string (bs n)] 9)
  rw [← hW0] at n0
  have hX0 := (hB0.block p (Array.getElem?_eq_some_iff.1 hX).1).trans hX
  have c0 : W0.cell? ⟨p, 0, none⟩ = some (.slice a L.length c) := cell_at hX0 rfl
  have c1 : W0.cell? ⟨w.heap.size, 0, none⟩ = some (.string (bs n)) := cell_at n0 rfl
  have cc : ∀ W, Below W0.heap.size W0 W → Calls Tryz.prog 105 #[.slice a L.length c, .string (bs n)] W fun e w' => e = .returned (.int .i64 (j : Int)) ∧ Below W.heap.size W w' := fun W hb => by
    have := findKind_any ((hK.isK.on hB0).on hb) hn n
    rw [hj] at this
    exact this
  have hlt : w.heap.size < W0.heap.size := by rw [hW0]; simp
  have hpl : p < W0.heap.size := (Array.getElem?_eq_some_iff.1 hX0).1
  have HX : Hid (∀ W, Below W0.heap.size W0 W → W.cell? ⟨p, 0, none⟩ = some (.slice a L.length c) ∧ W.cell? ⟨p, 1, none⟩ = some (.slice a' B.length c')) := fun W hb => ⟨cell_at ((hb.block p hpl).trans hX0) rfl, cell_at ((hb.block p hpl).trans hX0) rfl⟩
  have HU : Hid (∀ W, Below W0.heap.size W0 W → Calls Tryz.prog 103 #[.slice a L.length c, .func (.func 106) #[] #[.pointer (some ⟨w.heap.size, 0, none⟩)]] W fun e w' => e = .returned (.bool false) ∧ Below W.heap.size W w') := fun W hb => by
    have := anyK_any ((hK.isK.on hB0).on hb) ((hK.parts.on hB0).on hb) hS hn w.heap.size n (Nat.lt_of_lt_of_le hlt hb.size) ((hb.cell (p := ⟨w.heap.size, 0, none⟩) hlt).trans c1)
    rw [hu] at this
    exact this
  have HV : Hid (∀ W, Below W0.heap.size W0 W → Calls Tryz.prog 108 #[.slice a' B.length c', .func (.func 107) #[] #[.pointer (some ⟨w.heap.size, 0, none⟩)]] W fun e w' => e = .returned (.bool false) ∧ Below W.heap.size W w') := fun W hb => by
    have := anyB_any ((OwnBs.isB (own_kt hT (.of_below hB0))).on hb) hnb w.heap.size n (Nat.lt_of_lt_of_le hlt hb.size) ((hb.cell (p := ⟨w.heap.size, 0, none⟩) hlt).trans c1)
    rw [hv] at this
    exact this
  have HD : Hid (∀ W, Below W0.heap.size W0 W → Calls Tryz.prog 109 #[.slice a L.length c, .int .i64 (j : Int), .int .i64 ((j : Int) + 1)] W fun e w' => ∃ v', e = .returned v' ∧ w'.ownsRow base 32 3 v' (L.eraseIdx j).length (cellsK (L.eraseIdx j)) ∧ W.grownBy w' (Value.slice a L.length c).ownBlock) := fun W hb => by
    have hkw := (hK.kt (.of_below hB0) (.of_below hB0) (.of_below hB0)).kt (.of_below hb) (.of_below hb) (.of_below hb)
    refine (deleteK_any hkw.1 hkw.one (by omega) j hjl).mono ?_
    rintro e w' ⟨v', h1, h2, h3, _⟩
    exact ⟨v', h1, h2, h3⟩
  have HS : Hid (∀ W, Below W0.heap.size W0 W → ∀ w2 v2, W.grownBy w2 (Value.slice a L.length c).ownBlock → w2.ownsRow base 32 3 v2 (L.eraseIdx j).length (cellsK (L.eraseIdx j)) → (w2.cell? ⟨p, 0, none⟩ = some (.slice a L.length c) ∧ w2.frozen? ⟨p, 0, none⟩ = false) ∧ OSc (w2.setCell ⟨p, 0, none⟩ v2) base p (L.eraseIdx j) B ∧ Below base w (w2.setCell ⟨p, 0, none⟩ v2)) := fun W hb w2 v2 g1 g2 => by
    have hkw := (hK.kt (.of_below hB0) (.of_below hB0) (.of_below hB0)).kt (.of_below hb) (.of_below hb) (.of_below hb)
    have hbw := on1K hB0 hb (Nat.le_refl _)
    obtain ⟨r1, r2, r3⟩ := osc_setK hp ((hb.block p hpl).trans hX0) hkw (hA.erase j) (own_kt (own_kt hT (.of_below hB0)) (.of_below hb)) (Nat.le_trans hbase hbw.size) g1 g2 (fun k hk => hkw.2 k (List.mem_of_mem_eraseIdx hk))
    exact ⟨r1, r2, (hbw.mono hbase).trans r3⟩
  have HC := Lib.hid cc
  have hjn : ¬ (j : Int) < 0 := by omega
  have hw1 : IntKind.i64.wrap ((j : Int) + 1) = (j : Int) + 1 := by rw [IntKind.wrap_i64]; omega
  have hj12 : j < 12 := by omega
  clear hT hK hA hX hx hX0 cc n0 hB0 hj hat hq hS hp
  go_enter Tryz.func72, Tryz.ntmps72
  go_upto_region 1 with fail
  rw [← hW0]
  clear hW0
  go_cut [5] (fun s wx => s = .int .i64 (j : Int) ∧ Below W0.heap.size W0 wx)
  case first =>
    go_region_with (go_at_call 105; refine (HC.out _ (b_drewK (Below.refl _ _) 1)).mono ?_; rintro e W2 ⟨rfl, hB2⟩)
    all_goals go_wp2
    all_goals go_meet
    all_goals exact ⟨rfl, on1K (b_drewK (Below.refl _ _) 1) hB2 (Nat.le_refl _)⟩
  case rest =>
    obtain ⟨rfl, hB⟩ := hcut
    obtain ⟨d0, d1⟩ := HX.out wc hB
    have cu := HU.out wc hB
    go_wp2_with (first | (go_at_call 103; refine cu.mono ?_; rintro e W3 ⟨rfl, hB3⟩; have hB4 := on1K hB hB3 (Nat.le_refl _); obtain ⟨g0, g1⟩ := HX.out W3 hB4) | (go_at_call 108; refine (HV.out _ hB4).mono ?_; rintro e W5 ⟨rfl, hB5⟩; have hB6 := on1K hB4 hB5 (Nat.le_refl _); obtain ⟨i0, i1⟩ := HX.out W5 hB6) | (go_at_call 109; refine (HD.out _ hB6).mono ?_; rintro e w7 ⟨v7, rfl, ho7, hg7⟩; obtain ⟨⟨z0, z1⟩, z2⟩ := HS.out _ hB6 w7 v7 hg7 ho7; obtain ⟨a2, c2, rfl⟩ := own_slice ho7; have HZ := Lib.hid z2; clear z2 ho7 hg7))
    go_ret
    exact ⟨rfl, HZ.out⟩
end Go.Proofs.YtpmblbhemcippaaGreatDoor

/-
  The walk of change.findField.
-/
namespace Go.Proofs.YtpmblbhemcippaaGreatDoor
open Go.RowKit
set_option linter.unusedVariables false
set_option linter.unusedSimpArgs false

set_option maxHeartbeats 1000000 in
theorem fName_any (f : Fd) (s : Nm) (w : World) :
    Calls Tryz.prog 137 #[f.one, .string (bs s)] w fun e w' => e = .returned (.int .i64 (Lib.compareBytes f.nm s)) ∧ Below w.heap.size w w' := by
  have c := fun w => compare_any (bs f.nm) (bs s) w
  simp only [bs_data] at c
  generalize Lib.compareBytes f.nm s = r at c ⊢
  go_enter Tryz.func137, Tryz.ntmps137
  go_wp2_with (go_at_call 89; refine (c _).mono ?_; rintro e w' ⟨rfl, rfl⟩)
  go_ret
  exact ⟨rfl, b_allocK (Below.refl _ _) (Nat.le_refl _) _⟩
set_option maxHeartbeats 8000000 in
set_option maxRecDepth 100000 in
theorem searchN_some (b off cap : Nat) (L : List Fd) (s : Nm) (w : World) (hb : b < w.heap.size) (hL : LiesF w b off L) (hs : Srt L) (hn : L.length ≤ 96) :
    Calls Tryz.prog 136 #[.slice (some ⟨b, off, none⟩) L.length cap, .string (bs s), .func (.func 137) #[] #[]] w fun e w' => e = .returned (.tuple #[.int .i64 (lo s L), .bool (fnd s L)]) ∧ Below w.heap.size w w' := by
  have hlo := lo_le s L
  have HS : Hid (LiesF w b off L ∧ Srt L) := ⟨hL, hs⟩
  clear hL hs
  go_enter Tryz.func136, Tryz.ntmps136
  go_wp2
  go_loopw [9, 10] (fun i j wr => ∃ p q : Nat, p ≤ lo s L ∧ lo s L ≤ q ∧ q ≤ L.length ∧ i = .int .i64 p ∧ j = .int .i64 q ∧ Below w.heap.size w wr) (fun i j _ => (intOf j).toNat - (intOf i).toNat)
  case atStart => exact ⟨0, L.length, Nat.zero_le _, hlo, Nat.le_refl _, rfl, rfl, Below.refl _ _⟩
  case round =>
    obtain ⟨p, q, h1, h2, h3, rfl, rfl, hBw⟩ := hrel
    have HR : Hid (p ≤ lo s L ∧ lo s L ≤ q ∧ Below w.heap.size w wr) := ⟨h1, h2, hBw⟩
    by_cases hlt : p < q
    · obtain ⟨m, hm⟩ : ∃ m, m = (p + q) / 2 := ⟨_, rfl⟩
      have hml : m < L.length := by omega
      have hmq : m < q := by omega
      have hpm : p ≤ m := by omega
      have hdiv : ((p : Int) + (q : Int)) / 2 = (m : Int) := by omega
      obtain ⟨x, hx⟩ : ∃ x, L[m]? = some x := ⟨L[m], by simp [hml]⟩
      obtain ⟨c0, c1, c2, c3⟩ := HS.out.1 m x hx
      have d0 := (hBw.cell (p := ⟨b, off + m * 4, none⟩) hb).trans c0
      have d1 := (hBw.cell (p := ⟨b, off + m * 4 + 1, none⟩) hb).trans c1
      have d2 := (hBw.cell (p := ⟨b, off + m * 4 + 2, none⟩) hb).trans c2
      have d3 := (hBw.cell (p := ⟨b, off + m * 4 + 3, none⟩) hb).trans c3
      have hsp := lo_spec s HS.out.2 m x hx
      rw [less_cmp, decide_eq_true_iff] at hsp
      have cb := fun W => fName_any x s W
      obtain ⟨r, hr⟩ : ∃ r, Lib.compareBytes x.nm s = r := ⟨_, rfl⟩
      rw [hr] at cb hsp
      clear c0 c1 c2 c3 hr hx hm
      by_cases hr0 : r < 0
      · have HM : Hid (m + 1 ≤ lo s L) := hsp.2 hr0
        clear hsp h1 h2
        go_upto_region 5 with fail
        try rw [hdiv]
        clear hdiv
        go_wp2_with (go_at_call 137; refine (cb _).mono ?_; rintro e W2 ⟨rfl, hB2⟩)
        go_roundw
        case rel => exact ⟨m + 1, q, HM.out, HR.out.2.1, h3, by go_num, rfl, on1K HR.out.2.2 hB2 (Nat.le_refl _)⟩
        case measure => simp [intOf]; omega
      · have HM : Hid (lo s L ≤ m) := by
          show _ ≤ _
          have : ¬ m < lo s L := fun h => hr0 (hsp.1 h)
          omega
        clear hsp h1 h2
        go_upto_region 5 with fail
        try rw [hdiv]
        clear hdiv
        go_wp2_with (go_at_call 137; refine (cb _).mono ?_; rintro e W2 ⟨rfl, hB2⟩)
        go_roundw
        case rel => exact ⟨p, m, HR.out.1, HM.out, by omega, rfl, by go_num, on1K HR.out.2.2 hB2 (Nat.le_refl _)⟩
        case measure => simp [intOf]; omega
    · have hpl : p = lo s L := by omega
      by_cases hl : p < L.length
      · obtain ⟨x, hx⟩ : ∃ x, L[p]? = some x := ⟨L[p], by simp [hl]⟩
        obtain ⟨c0, c1, c2, c3⟩ := HS.out.1 p x hx
        have d0 := (hBw.cell (p := ⟨b, off + p * 4, none⟩) hb).trans c0
        have d1 := (hBw.cell (p := ⟨b, off + p * 4 + 1, none⟩) hb).trans c1
        have d2 := (hBw.cell (p := ⟨b, off + p * 4 + 2, none⟩) hb).trans c2
        have d3 := (hBw.cell (p := ⟨b, off + p * 4 + 3, none⟩) hb).trans c3
        have cb := fun W => fName_any x s W
        have hz := cmpB_zero x.nm s
        have hfnd : fnd s L = (Lib.compareBytes x.nm s == 0) := by
          unfold fnd; rw [← hpl, hx]; simp only
          rw [Bool.eq_iff_iff, beq_iff_eq, beq_iff_eq]; exact hz.symm
        obtain ⟨r, hr⟩ : ∃ r, Lib.compareBytes x.nm s = r := ⟨_, rfl⟩
        rw [hr] at cb hfnd
        have HF : Hid (fnd s L = (r == 0) ∧ p = lo s L) := ⟨hfnd, hpl⟩
        have hpi : (p : Int) < (L.length : Int) := by omega
        clear c0 c1 c2 c3 hr hx hz hfnd hpl h1 h2
        go_wp2_with (go_at_call 137; refine (cb _).mono ?_; rintro e W2 ⟨rfl, hB2⟩)
        go_ret2
        exact ⟨ret_v (by rw [HF.out.1, ← HF.out.2]; rfl), on1K hBw hB2 (Nat.le_refl _)⟩
      · have hfnd : fnd s L = false := by
          unfold fnd; rw [← hpl, List.getElem?_eq_none (by omega)]
        have HF : Hid (fnd s L = false ∧ p = lo s L) := ⟨hfnd, hpl⟩
        have hpi : ¬ (p : Int) < (L.length : Int) := by omega
        have hpd : decide ((p : Int) < (L.length : Int)) = false := by simpa using hpi
        clear hfnd hpl h1 h2
        go_wp2
        go_ret2
        exact ⟨ret_v (by rw [HF.out.1, ← HF.out.2]; rfl), hBw⟩
set_option maxHeartbeats 4000000 in
theorem searchN_nil (ao : Option Addr) (c : Nat) (s : Nm) (w : World) :
    Calls Tryz.prog 136 #[.slice ao 0 c, .string (bs s), .func (.func 137) #[] #[]] w fun e w' => e = .returned (.tuple #[.int .i64 0, .bool false]) ∧ Below w.heap.size w w' := by
  go_enter Tryz.func136, Tryz.ntmps136
  go_wp2
  go_loopw [9, 10] (fun i j wr => i = .int .i64 0 ∧ j = .int .i64 0 ∧ wr = w) (fun i j _ => 0)
  case atStart => exact ⟨rfl, rfl, rfl⟩
  case round =>
    obtain ⟨rfl, rfl, rfl⟩ := hrel
    go_wp2
    go_ret2
    exact ⟨rfl, Below.refl _ _⟩
theorem searchN_any {v : Value} {L : List Fd} {w : World} (h : IsF w v L) (hs : Srt L) (hn : L.length ≤ 96) (s : Nm) :
    Calls Tryz.prog 136 #[v, .string (bs s), .func (.func 137) #[] #[]] w fun e w' => e = .returned (.tuple #[.int .i64 (lo s L), .bool (fnd s L)]) ∧ Below w.heap.size w w' := by
  rcases h with ⟨ao, c, rfl, rfl, _⟩ | ⟨b, off, cap, rfl, hcap, hm, hb, hl⟩
  · exact searchN_nil ao c s w
  · exact searchN_some b off cap L s w hb hl hs hn
set_option maxHeartbeats 1000000 in
theorem findField_any {v : Value} {L : List Fd} {w : World} (h : IsF w v L) (hs : Srt L) (hn : L.length ≤ 96) (s : Nm) :
    Calls Tryz.prog 110 #[v, .string (bs s)] w fun e w' => e = .returned (.tuple #[.int .i64 (lo s L), .bool (fnd s L)]) ∧ Below w.heap.size w w' := by
  have c := searchN_any h hs hn s
  generalize (lo s L : Int) = a at c ⊢
  generalize fnd s L = r at c ⊢
  clear h hs hn
  go_enter Tryz.func110, Tryz.ntmps110
  go_wp2_with (go_at_call 136; refine c.mono ?_; rintro e w' ⟨rfl, hB1⟩)
  go_ret2
  exact ⟨rfl, hB1⟩
end Go.Proofs.YtpmblbhemcippaaGreatDoor

/-
  The walk of change.checkAdded.
-/
namespace Go.Proofs.YtpmblbhemcippaaGreatDoor
open Go.RowKit
set_option linter.unusedVariables false
set_option linter.unusedSimpArgs false

set_option maxHeartbeats 4000000 in
set_option maxRecDepth 100000 in
theorem checkAdded_any (f : Fd) (t n : Int) (s : Nm) (w : World) (hs : s.length ≤ maxLen) :
    Calls Tryz.prog 111 #[f.one, .agg #[.int .i64 t, .int .i64 n, .string (bs s)]] w fun e w' => e = .returned (errV (adE f t n s)) ∧ Below w.heap.size w w' := by
  obtain ⟨fn, ft, fm, fk⟩ := f
  have hB0 : Below w.heap.size w ((w.alloc (.cells #[.string (bs fn), .int .i64 ft, .bool fm, .bool fk] 28)).alloc (.cells #[.int .i64 t, .int .i64 n, .string (bs s)] 36)) := b_alloc (b_alloc (Below.refl _ _) _) _
  by_cases hk : fk = true
  · have H : Hid (adE ⟨fn, ft, fm, fk⟩ t n s = 3) := by show _ = _; unfold adE; rw [if_pos hk]
    subst hk
    go_enter Tryz.func111, Tryz.ntmps111
    go_wp2
    go_ret
    exact ⟨ret_v (by rw [H.out]; rfl), hB0⟩
  · by_cases ht : t = 0
    · by_cases hm : fm = true
      · have H : Hid (adE ⟨fn, ft, fm, fk⟩ t n s = 3) := by show _ = _; unfold adE; rw [if_neg hk, if_pos ht, if_pos hm]
        have hk' : fk = false := by simpa using hk
        subst hk' ht hm
        go_enter Tryz.func111, Tryz.ntmps111
        go_wp2
        go_ret
        exact ⟨ret_v (by rw [H.out]; rfl), hB0⟩
      · have H : Hid (adE ⟨fn, ft, fm, fk⟩ t n s = 0) := by show _ = _; unfold adE; rw [if_neg hk, if_pos ht, if_neg hm]
        have hk' : fk = false := by simpa using hk
        have hm' : fm = false := by simpa using hm
        subst hk' ht hm'
        go_enter Tryz.func111, Tryz.ntmps111
        go_wp2
        go_ret
        exact ⟨ret_v (by rw [H.out]; rfl), hB0⟩
    · have hz : (bs s).size ≤ maxLen := by rw [bs_size]; exact hs
      have cv := fun w => check_any t n (bs s) w hz
      unfold val at cv
      simp only [bs_data] at cv
      have hk' : fk = false := by simpa using hk
      have hte : (t == 0) = false := by simpa using ht
      by_cases hv : vErr t n s = 0
      · rw [hv, errV_0] at cv
        by_cases hft : t = ft
        · have H : Hid (adE ⟨fn, ft, fm, fk⟩ t n s = 0) := by show _ = _; unfold adE; rw [if_neg hk, if_neg ht, if_pos hv, if_pos hft]
          subst hk' hft
          clear hv hk
          go_enter Tryz.func111, Tryz.ntmps111
          go_wp2_with (go_at_call 50; refine (cv _).mono ?_; rintro e w' ⟨rfl, rfl⟩)
          go_ret
          exact ⟨ret_v (by rw [H.out]; rfl), b_alloc hB0 _⟩
        · have H : Hid (adE ⟨fn, ft, fm, fk⟩ t n s = 8) := by show _ = _; unfold adE; rw [if_neg hk, if_neg ht, if_pos hv, if_neg hft]
          have hne : (t != ft) = true := by simpa using hft
          subst hk'
          clear hv hk
          go_enter Tryz.func111, Tryz.ntmps111
          go_wp2_with (go_at_call 50; refine (cv _).mono ?_; rintro e w' ⟨rfl, rfl⟩)
          go_ret
          exact ⟨ret_v (by rw [H.out]; rfl), b_alloc hB0 _⟩
      · have H : Hid (adE ⟨fn, ft, fm, fk⟩ t n s = vErr t n s) := by show _ = _; unfold adE; rw [if_neg hk, if_neg ht, if_neg hv]
        rw [errV_ne hv] at cv
        have HV := Lib.hid hv
        subst hk'
        clear hv hk
        go_enter Tryz.func111, Tryz.ntmps111
        go_wp2_with (go_at_call 50; refine (cv _).mono ?_; rintro e w' ⟨rfl, rfl⟩)
        go_ret
        exact ⟨ret_v (by rw [H.out, errV_ne HV.out]; rfl), b_alloc hB0 _⟩
end Go.Proofs.YtpmblbhemcippaaGreatDoor
