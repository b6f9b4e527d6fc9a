/-
  The walk of change.dropKind.
-/
import Derived.Test.YtkmkhadacppdnaaDoorChA
import Derived.Test.YtkmkhadacppdnaaDoorChM
namespace Go.Proofs.YtkmkhadacppdnaaDoor
open Go.RowKit
set_option linter.unusedVariables false
set_option linter.unusedSimpArgs false

/-- The first that is so. -/
def gidx {α : Type} (q : α → Bool) : List α → Nat → Int
  | [], _ => -1
  | p :: r, k => if q p = true then k else gidx q r (k + 1)
theorem gidx_has {α : Type} (q : α → Bool) (L : List α) : ∀ k : Nat, decide (0 ≤ gidx q L k) = L.any q := by
  induction L with
  | nil => intro k; rfl
  | cons p r ih =>
    intro k
    unfold gidx
    rw [List.any_cons]
    cases hq : q p
    · simpa using ih (k + 1)
    · simp
/-- Does a kind come of one? -/
def cmsQ (n : Nm) (k : Kd) : Bool := hasN k.of n
/-- Does a bond ask for one? -/
def asks (n : Nm) (x : Bd) : Bool := x.fr == n || x.tt == n
theorem usK_eq (L : List Kd) (n : Nm) : L.any (cmsQ n) = usK L n := rfl
theorem usB_eq (B : List Bd) (n : Nm) : B.any (asks n) = usB B n := rfl
set_option maxHeartbeats 1000000 in
theorem comes_any (k : Kd) (b : Nat) (n : Nm) (w : World) (hc : w.cell? ⟨b, 0, none⟩ = some (.string (bs n))) (hb : b < w.heap.size) (hs : IsS w k.vo k.of) (hl : k.of.length ≤ 4) :
    Calls Tryd.prog 46 #[k.one, .pointer (some ⟨b, 0, none⟩)] w fun e w' => e = .returned (.bool (cmsQ n k)) ∧ Below w.heap.size w w' := by
  obtain ⟨nm, of, fs, vo, vf⟩ := k
  obtain ⟨a, l, c, e⟩ := hs.sl
  simp only at e
  subst e
  have hB0 : Below w.heap.size w (w.alloc (.cells #[.string (bs nm), .slice a l c, vf] 34)) := b_alloc (Below.refl _ _) _
  have cc := contains_any (hs.on hB0) (by simp only at hl ⊢; omega) n
  unfold cmsQ
  simp only at cc ⊢
  generalize hasN of n = r at cc ⊢
  clear hs hl
  go_enter Tryd.func46, Tryd.ntmps46
  go_wp2_with (go_at_call 47; refine cc.mono ?_; rintro e w' ⟨rfl, rfl⟩)
  go_ret
  exact ⟨rfl, hB0⟩
set_option maxHeartbeats 1000000 in
theorem asks_any (x : Bd) (b : Nat) (n : Nm) (w : World) (hc : w.cell? ⟨b, 0, none⟩ = some (.string (bs n))) (hb : b < w.heap.size) :
    Calls Tryd.prog 48 #[x.one, .pointer (some ⟨b, 0, none⟩)] w fun e w' => e = .returned (.bool (asks n x)) ∧ Below w.heap.size w w' := by
  have hB0 : Below w.heap.size w (w.alloc (.cells #[.string (bs x.nm), .string (bs x.fr), .string (bs x.tt), .int .i64 x.mn, .int .i64 x.mx] 36)) := b_alloc (Below.refl _ _) _
  have hne : ¬ b = w.heap.size := by omega
  cases h1 : (x.fr == n)
  · cases h2 : (x.tt == n)
    all_goals
      go_enter Tryd.func48, Tryd.ntmps48
      go_wp2
      go_ret
      exact ⟨by simp [asks, h1, h2], hB0⟩
  · go_enter Tryd.func48, Tryd.ntmps48
    go_wp2
    go_ret
    exact ⟨by simp [asks, h1], hB0⟩
set_option maxHeartbeats 4000000 in
set_option maxRecDepth 100000 in
theorem idxC_some (b off cap : Nat) (L : List Kd) (bn : Nat) (n : Nm) (w : World) (hb : b < w.heap.size) (hL : LiesK w b off L) (hP : Parts w L) (hS : Small L) (hn : L.length ≤ 12) (hbn : bn < w.heap.size) (hc : w.cell? ⟨bn, 0, none⟩ = some (.string (bs n))) :
    Calls Tryd.prog 58 #[.slice (some ⟨b, off, none⟩) L.length cap, .func (.func 46) #[] #[.pointer (some ⟨bn, 0, none⟩)]] w fun e w' => e = .returned (.int .i64 (gidx (cmsQ n) L 0)) ∧ Below w.heap.size w w' := by
  have HPS : Hid (Parts w L ∧ Small L) := ⟨hP, hS⟩
  clear hP hS
  go_enter Tryd.func58, Tryd.ntmps58
  go_wp2
  go_loopw [8] (fun i wr => ∃ k : Nat, k ≤ L.length ∧ i = .int .i64 k ∧ gidx (cmsQ n) L 0 = gidx (cmsQ n) (L.drop k) k ∧ Below w.heap.size w wr) (fun i _ => L.length - (intOf i).toNat)
  case atStart => exact ⟨0, Nat.zero_le _, rfl, rfl, Below.refl _ _⟩
  case round =>
    obtain ⟨k, hk, rfl, hi, hB⟩ := hrel
    have HI : Hid (gidx (cmsQ n) L 0 = gidx (cmsQ n) (L.drop k) k) := hi
    clear hi
    by_cases hlt : k < L.length
    · obtain ⟨p, hp⟩ : ∃ p, L[k]? = some p := ⟨L[k], by simp [hlt]⟩
      obtain ⟨c0, c1, c2⟩ := hL k p hp
      have d0 := (hB.cell (p := ⟨b, off + k * 3, none⟩) hb).trans c0
      have d1 := (hB.cell (p := ⟨b, off + k * 3 + 1, none⟩) hb).trans c1
      have d2 := (hB.cell (p := ⟨b, off + k * 3 + 2, none⟩) hb).trans c2
      have HD : Hid (L.drop k = p :: L.drop (k + 1)) := dropK hp
      have hpm := List.mem_of_getElem? hp
      have cn := comes_any p bn n wr ((hB.cell (p := ⟨bn, 0, none⟩) hbn).trans hc) (Nat.lt_of_lt_of_le hbn hB.size) ((HPS.out.1 p hpm).1.on hB) (HPS.out.2 p hpm).1
      clear c0 c1 c2 hp hL hc hpm
      by_cases hq : cmsQ n p = true
      · have H : Hid (gidx (cmsQ n) L 0 = k) := by
          show _ = _
          rw [HI.out, HD.out]; unfold gidx; rw [if_pos hq]
        rw [hq] at cn
        clear HI HD hq
        go_wp2_with (go_at_call 46; refine cn.mono ?_; rintro e w' ⟨rfl, hB2⟩)
        go_ret
        exact ⟨ret_v (by rw [H.out]; rfl), on1K hB hB2 (Nat.le_refl _)⟩
      · have H : Hid (gidx (cmsQ n) L 0 = gidx (cmsQ n) (L.drop (k + 1)) (k + 1)) := by
          show _ = _
          rw [HI.out, HD.out]; conv => lhs; unfold gidx
          rw [if_neg hq]
        have hq' : cmsQ n p = false := by simpa using hq
        rw [hq'] at cn
        clear HI HD hq hq'
        go_wp2_with (go_at_call 46; refine cn.mono ?_; rintro e w' ⟨rfl, hB2⟩)
        go_roundw
        case rel => exact ⟨k + 1, by omega, by go_num, H.out, on1K hB hB2 (Nat.le_refl _)⟩
        case measure => simp [intOf]; omega
    · have hd : L.drop k = [] := List.drop_eq_nil_of_le (by omega)
      have H : Hid (gidx (cmsQ n) L 0 = -1) := by
        show _ = _
        rw [HI.out, hd]; rfl
      clear HI hd hL hc
      go_wp2
      go_ret
      exact ⟨ret_v (by rw [H.out]; rfl), hB⟩
theorem idxC_any {v : Value} {L : List Kd} {w : World} (h : IsK w v L) (hP : Parts w L) (hS : Small L) (hn : L.length ≤ 12) (bn : Nat) (n : Nm) (hbn : bn < w.heap.size) (hc : w.cell? ⟨bn, 0, none⟩ = some (.string (bs n))) :
    Calls Tryd.prog 58 #[v, .func (.func 46) #[] #[.pointer (some ⟨bn, 0, none⟩)]] w fun e w' => e = .returned (.int .i64 (gidx (cmsQ n) L 0)) ∧ Below w.heap.size w w' := by
  rcases h with ⟨rfl, rfl⟩ | ⟨b, off, cap, rfl, hcap, hm, hb, hl⟩
  · exact idxF_nil _ w
  · exact idxC_some b off cap L bn n w hb hl hP hS hn hbn hc
set_option maxHeartbeats 1000000 in
theorem anyK_any {v : Value} {L : List Kd} {w : World} (h : IsK w v L) (hP : Parts w L) (hS : Small L) (hn : L.length ≤ 12) (bn : Nat) (n : Nm) (hbn : bn < w.heap.size) (hc : w.cell? ⟨bn, 0, none⟩ = some (.string (bs n))) :
    Calls Tryd.prog 43 #[v, .func (.func 46) #[] #[.pointer (some ⟨bn, 0, none⟩)]] w fun e w' => e = .returned (.bool (usK L n)) ∧ Below w.heap.size w w' := by
  have c := idxC_any h hP hS hn bn n hbn hc
  have H : Hid (decide (0 ≤ gidx (cmsQ n) L 0) = usK L n) := (gidx_has _ _ _).trans (usK_eq L n)
  generalize gidx (cmsQ n) L 0 = r at c H
  clear h hP hS hn
  go_enter Tryd.func43, Tryd.ntmps43
  go_wp2_with (go_at_call 58; refine c.mono ?_; rintro e w' ⟨rfl, hB1⟩)
  go_ret
  exact ⟨ret_v (by rw [← H.out]; rfl), hB1⟩
set_option maxHeartbeats 4000000 in
set_option maxRecDepth 100000 in
theorem idxA_some (b off cap : Nat) (L : List Bd) (bn : Nat) (n : Nm) (w : World) (hb : b < w.heap.size) (hL : LiesB w b off L) (hn : L.length ≤ 12) (hbn : bn < w.heap.size) (hc : w.cell? ⟨bn, 0, none⟩ = some (.string (bs n))) :
    Calls Tryd.prog 41 #[.slice (some ⟨b, off, none⟩) L.length cap, .func (.func 48) #[] #[.pointer (some ⟨bn, 0, none⟩)]] w fun e w' => e = .returned (.int .i64 (gidx (asks n) L 0)) ∧ Below w.heap.size w w' := by
  go_enter Tryd.func41, Tryd.ntmps41
  go_wp2
  go_loopw [8] (fun i wr => ∃ k : Nat, k ≤ L.length ∧ i = .int .i64 k ∧ gidx (asks n) L 0 = gidx (asks n) (L.drop k) k ∧ Below w.heap.size w wr) (fun i _ => L.length - (intOf i).toNat)
  case atStart => exact ⟨0, Nat.zero_le _, rfl, rfl, Below.refl _ _⟩
  case round =>
    obtain ⟨k, hk, rfl, hi, hB⟩ := hrel
    have HI : Hid (gidx (asks n) L 0 = gidx (asks n) (L.drop k) k) := hi
    clear hi
    by_cases hlt : k < L.length
    · obtain ⟨p, hp⟩ : ∃ p, L[k]? = some p := ⟨L[k], by simp [hlt]⟩
      obtain ⟨c0, c1, c2, c3, c4⟩ := hL k p hp
      have d0 := (hB.cell (p := ⟨b, off + k * 5, none⟩) hb).trans c0
      have d1 := (hB.cell (p := ⟨b, off + k * 5 + 1, none⟩) hb).trans c1
      have d2 := (hB.cell (p := ⟨b, off + k * 5 + 2, none⟩) hb).trans c2
      have d3 := (hB.cell (p := ⟨b, off + k * 5 + 3, none⟩) hb).trans c3
      have d4 := (hB.cell (p := ⟨b, off + k * 5 + 4, none⟩) hb).trans c4
      have HD : Hid (L.drop k = p :: L.drop (k + 1)) := dropK hp
      have cn := asks_any p bn n wr ((hB.cell (p := ⟨bn, 0, none⟩) hbn).trans hc) (Nat.lt_of_lt_of_le hbn hB.size)
      clear c0 c1 c2 c3 c4 hp hL hc
      by_cases hq : asks n p = true
      · have H : Hid (gidx (asks n) L 0 = k) := by
          show _ = _
          rw [HI.out, HD.out]; unfold gidx; rw [if_pos hq]
        rw [hq] at cn
        clear HI HD hq
        go_wp2_with (go_at_call 48; refine cn.mono ?_; rintro e w' ⟨rfl, hB2⟩)
        go_ret
        exact ⟨ret_v (by rw [H.out]; rfl), on1K hB hB2 (Nat.le_refl _)⟩
      · have H : Hid (gidx (asks n) L 0 = gidx (asks n) (L.drop (k + 1)) (k + 1)) := by
          show _ = _
          rw [HI.out, HD.out]; conv => lhs; unfold gidx
          rw [if_neg hq]
        have hq' : asks n p = false := by simpa using hq
        rw [hq'] at cn
        clear HI HD hq hq'
        go_wp2_with (go_at_call 48; refine cn.mono ?_; rintro e w' ⟨rfl, hB2⟩)
        go_roundw
        case rel => exact ⟨k + 1, by omega, by go_num, H.out, on1K hB hB2 (Nat.le_refl _)⟩
        case measure => simp [intOf]; omega
    · have hd : L.drop k = [] := List.drop_eq_nil_of_le (by omega)
      have H : Hid (gidx (asks n) L 0 = -1) := by
        show _ = _
        rw [HI.out, hd]; rfl
      clear HI hd hL hc
      go_wp2
      go_ret
      exact ⟨ret_v (by rw [H.out]; rfl), hB⟩
theorem idxA_any {v : Value} {L : List Bd} {w : World} (h : IsB w v L) (hn : L.length ≤ 12) (bn : Nat) (n : Nm) (hbn : bn < w.heap.size) (hc : w.cell? ⟨bn, 0, none⟩ = some (.string (bs n))) :
    Calls Tryd.prog 41 #[v, .func (.func 48) #[] #[.pointer (some ⟨bn, 0, none⟩)]] w fun e w' => e = .returned (.int .i64 (gidx (asks n) L 0)) ∧ Below w.heap.size w w' := by
  rcases h with ⟨rfl, rfl⟩ | ⟨b, off, cap, rfl, hcap, hm, hb, hl⟩
  · exact idxFB_nil _ w
  · exact idxA_some b off cap L bn n w hb hl hn hbn hc
set_option maxHeartbeats 1000000 in
theorem anyB_any {v : Value} {L : List Bd} {w : World} (h : IsB w v L) (hn : L.length ≤ 12) (bn : Nat) (n : Nm) (hbn : bn < w.heap.size) (hc : w.cell? ⟨bn, 0, none⟩ = some (.string (bs n))) :
    Calls Tryd.prog 49 #[v, .func (.func 48) #[] #[.pointer (some ⟨bn, 0, none⟩)]] w fun e w' => e = .returned (.bool (usB L n)) ∧ Below w.heap.size w w' := by
  have c := idxA_any h hn bn n hbn hc
  have H : Hid (decide (0 ≤ gidx (asks n) L 0) = usB L n) := (gidx_has _ _ _).trans (usB_eq L n)
  generalize gidx (asks n) L 0 = r at c H
  clear h hn
  go_enter Tryd.func49, Tryd.ntmps49
  go_wp2_with (go_at_call 41; refine c.mono ?_; rintro e w' ⟨rfl, hB1⟩)
  go_ret
  exact ⟨ret_v (by rw [← H.out]; rfl), hB1⟩
end Go.Proofs.YtkmkhadacppdnaaDoor
