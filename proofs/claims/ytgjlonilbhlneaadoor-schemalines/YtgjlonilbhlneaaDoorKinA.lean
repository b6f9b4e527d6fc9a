/-
  The small walks of package kind: where a kind of a name stands, and whether a name is in a list.
-/
import Derived.Test.YtgjlonilbhlneaaDoorKinD
import Derived.Test.YtgjlonilbhlneaaDoorCopyN
import Derived.Lib.Hide
import Derived.Deep.QuietTactic
import Derived.BigQuiet
import Derived.Deep.RegionLaw
import Derived.Deep.RegionWith
namespace Go.Proofs.YtgjlonilbhlneaaDoor
open Go.RowKit
set_option linter.unusedVariables false
set_option linter.unusedSimpArgs false

theorem b_alloc {B : Nat} {w w' : World} (h : Below B w w') (hB : B ≤ w.heap.size) (o : Obj) : Below B w (w'.alloc o) := h.alloc (Nat.le_trans hB h.size) o
theorem on1 {B : Nat} {w w1 w2 : World} (h1 : Below B w w1) (h2 : Below w1.heap.size w1 w2) (hB : B ≤ w.heap.size) : Below B w w2 := h1.trans (h2.mono (Nat.le_trans hB h1.size))

set_option maxHeartbeats 1000000 in
theorem isName_any (k : Kd) (b : Nat) (s : Nm) (w : World) (hc : w.cell? ⟨b, 0, none⟩ = some (.string (bs s))) (hb : b < w.heap.size) :
    Calls Tryd.prog 39 #[k.one, .pointer (some ⟨b, 0, none⟩)] w fun e w' => e = .returned (.bool (k.nm == s)) ∧ w' = w.alloc (.cells #[.string (bs k.nm), k.vo, k.vf] 33) := by
  go_enter Tryd.func39, Tryd.ntmps39
  go_wp2
  go_ret
  exact ⟨by simp, rfl⟩
set_option maxHeartbeats 4000000 in
set_option maxRecDepth 100000 in
theorem idxF_some (b off cap : Nat) (L : List Kd) (bn : Nat) (s : Nm) (w : World) (hb : b < w.heap.size) (hL : LiesK w b off L) (hn : L.length ≤ 12) (hbn : bn < w.heap.size) (hc : w.cell? ⟨bn, 0, none⟩ = some (.string (bs s))) :
    Calls Tryd.prog 38 #[.slice (some ⟨b, off, none⟩) L.length cap, .func (.func 39) #[] #[.pointer (some ⟨bn, 0, none⟩)]] w fun e w' => e = .returned (.int .i64 (idxK s L 0)) ∧ Below w.heap.size w w' := by
  go_enter Tryd.func38, Tryd.ntmps38
  go_wp2
  go_loopw [8] (fun i wr => ∃ k : Nat, k ≤ L.length ∧ i = .int .i64 k ∧ idxK s L 0 = idxK s (L.drop k) k ∧ Below w.heap.size w wr) (fun i _ => L.length - (intOf i).toNat)
  case atStart => exact ⟨0, Nat.zero_le _, rfl, rfl, Below.refl _ _⟩
  case round =>
    obtain ⟨k, hk, rfl, hi, hB⟩ := hrel
    have HI : Hid (idxK s L 0 = idxK s (L.drop k) k) := hi
    clear hi
    by_cases hlt : k < L.length
    · obtain ⟨p, hp⟩ : ∃ p, L[k]? = some p := ⟨L[k], by simp [hlt]⟩
      obtain ⟨c0, c1, c2⟩ := hL k p hp
      have d0 := (hB.cell (p := ⟨b, off + k * 3, none⟩) hb).trans c0
      have d1 := (hB.cell (p := ⟨b, off + k * 3 + 1, none⟩) hb).trans c1
      have d2 := (hB.cell (p := ⟨b, off + k * 3 + 2, none⟩) hb).trans c2
      have HD : Hid (L.drop k = p :: L.drop (k + 1)) := dropK hp
      have cn := isName_any p bn s wr ((hB.cell (p := ⟨bn, 0, none⟩) hbn).trans hc) (Nat.lt_of_lt_of_le hbn hB.size)
      clear c0 c1 c2 hp hL hc
      by_cases hq : (p.nm == s) = true
      · have H : Hid (idxK s L 0 = k) := by
          show _ = _
          rw [HI.out, HD.out]; unfold idxK; rw [if_pos hq]
        rw [hq] at cn
        clear HI HD hq
        go_wp2_with (go_at_call 39; refine cn.mono ?_; rintro e w' ⟨rfl, rfl⟩)
        go_ret
        exact ⟨ret_v (by rw [H.out]; rfl), b_alloc hB (Nat.le_refl _) _⟩
      · have H : Hid (idxK s L 0 = idxK s (L.drop (k + 1)) (k + 1)) := by
          show _ = _
          rw [HI.out, HD.out]; conv => lhs; unfold idxK
          rw [if_neg hq]
        have hq' : (p.nm == s) = false := by simpa using hq
        rw [hq'] at cn
        clear HI HD hq hq'
        go_wp2_with (go_at_call 39; refine cn.mono ?_; rintro e w' ⟨rfl, rfl⟩)
        go_roundw
        case rel => exact ⟨k + 1, by omega, by go_num, H.out, b_alloc hB (Nat.le_refl _) _⟩
        case measure => simp [intOf]; omega
    · have hd : L.drop k = [] := List.drop_eq_nil_of_le (by omega)
      have H : Hid (idxK s L 0 = -1) := by
        show _ = _
        rw [HI.out, hd]; rfl
      clear HI hd hL hc
      go_wp2
      go_ret
      exact ⟨ret_v (by rw [H.out]; rfl), hB⟩
set_option maxHeartbeats 1000000 in
theorem idxF_nil (f : Value) (w : World) :
    Calls Tryd.prog 38 #[.slice none 0 0, f] w fun e w' => e = .returned (.int .i64 (-1)) ∧ Below w.heap.size w w' := by
  go_enter Tryd.func38, Tryd.ntmps38
  go_wp2
  go_loopw [8] (fun i wr => i = .int .i64 0 ∧ wr = w) (fun i _ => 0)
  case atStart => exact ⟨rfl, rfl⟩
  case round =>
    obtain ⟨rfl, rfl⟩ := hrel
    go_wp2
    go_ret
    exact ⟨rfl, Below.refl _ _⟩
theorem idxF_any {v : Value} {L : List Kd} {w : World} (h : IsK w v L) (hn : L.length ≤ 12) (bn : Nat) (s : Nm) (hbn : bn < w.heap.size) (hc : w.cell? ⟨bn, 0, none⟩ = some (.string (bs s))) :
    Calls Tryd.prog 38 #[v, .func (.func 39) #[] #[.pointer (some ⟨bn, 0, none⟩)]] w fun e w' => e = .returned (.int .i64 (idxK s L 0)) ∧ Below w.heap.size w w' := by
  rcases h with ⟨rfl, rfl⟩ | ⟨b, off, cap, rfl, hcap, hm, hb, hl⟩
  · exact idxF_nil _ w
  · exact idxF_some b off cap L bn s w hb hl hn hbn hc
set_option maxHeartbeats 1000000 in
theorem index_any {v : Value} {L : List Kd} {w : World} (h : IsK w v L) (hn : L.length ≤ 12) (s : Nm) :
    Calls Tryd.prog 25 #[v, .string (bs s)] w fun e w' => e = .returned (.int .i64 (idxK s L 0)) ∧ Below w.heap.size w w' := by
  have hB0 : Below w.heap.size w (w.alloc (.cells #[.string (bs s)] 9)) := b_alloc (Below.refl _ _) (Nat.le_refl _) _
  have c := idxF_any (h.on hB0) hn w.heap.size s (by simp) (by simp)
  generalize idxK s L 0 = r at c ⊢
  clear h hn
  go_enter Tryd.func25, Tryd.ntmps25
  go_wp2_with (go_at_call 38; refine c.mono ?_; rintro e w' ⟨rfl, hB1⟩)
  go_ret
  exact ⟨rfl, on1 hB0 hB1 (Nat.le_refl _)⟩

/-- The place of a name in a list. -/
def idxS (nm : Nm) : List Nm → Nat → Int
  | [], _ => -1
  | p :: r, k => if (nm == p) = true then k else idxS nm r (k + 1)
theorem idxS_has (nm : Nm) (l : List Nm) : ∀ k : Nat, decide (0 ≤ idxS nm l k) = hasN l nm := by
  induction l with
  | nil => intro k; rfl
  | cons p r ih =>
    intro k
    by_cases h : (nm == p) = true
    · have e : idxS nm (p :: r) k = k := by unfold idxS; rw [if_pos h]
      have h2 : nm = p := by simpa using h
      rw [e]; unfold hasN; simp [h2]
    · have e : idxS nm (p :: r) k = idxS nm r (k + 1) := by
        conv => lhs; unfold idxS
        rw [if_neg h]
      have h2 : ¬ nm = p := by simpa using h
      rw [e, ih]; unfold hasN; simp [h2]
set_option maxHeartbeats 4000000 in
set_option maxRecDepth 100000 in
theorem idxS_some (b off cap : Nat) (L : List Nm) (s : Nm) (w : World) (hL : LiesS w b off L) (hn : L.length ≤ 1000) :
    Calls Tryd.prog 51 #[.slice (some ⟨b, off, none⟩) L.length cap, .string (bs s)] w fun e w' => e = .returned (.int .i64 (idxS s L 0)) ∧ w' = w := by
  go_enter Tryd.func51, Tryd.ntmps51
  go_wp2
  go_loop [8] (fun i => ∃ k : Nat, k ≤ L.length ∧ i = .int .i64 k ∧ idxS s L 0 = idxS s (L.drop k) k) (fun i => L.length - (intOf i).toNat)
  case atStart => exact ⟨0, Nat.zero_le _, rfl, rfl⟩
  case round =>
    obtain ⟨k, hk, rfl, hi⟩ := hrel
    have HI : Hid (idxS s L 0 = idxS s (L.drop k) k) := hi
    clear hi
    by_cases hlt : k < L.length
    · obtain ⟨p, hp⟩ : ∃ p, L[k]? = some p := ⟨L[k], by simp [hlt]⟩
      have c0 := hL k p hp
      have HD : Hid (L.drop k = p :: L.drop (k + 1)) := dropK hp
      clear hp hL
      by_cases hq : (s == p) = true
      · have H : Hid (idxS s L 0 = k) := by
          show _ = _
          rw [HI.out, HD.out]; unfold idxS; rw [if_pos hq]
        have hq2 : ((bs s).toList == (bs p).toList) = true := by simpa using hq
        clear HI HD
        go_wp2
        go_ret
        exact ⟨ret_v (by rw [H.out]; rfl), rfl⟩
      · have H : Hid (idxS s L 0 = idxS s (L.drop (k + 1)) (k + 1)) := by
          show _ = _
          rw [HI.out, HD.out]; conv => lhs; unfold idxS
          rw [if_neg hq]
        have hq' : (s == p) = false := by simpa using hq
        clear HI HD hq
        go_wp2
        go_round
        case rel => exact ⟨k + 1, by omega, by go_num, H.out⟩
        case measure => simp [intOf]; omega
    · have hd : L.drop k = [] := List.drop_eq_nil_of_le (by omega)
      have H : Hid (idxS s L 0 = -1) := by
        show _ = _
        rw [HI.out, hd]; rfl
      clear HI hd hL
      go_wp2
      go_ret
      exact ⟨ret_v (by rw [H.out]; rfl), rfl⟩
set_option maxHeartbeats 1000000 in
theorem idxS_nil (ao : Option Addr) (c : Nat) (s : Nm) (w : World) :
    Calls Tryd.prog 51 #[.slice ao 0 c, .string (bs s)] w fun e w' => e = .returned (.int .i64 (-1)) ∧ w' = w := by
  go_enter Tryd.func51, Tryd.ntmps51
  go_wp2
  go_loop [8] (fun i => i = .int .i64 0) (fun i => 0)
  case atStart => rfl
  case round =>
    obtain rfl := hrel
    go_wp2
    go_ret
    exact ⟨rfl, rfl⟩
theorem idxS_any {v : Value} {L : List Nm} {w : World} (h : IsS w v L) (hn : L.length ≤ 1000) (s : Nm) :
    Calls Tryd.prog 51 #[v, .string (bs s)] w fun e w' => e = .returned (.int .i64 (idxS s L 0)) ∧ w' = w := by
  rcases h with ⟨ao, c, rfl, rfl, _⟩ | ⟨b, off, cap, rfl, hcap, hm, hb, hl⟩
  · exact idxS_nil ao c _ w
  · exact idxS_some b off cap L s w hl hn
set_option maxHeartbeats 1000000 in
theorem contains_any {v : Value} {L : List Nm} {w : World} (h : IsS w v L) (hn : L.length ≤ 1000) (s : Nm) :
    Calls Tryd.prog 40 #[v, .string (bs s)] w fun e w' => e = .returned (.bool (hasN L s)) ∧ w' = w := by
  have c := idxS_any h hn s
  have H : Hid (decide (0 ≤ idxS s L 0) = hasN L s) := idxS_has s L 0
  generalize idxS s L 0 = r at c H
  clear h hn
  go_enter Tryd.func40, Tryd.ntmps40
  go_wp2_with (go_at_call 51; refine c.mono ?_; rintro e w' ⟨rfl, rfl⟩)
  go_ret
  exact ⟨ret_v (by rw [← H.out]; rfl), rfl⟩
end Go.Proofs.YtgjlonilbhlneaaDoor
