/-
  The walks of shape.is, of the test whether a property fits a field, and of slices.ContainsFunc over fields.
-/
import Derived.Test.YtjjnfnlkfojehaaChkM
namespace Go.Proofs.Ytjjnfnlkfojehaa
open Go.RowKit
set_option linter.unusedVariables false
set_option linter.unusedSimpArgs false

set_option maxHeartbeats 1000000 in
theorem is_any {v : Value} {h : Sh} {w : World} (hs : IsSh w v h) (hn : h.kn.length ≤ 1000) (s : Nm) :
    Calls Try.prog 21 #[v, .string (bs s)] w fun e w' => e = .returned (.bool (hasN h.kn s)) ∧ Below w.heap.size w w' := by
  obtain ⟨vk, vf, vb, rfl, h1, h2, h3⟩ := hs
  have HK : Hid (IsS w vk h.kn) := h1
  obtain ⟨a1, c1, rfl, _⟩ := h1.sln
  obtain ⟨a2, c2, rfl, _⟩ := h2.sln
  obtain ⟨a3, c3, rfl, _⟩ := h3.sln
  have hB0 : Below w.heap.size w (w.alloc (.cells #[.slice a1 h.kn.length c1, .slice a2 h.fs.length c2, .slice a3 h.bn.length c3] 76)) := b_allocK (Below.refl _ _) (Nat.le_refl _) _
  have c := contains_any (HK.out.on hB0) hn s
  clear h1 h2 h3
  go_enter Try.func21, Try.ntmps21
  go_wp2_with (go_at_call 32; refine c.mono ?_; rintro e w' ⟨rfl, rfl⟩)
  go_ret
  exact ⟨rfl, hB0⟩

set_option maxHeartbeats 1000000 in
theorem fit_any (f : Fd) (b : Nat) (p : Pr) (w : World) (c0 : w.cell? ⟨b, 0, none⟩ = some (.string p.nm)) (c1 : w.cell? ⟨b, 1, none⟩ = some (.int .i64 p.t)) (hb : b < w.heap.size) :
    Calls Try.prog 33 #[f.one, .pointer (some ⟨b, 0, none⟩)] w fun e w' => e = .returned (.bool (fit1 p f)) ∧ w' = w.alloc (.cells #[.string (bs f.nm), .int .i64 f.t, .bool f.must, .bool f.key] 66) := by
  have hbn : ¬ b = w.heap.size := by omega
  obtain ⟨nm, t, mu, ky⟩ := f
  cases hq : (nm == p.nm.toList)
  · have H : Hid (fit1 p ⟨nm, t, mu, ky⟩ = false) := by show _ = _; unfold fit1; simp only; rw [hq]; rfl
    go_enter Try.func33, Try.ntmps33
    go_wp2
    go_ret
    exact ⟨ret_v (by rw [H.out]; rfl), rfl⟩
  · have H : Hid (fit1 p ⟨nm, t, mu, ky⟩ = (t == p.t)) := by show _ = _; unfold fit1; simp only; rw [hq]; rfl
    go_enter Try.func33, Try.ntmps33
    go_wp2
    go_ret
    exact ⟨ret_v (by rw [H.out]; rfl), rfl⟩

/-- The first that fits. -/
def idxT (p : Pr) : List Fd → Nat → Int
  | [], _ => -1
  | f :: r, k => if fit1 p f = true then k else idxT p r (k + 1)
theorem idxT_has (p : Pr) (L : List Fd) : ∀ k, decide (0 ≤ idxT p L k) = fits L p := by
  induction L with
  | nil => intro k; simp [idxT, fits]
  | cons f r ih =>
    intro k
    unfold idxT
    by_cases h : fit1 p f = true
    · rw [if_pos h]; simp [fits, h]
    · rw [if_neg h, ih]; simp [fits, h]
set_option maxHeartbeats 4000000 in
set_option maxRecDepth 100000 in
theorem idxT_some (b off cap : Nat) (L : List Fd) (bn : Nat) (p : Pr) (w : World) (hb : b < w.heap.size) (hL : LiesF w b off L) (hn : L.length ≤ 8) (hbn : bn < w.heap.size) (c0 : w.cell? ⟨bn, 0, none⟩ = some (.string p.nm)) (c1 : w.cell? ⟨bn, 1, none⟩ = some (.int .i64 p.t)) :
    Calls Try.prog 50 #[.slice (some ⟨b, off, none⟩) L.length cap, .func (.func 33) #[] #[.pointer (some ⟨bn, 0, none⟩)]] w fun e w' => e = .returned (.int .i64 (idxT p L 0)) ∧ Below w.heap.size w w' := by
  go_enter Try.func50, Try.ntmps50
  go_wp2
  go_loopw [8] (fun i wr => ∃ k : Nat, k ≤ L.length ∧ i = .int .i64 k ∧ idxT p L 0 = idxT p (L.drop k) k ∧ Below w.heap.size w wr) (fun i _ => L.length - (intOf i).toNat)
  case atStart => exact ⟨0, Nat.zero_le _, rfl, rfl, Below.refl _ _⟩
  case round =>
    obtain ⟨k, hk, rfl, hi, hB⟩ := hrel
    have HI : Hid (idxT p L 0 = idxT p (L.drop k) k) := hi
    clear hi
    by_cases hlt : k < L.length
    · obtain ⟨f, hf⟩ : ∃ f, L[k]? = some f := ⟨L[k], by simp [hlt]⟩
      obtain ⟨e0, e1, e2, e3⟩ := hL k f hf
      have d0 := (hB.cell (p := ⟨b, off + k * 4, none⟩) hb).trans e0
      have d1 := (hB.cell (p := ⟨b, off + k * 4 + 1, none⟩) hb).trans e1
      have d2 := (hB.cell (p := ⟨b, off + k * 4 + 2, none⟩) hb).trans e2
      have d3 := (hB.cell (p := ⟨b, off + k * 4 + 3, none⟩) hb).trans e3
      have HD : Hid (L.drop k = f :: L.drop (k + 1)) := dropK hf
      have cn := fit_any f bn p wr ((hB.cell (p := ⟨bn, 0, none⟩) hbn).trans c0) ((hB.cell (p := ⟨bn, 1, none⟩) hbn).trans c1) (Nat.lt_of_lt_of_le hbn hB.size)
      clear e0 e1 e2 e3 hf hL c0 c1
      by_cases hq : fit1 p f = true
      · have H : Hid (idxT p L 0 = k) := by
          show _ = _
          rw [HI.out, HD.out]; unfold idxT; rw [if_pos hq]
        rw [hq] at cn
        clear HI HD hq
        go_wp2_with (go_at_call 33; refine cn.mono ?_; rintro e w' ⟨rfl, rfl⟩)
        go_ret
        exact ⟨ret_v (by rw [H.out]; rfl), b_allocK hB (Nat.le_refl _) _⟩
      · have H : Hid (idxT p L 0 = idxT p (L.drop (k + 1)) (k + 1)) := by
          show _ = _
          rw [HI.out, HD.out]; conv => lhs; unfold idxT
          rw [if_neg hq]
        have hq' : fit1 p f = false := by simpa using hq
        rw [hq'] at cn
        clear HI HD hq hq'
        go_wp2_with (go_at_call 33; refine cn.mono ?_; rintro e w' ⟨rfl, rfl⟩)
        go_roundw
        case rel => exact ⟨k + 1, by omega, by go_num, H.out, b_allocK hB (Nat.le_refl _) _⟩
        case measure => simp [intOf]; omega
    · have hd : L.drop k = [] := List.drop_eq_nil_of_le (by omega)
      have H : Hid (idxT p L 0 = -1) := by
        show _ = _
        rw [HI.out, hd]; rfl
      clear HI hd hL c0 c1
      go_wp2
      go_ret
      exact ⟨ret_v (by rw [H.out]; rfl), hB⟩
set_option maxHeartbeats 1000000 in
theorem idxT_nil (ao : Option Addr) (c : Nat) (f : Value) (w : World) :
    Calls Try.prog 50 #[.slice ao 0 c, f] w fun e w' => e = .returned (.int .i64 (-1)) ∧ Below w.heap.size w w' := by
  go_enter Try.func50, Try.ntmps50
  go_wp2
  go_loopw [8] (fun i wr => i = .int .i64 0 ∧ wr = w) (fun i _ => 0)
  case atStart => exact ⟨rfl, rfl⟩
  case round =>
    obtain ⟨rfl, rfl⟩ := hrel
    go_wp2
    go_ret
    exact ⟨rfl, Below.refl _ _⟩
theorem idxT_any {v : Value} {L : List Fd} {w : World} (h : IsF w v L) (hn : L.length ≤ 8) (bn : Nat) (p : Pr) (hbn : bn < w.heap.size) (c0 : w.cell? ⟨bn, 0, none⟩ = some (.string p.nm)) (c1 : w.cell? ⟨bn, 1, none⟩ = some (.int .i64 p.t)) :
    Calls Try.prog 50 #[v, .func (.func 33) #[] #[.pointer (some ⟨bn, 0, none⟩)]] w fun e w' => e = .returned (.int .i64 (idxT p L 0)) ∧ Below w.heap.size w w' := by
  rcases h with ⟨ao, c, rfl, rfl, _⟩ | ⟨b, off, cap, rfl, hcap, hm, hb, hl⟩
  · exact idxT_nil _ _ _ w
  · exact idxT_some b off cap L bn p w hb hl hn hbn c0 c1
set_option maxHeartbeats 1000000 in
theorem fits_any {v : Value} {L : List Fd} {w : World} (h : IsF w v L) (hn : L.length ≤ 8) (bn : Nat) (p : Pr) (hbn : bn < w.heap.size) (c0 : w.cell? ⟨bn, 0, none⟩ = some (.string p.nm)) (c1 : w.cell? ⟨bn, 1, none⟩ = some (.int .i64 p.t)) :
    Calls Try.prog 34 #[v, .func (.func 33) #[] #[.pointer (some ⟨bn, 0, none⟩)]] w fun e w' => e = .returned (.bool (fits L p)) ∧ Below w.heap.size w w' := by
  have c := idxT_any h hn bn p hbn c0 c1
  have H : Hid (decide (0 ≤ idxT p L 0) = fits L p) := idxT_has p L 0
  generalize idxT p L 0 = r at c H
  clear h hn c0 c1
  go_enter Try.func34, Try.ntmps34
  go_wp2_with (go_at_call 50; refine c.mono ?_; rintro e w' ⟨rfl, hB1⟩)
  go_ret
  exact ⟨ret_v (by rw [← H.out]; rfl), hB1⟩
end Go.Proofs.Ytjjnfnlkfojehaa
