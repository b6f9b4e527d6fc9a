/-
  The walks of slices.IndexFunc and slices.DeleteFunc of ties, with the test of dropNode: has a tie a node as an end?
-/
import Derived.Test.YtkgblicmkijpdaaDelD
namespace Go.Proofs.Ytkgblicmkijpdaa
open Go.RowKit
set_option linter.unusedVariables false
set_option linter.unusedSimpArgs false

/-- Has a tie a node as an end? -/
def Te.end (t : Te) (id : Int) : Bool := t.fr == id || t.tt == id
/-- Where the first one stands that has. -/
def idxT (id : Int) : List Te → Nat → Int
  | [], _ => -1
  | t :: r, k => if t.end id = true then (k : Int) else idxT id r (k + 1)
theorem idxT_spec (id : Int) : ∀ (T : List Te) (s : Nat), (idxT id T s = -1 ∧ ∀ t ∈ T, t.end id = false) ∨ ∃ k t, T[k]? = some t ∧ idxT id T s = ((s + k : Nat) : Int) ∧ t.end id = true ∧ ∀ x ∈ T.take k, x.end id = false
  | [], s => .inl ⟨rfl, fun t ht => by cases ht⟩
  | t :: r, s => by
    by_cases h : t.end id = true
    · exact .inr ⟨0, t, rfl, by simp [idxT, h], h, fun x hx => by simp at hx⟩
    · have e : idxT id (t :: r) s = idxT id r (s + 1) := by simp [idxT, h]
      rcases idxT_spec id r (s + 1) with ⟨e1, ha⟩ | ⟨k, x, hk, e1, hx, ha⟩
      · refine .inl ⟨by rw [e, e1], fun y hy => ?_⟩
        rcases List.mem_cons.1 hy with rfl | hy
        · simpa using h
        · exact ha y hy
      · refine .inr ⟨k + 1, x, by simpa using hk, by rw [e, e1]; congr 1; omega, hx, fun y hy => ?_⟩
        rw [List.take_succ_cons] at hy
        rcases List.mem_cons.1 hy with rfl | hy
        · simpa using h
        · exact ha y hy

set_option maxHeartbeats 1000000 in
theorem drop1_any (t : Te) (p : Nat) (id : Int) (w : World) (hp : p < w.heap.size) (hc : w.cell? ⟨p, 0, none⟩ = some (.int .i64 id)) :
    Calls Try.prog 59 #[t.one, .pointer (some ⟨p, 0, none⟩)] w fun e w' => e = .returned (.bool (t.end id)) ∧ Below w.heap.size w w' := by
  obtain ⟨bd, fr, tt⟩ := t
  have hB : Below w.heap.size w (w.alloc (.cells #[.string bd, .int .i64 fr, .int .i64 tt] 40)) := b_alloc (Below.refl _ _) _
  have hc' := (hB.cell (p := ⟨p, 0, none⟩) hp).trans hc
  have hpn : ¬ p = w.heap.size := by omega
  by_cases h1 : fr = id
  · have e : Te.end ⟨bd, fr, tt⟩ id = true := by simp [Te.end, h1]
    rw [e]
    have h2 : (fr == id) = true := by simpa using h1
    clear e h1
    go_enter Try.func59, Try.ntmps59
    go_wp2
    go_ret
    exact ⟨rfl, hB⟩
  · have e : Te.end ⟨bd, fr, tt⟩ id = (tt == id) := by simp [Te.end, h1]
    rw [e]
    have h2 : (fr == id) = false := by simpa using h1
    clear e h1
    go_enter Try.func59, Try.ntmps59
    go_wp2
    go_ret
    exact ⟨rfl, hB⟩

set_option maxHeartbeats 1000000 in
set_option maxRecDepth 100000 in
theorem indexT_any {ao : Option Addr} {cn : Nat} {N : List Te} {w : World} (hn : N = [] ∨ ∃ b off, ao = some ⟨b, off, none⟩ ∧ b < w.heap.size ∧ LiesT w b off N) (h60 : N.length ≤ 1000) (p : Nat) (id : Int) (hp : p < w.heap.size) (hc : w.cell? ⟨p, 0, none⟩ = some (.int .i64 id)) :
    Calls Try.prog 84 #[.slice ao N.length cn, .func (.func 59) #[] #[.pointer (some ⟨p, 0, none⟩)]] w fun e w' => e = .returned (.int .i64 (idxT id N 0)) ∧ Below w.heap.size w w' := by
  go_enter Try.func84, Try.ntmps84
  go_wp2
  go_loopw [8] (fun i wr => ∃ k : Nat, k ≤ N.length ∧ i = .int .i64 k ∧ idxT id N 0 = idxT id (N.drop k) k ∧ Below w.heap.size w wr) (fun i _ => N.length - (intOf i).toNat)
  case atStart => exact ⟨0, Nat.zero_le _, rfl, rfl, Below.refl _ _⟩
  case round =>
    obtain ⟨k, hk, rfl, hx, hB⟩ := hrel
    have HX : Hid (idxT id N 0 = idxT id (N.drop k) k) := hx
    clear hx
    by_cases hlt : k < N.length
    · obtain ⟨n, hn'⟩ : ∃ n, N[k]? = some n := ⟨N[k], by simp [hlt]⟩
      rcases hn with rfl | ⟨b, off, rfl, hb, hL⟩
      · exact absurd hlt (by simp)
      have HD : Hid (N.drop k = n :: N.drop (k + 1)) := dropN hn'
      obtain ⟨c0, c1, c2⟩ := hL k n hn'
      have d0 := (hB.cell (p := ⟨b, off + k * 3, none⟩) hb).trans c0
      have d1 := (hB.cell (p := ⟨b, off + k * 3 + 1, none⟩) hb).trans c1
      have d2 := (hB.cell (p := ⟨b, off + k * 3 + 2, none⟩) hb).trans c2
      have cf := drop1_any n p id wr (Nat.lt_of_lt_of_le hp hB.size) ((hB.cell hp).trans hc)
      have HL : Hid (LiesT w b off N) := hL
      clear c0 c1 c2 hn' hL hc
      cases he : n.end id with
      | true =>
        have H : Hid (idxT id N 0 = (k : Int)) := by
          show _ = _
          rw [HX.out, HD.out]; unfold idxT; rw [if_pos he]
        rw [he] at cf
        clear HX HD he
        obtain ⟨bd, fr, tt⟩ := n
        simp only at d0 d1 d2 cf
        go_wp2_with (first | (go_at_call 59; refine cf.mono ?_; rintro e W2 ⟨rfl, hB2⟩))
        go_ret
        exact ⟨ret_v (congrArg (Value.int .i64) H.out.symm), on1 hB hB2⟩
      | false =>
        have H : Hid (idxT id N 0 = idxT id (N.drop (k + 1)) (k + 1)) := by
          show _ = _
          rw [HX.out, HD.out]; conv => lhs; unfold idxT; rw [if_neg (by rw [he]; decide)]
        rw [he] at cf
        clear HX HD he
        obtain ⟨bd, fr, tt⟩ := n
        simp only at d0 d1 d2 cf
        go_wp2_with (first | (go_at_call 59; refine cf.mono ?_; rintro e W2 ⟨rfl, hB2⟩))
        go_roundw
        case rel => exact ⟨k + 1, by omega, by go_num, H.out, on1 hB hB2⟩
        case measure => simp [intOf]; omega
    · have hd : N.drop k = [] := List.drop_eq_nil_of_le (by omega)
      have H : Hid (idxT id N 0 = -1) := by
        show _ = _
        rw [HX.out, hd]; rfl
      clear HX hd
      go_wp2
      go_ret
      exact ⟨ret_v (congrArg (Value.int .i64) H.out.symm), hB⟩
end Go.Proofs.Ytkgblicmkijpdaa
