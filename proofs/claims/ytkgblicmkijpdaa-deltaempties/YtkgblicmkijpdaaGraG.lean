/-
  The walks of find and of what it calls, and of kinref2.In.
-/
import Derived.Test.YtkgblicmkijpdaaGraF
namespace Go.Proofs.Ytkgblicmkijpdaa
open Go.RowKit
set_option linter.unusedVariables false
set_option linter.unusedSimpArgs false

/-- Where the node of an id stands. -/
def idxN (id : Int) : List Nd → Nat → Int
  | [], _ => -1
  | n :: r, k => if n.id = id then (k : Int) else idxN id r (k + 1)
/-- Is there such a node? -/
def hasId (N : List Nd) (id : Int) : Bool := N.any fun n => n.id == id
theorem idxN_neg (id : Int) : ∀ (N : List Nd) (k : Nat), (idxN id N k < 0) ↔ hasId N id = false
  | [], k => by simp [idxN, hasId]
  | n :: r, k => by
    have ih := idxN_neg id r (k + 1)
    unfold idxN
    by_cases h : n.id = id
    · rw [if_pos h]; simp [hasId, h]
    · rw [if_neg h, ih]; simp [hasId, h]
/-- The fault of finding a node. -/
def fE (N : List Nd) (T : List Te) (id : Int) : Int := if gErr N T = 0 then (if hasId N id = true then 0 else 5) else gErr N T

set_option maxHeartbeats 1000000 in
theorem find1_any (n : Nd) (p : Nat) (id : Int) (w : World) (hp : p < w.heap.size) (hc : w.cell? ⟨p, 0, none⟩ = some (.int .i64 id)) (hv : ∃ a l c, n.rv = .slice a l c) :
    Calls Try.prog 52 #[n.one, .pointer (some ⟨p, 0, none⟩)] w fun e w' => e = .returned (.bool (n.id == id)) ∧ Below w.heap.size w w' := by
  obtain ⟨ni, kd, rv, rc⟩ := n
  obtain ⟨a, l, c, h⟩ := hv
  simp only at h ⊢
  subst h
  have hB : Below w.heap.size w (w.alloc (.cells #[.int .i64 ni, .string kd, .slice a l c] 30)) := b_alloc (Below.refl _ _) _
  have hc' := (hB.cell (p := ⟨p, 0, none⟩) hp).trans hc
  have hpn : ¬ p = w.heap.size := by omega
  go_enter Try.func52, Try.ntmps52
  go_wp2
  go_ret
  exact ⟨rfl, hB⟩

set_option maxHeartbeats 1000000 in
set_option maxRecDepth 100000 in
theorem index_any {ao : Option Addr} {cn : Nat} {N : List Nd} {w : World} (hn : N = [] ∨ ∃ b off, ao = some ⟨b, off, none⟩ ∧ b < w.heap.size ∧ LiesN w b off N) (h60 : N.length ≤ 60) (p : Nat) (id : Int) (hp : p < w.heap.size) (hc : w.cell? ⟨p, 0, none⟩ = some (.int .i64 id)) :
    Calls Try.prog 51 #[.slice ao N.length cn, .func (.func 52) #[] #[.pointer (some ⟨p, 0, none⟩)]] w fun e w' => e = .returned (.int .i64 (idxN id N 0)) ∧ Below w.heap.size w w' := by
  go_enter Try.func51, Try.ntmps51
  go_wp2
  go_loopw [8] (fun i wr => ∃ k : Nat, k ≤ N.length ∧ i = .int .i64 k ∧ idxN id N 0 = idxN id (N.drop k) k ∧ Below w.heap.size w wr) (fun i _ => N.length - (intOf i).toNat)
  case atStart => exact ⟨0, Nat.zero_le _, rfl, rfl, Below.refl _ _⟩
  case round =>
    obtain ⟨k, hk, rfl, hx, hB⟩ := hrel
    have HX : Hid (idxN id N 0 = idxN id (N.drop k) k) := hx
    clear hx
    by_cases hlt : k < N.length
    · obtain ⟨n, hn'⟩ : ∃ n, N[k]? = some n := ⟨N[k], by simp [hlt]⟩
      rcases hn with rfl | ⟨b, off, rfl, hb, hL⟩
      · exact absurd hlt (by simp)
      have HD : Hid (N.drop k = n :: N.drop (k + 1)) := dropN hn'
      obtain ⟨c0, c1, c2, cR⟩ := hL k n hn'
      have d0 := (hB.cell (p := ⟨b, off + k * 3, none⟩) hb).trans c0
      have d1 := (hB.cell (p := ⟨b, off + k * 3 + 1, none⟩) hb).trans c1
      have d2 := (hB.cell (p := ⟨b, off + k * 3 + 2, none⟩) hb).trans c2
      obtain ⟨av, cv, hv, _⟩ := cR
      have cf := find1_any n p id wr (Nat.lt_of_lt_of_le hp hB.size) ((hB.cell hp).trans hc) ⟨av, n.rc.length, cv, hv⟩
      have HL : Hid (LiesN w b off N) := hL
      clear c0 c1 c2 hn' hL hc
      obtain ⟨ni, kd, rv, rc⟩ := n
      simp only at hv d0 d1 d2 cf HD
      subst hv
      by_cases he : ni = id
      · have H : Hid (idxN id N 0 = (k : Int)) := by
          show _ = _
          rw [HX.out, HD.out]; unfold idxN; rw [if_pos he]
        have hb' : (ni == id) = true := by simpa using he
        rw [hb'] at cf
        clear HX HD he hb'
        go_wp2_with (first | (go_at_call 52; refine cf.mono ?_; rintro e W2 ⟨rfl, hB2⟩))
        go_ret
        exact ⟨ret_v (congrArg (Value.int .i64) H.out.symm), on1 hB hB2⟩
      · have H : Hid (idxN id N 0 = idxN id (N.drop (k + 1)) (k + 1)) := by
          show _ = _
          rw [HX.out, HD.out]; conv => lhs; unfold idxN; rw [if_neg he]
        have hb' : (ni == id) = false := by simpa using he
        rw [hb'] at cf
        clear HX HD he hb'
        go_wp2_with (first | (go_at_call 52; refine cf.mono ?_; rintro e W2 ⟨rfl, hB2⟩))
        go_roundw
        case rel => exact ⟨k + 1, by omega, by go_num, H.out, on1 hB hB2⟩
        case measure => simp [intOf]; omega
    · have hd : N.drop k = [] := List.drop_eq_nil_of_le (by omega)
      have H : Hid (idxN id N 0 = -1) := by
        show _ = _
        rw [HX.out, hd]; rfl
      clear HX hd
      go_wp2
      go_ret
      exact ⟨ret_v (congrArg (Value.int .i64) H.out.symm), hB⟩

theorem fE_bad {N : List Nd} {T : List Te} (id : Int) (h : ¬ gErr N T = 0) : fE N T id = gErr N T := by unfold fE; rw [if_neg h]
theorem fE_ok {N : List Nd} {T : List Te} {id : Int} (h : gErr N T = 0) (h2 : hasId N id = true) : fE N T id = 0 := by unfold fE; rw [if_pos h, if_pos h2]
theorem fE_no {N : List Nd} {T : List Te} {id : Int} (h : gErr N T = 0) (h2 : hasId N id = false) : fE N T id = 5 := by unfold fE; rw [if_pos h, h2]; rfl
theorem gErr_len {N : List Nd} {T : List Te} (h : gErr N T = 0) : N.length ≤ 60 ∧ T.length ≤ 120 := by
  unfold gErr at h
  split at h
  · cases h
  · omega

set_option maxHeartbeats 1000000 in
set_option maxRecDepth 100000 in
theorem find_any {vn vt : Value} {N : List Nd} {T : List Te} {w : World} (hN : IsN w vn N) (hT : IsT w vt T) (zN : SzN N) (zT : SzT T) (lN : N.length ≤ maxLen) (lT : T.length ≤ maxLen) (id : Int) :
    Calls Try.prog 22 #[.agg #[vn, vt], .int .i64 id] w fun e w' => ∃ x, e = .returned (.tuple #[.int .i64 x, errV (fE N T id)]) ∧ Below w.heap.size w w' := by
  have hN' := hN
  obtain ⟨an, cn, rfl, hcn, hn⟩ := hN
  have hT' := hT
  obtain ⟨am, cm, rfl, hcm, hm⟩ := hT
  have hB : Below w.heap.size w ((w.alloc (.cells #[.slice an N.length cn, .slice am T.length cm] 25)).alloc (.cells #[.int .i64 id] 3)) := b_alloc (b_alloc (Below.refl _ _) _) _
  have cc := gcheck_any (hN'.on hB) (hT'.on hB) zN zT lN lT
  by_cases hg : gErr N T = 0
  · rw [hg, errV_0] at cc
    have g0 : ((w.alloc (.cells #[.slice an N.length cn, .slice am T.length cm] 25)).alloc (.cells #[.int .i64 id] 3)).cell? ⟨w.heap.size, 0, none⟩ = some (.slice an N.length cn) := by simp
    have g2 : ((w.alloc (.cells #[.slice an N.length cn, .slice am T.length cm] 25)).alloc (.cells #[.int .i64 id] 3)).cell? ⟨w.heap.size + 1, 0, none⟩ = some (.int .i64 id) := by simp
    have ci := fun W (hW : Below ((w.alloc (.cells #[.slice an N.length cn, .slice am T.length cm] 25)).alloc (.cells #[.int .i64 id] 3)).heap.size ((w.alloc (.cells #[.slice an N.length cn, .slice am T.length cm] 25)).alloc (.cells #[.int .i64 id] 3)) W) => index_any (ao := an) (cn := cn) (N := N) (w := W) (by
      rcases hn with h | ⟨b, off, h1, h2, h3⟩
      · exact .inl h
      · exact .inr ⟨b, off, h1, Nat.lt_of_lt_of_le h2 (on1 hB hW).size, h3.on h2 (on1 hB hW)⟩) (gErr_len hg).1 (w.heap.size + 1) id (by have := hW.size; simp at this; omega) ((hW.cell (by simp)).trans g2)
    have HG : Hid (∀ W, Below ((w.alloc (.cells #[.slice an N.length cn, .slice am T.length cm] 25)).alloc (.cells #[.int .i64 id] 3)).heap.size ((w.alloc (.cells #[.slice an N.length cn, .slice am T.length cm] 25)).alloc (.cells #[.int .i64 id] 3)) W → W.cell? ⟨w.heap.size, 0, none⟩ = some (.slice an N.length cn)) := fun W hW => (hW.cell (by simp; omega)).trans g0
    obtain ⟨r, hr⟩ : ∃ r, idxN id N 0 = r := ⟨_, rfl⟩
    rw [hr] at ci
    by_cases h0 : r < 0
    · have H : Hid (errV (fE N T id) = .iface 60 (.int .i64 5)) := by
        show _ = _
        rw [fE_no hg ((idxN_neg id N 0).1 (by omega))]; rfl
      clear g0 g2 hg hr hn hm
      go_enter Try.func22, Try.ntmps22
      go_wp2_with (first | (go_at_call 11; refine cc.mono ?_; rintro e W2 ⟨rfl, hB2⟩; have k0 := HG.out W2 hB2) | (go_at_call 51; refine (ci _ hB2).mono ?_; rintro e W3 ⟨rfl, hB3⟩))
      go_ret2
      exact ⟨0, by rw [H.out]; rfl, on1 (on1 hB hB2) hB3⟩
    · have H : Hid (errV (fE N T id) = .nilIface) := by
        show _ = _
        rw [fE_ok hg (by
          cases hh : hasId N id
          · exact absurd ((idxN_neg id N 0).2 hh) (by omega)
          · rfl)]; rfl
      clear g0 g2 hg hr hn hm
      go_enter Try.func22, Try.ntmps22
      go_wp2_with (first | (go_at_call 11; refine cc.mono ?_; rintro e W2 ⟨rfl, hB2⟩; have k0 := HG.out W2 hB2) | (go_at_call 51; refine (ci _ hB2).mono ?_; rintro e W3 ⟨rfl, hB3⟩))
      go_ret2
      exact ⟨r, by rw [H.out]; rfl, on1 (on1 hB hB2) hB3⟩
  · have H : Hid (errV (fE N T id) = .iface 60 (.int .i64 (gErr N T))) := by
      show _ = _
      rw [fE_bad id hg, errV_ne hg]
    rw [errV_ne hg] at cc
    clear hg hn hm
    go_enter Try.func22, Try.ntmps22
    go_wp2_with (first | (go_at_call 11; refine cc.mono ?_; rintro e W2 ⟨rfl, hB2⟩))
    go_ret2
    exact ⟨0, by rw [H.out]; rfl, on1 hB hB2⟩
end Go.Proofs.Ytkgblicmkijpdaa
