/-
  The walk of slices.rotateCmpFunc, at elements of k cells.
-/
import Derived.Test.YtodddcacngjadaaSymA
import Derived.Lib.Hide
namespace Go.Proofs.Ytodddcacngjadaa
open Go.Shelf Go.RowKit Go.Lib Go.Sort
set_option linter.unusedVariables false
set_option linter.unusedSimpArgs false
section
variable {P : Program} {k : Nat} {α : Type} [Inhabited α]


set_option maxHeartbeats 4000000 in
set_option maxRecDepth 1000000 in
/-- A window is turned. -/
theorem rotate_any (L : SymL P k) (enc : α → List Value) (g : Nat) (cb : Array Value) (blk off cap a m b : Nat) (d0 d : Array α) (w0 w : World)
    (R : RowK enc k w0 blk off d0) (hs : d0.size = d.size) (S : SWK enc k w0 blk off d w) (ham : a < m) (hmb : m < b) (hb : b ≤ d.size) (hsz : d.size < 4611686018427387904) :
    Calls P 45 #[.slice (some ⟨blk, off, none⟩) d.size cap, .int .i64 a, .int .i64 m, .int .i64 b, .func (.func g) #[] cb] w fun e w' =>
      e = .returned (.tuple #[]) ∧ ∃ d' : Array α, d'.size = d.size ∧ (∀ p, d'[p]! = rotF (fun q => d[q]!) a m b p) ∧ PermIn a b d d' ∧ SWK enc k w0 blk off d' w' := by
  have mixed := L.mixed; have t0 := L.t0; have a0 := L.a0; have z0 := L.z0; have v0 := L.v0; have t3 := L.t3; have a3 := L.a3; have z3 := L.z3; have v3 := L.v3; have t4 := L.t4; have a4 := L.a4; have z4 := L.z4; have v4 := L.v4; have t41 := L.t41; have a41 := L.a41; have z41 := L.z41; have v41 := L.v41; have t48 := L.t48; have a48 := L.a48; have z48 := L.z48; have v48 := L.v48
  have e57 : ∀ args w, (callFunc 57 args).run P w = .ok (.enter 57 args) w := enters_of L.f57 (by kernel_rfl) rfl
  have S0 : Aside (SWK enc k w0 blk off d w) := S
  have HF := L.f45
  have HL := Lib.hid L
  clear S L
  have r1 : IntKind.i64.wrap ((m : Int) - (a : Int)) = ((m - a : Nat) : Int) := by rw [IntKind.wrap_i64]; omega
  have r2 : IntKind.i64.wrap ((b : Int) - (m : Int)) = ((b - m : Nat) : Int) := by rw [IntKind.wrap_i64]; omega
  go_enter HF, Try.ntmps45
  go_wp2
  go_loopg [10, 11] (b - a) (fun kx s10 s11 wr => ∃ (i j : Nat) (dk : Array α), s10 = .int .i64 i ∧ s11 = .int .i64 j ∧ 0 < i ∧ 0 < j ∧ i ≤ m - a ∧ j ≤ b - m ∧ i + j ≤ kx ∧ dk.size = d.size ∧ Aside (SWK enc k w0 blk off dk wr) ∧ Hid ((∀ p, rotF (fun q => d[q]!) a m b p = rotF (fun q => dk[q]!) (m - i) m (m + j) p) ∧ PermIn a b d dk))
  case atStart => exact ⟨m - a, b - m, d, by first | rfl | (congr 1; omega), by first | rfl | (congr 1; omega), by omega, by omega, Nat.le_refl _, Nat.le_refl _, by omega, rfl, S0, fun p => by rw [show m - (m - a) = a by omega, show m + (b - m) = b by omega], permIn_refl _ _ _⟩
  case round =>
    clear S0 r1 r2
    obtain ⟨i, j, dk, rfl, rfl, hi, hj, him, hjb, hkx, hds, S1, HE⟩ := hrel
    have q1 : IntKind.i64.wrap ((m : Int) - (i : Int)) = ((m - i : Nat) : Int) := by rw [IntKind.wrap_i64]; omega
    by_cases hij : i = j
    · subst hij
      have c1 := swapRange_any HL.out enc g cb blk off cap (m - i) m i d0 dk w0 wr R (by omega) S1.out (by omega) (by omega) (by omega)
      rw [hds] at c1
      clear S1
      go_wp2_with (go_at_fn 57; refine c1.mono ?_; rintro e W1 ⟨rfl, d', hz, hd, hp, hS⟩)
      go_end0
      refine ⟨rfl, d', hz, fun p => ?_, permIn_trans _ _ _ _ _ HE.out.2 (hp a b (by omega) (by omega) (by omega)), hS⟩
      rw [HE.out.1, hd, rot_same _ _ _ _ (by omega)]
    · have hne : ((i : Int) == (j : Int)) = false := by rw [beq_eq_false_iff_ne]; omega
      by_cases hgt : j < i
      · have hgz : (j : Int) < (i : Int) := by omega
        have q2 : IntKind.i64.wrap ((i : Int) - (j : Int)) = ((i - j : Nat) : Int) := by rw [IntKind.wrap_i64]; omega
        have c1 := swapRange_any HL.out enc g cb blk off cap (m - i) m j d0 dk w0 wr R (by omega) S1.out (by omega) (by omega) (by omega)
        rw [hds] at c1
        clear S1
        go_wp2_with (go_at_fn 57; refine c1.mono ?_; rintro e W1 ⟨rfl, d', hz, hd, hp, hS⟩)
        have hS1 : Aside (SWK enc k w0 blk off d' W1) := hS
        clear hS
        go_roundg (i - j + j)
        case measure => omega
        case rel =>
          refine ⟨i - j, j, d', by first | rfl | (congr 1; omega), rfl, by omega, hj, by omega, hjb, Nat.le_refl _, hz, hS1, fun p => ?_, permIn_trans _ _ _ _ _ HE.out.2 (hp a b (by omega) (by omega) (by omega))⟩
          rw [HE.out.1, rot_more _ _ _ _ _ (by omega) hgt, ← funext hd, show m - i + j = m - (i - j) by omega]
      · have hgz : ¬ (j : Int) < (i : Int) := by omega
        have q2 : IntKind.i64.wrap ((j : Int) - (i : Int)) = ((j - i : Nat) : Int) := by rw [IntKind.wrap_i64]; omega
        have q3 : IntKind.i64.wrap ((m : Int) + (j : Int)) = (m : Int) + (j : Int) := by rw [IntKind.wrap_i64]; omega
        have q4 : IntKind.i64.wrap ((m : Int) + (j : Int) - (i : Int)) = ((m + j - i : Nat) : Int) := by rw [IntKind.wrap_i64]; omega
        have c1 := swapRange_any HL.out enc g cb blk off cap (m - i) (m + j - i) i d0 dk w0 wr R (by omega) S1.out (by omega) (by omega) (by omega)
        rw [hds] at c1
        clear S1
        go_wp2_with (go_at_fn 57; refine c1.mono ?_; rintro e W1 ⟨rfl, d', hz, hd, hp, hS⟩)
        have hS1 : Aside (SWK enc k w0 blk off d' W1) := hS
        clear hS
        go_roundg (i + (j - i))
        case measure => omega
        case rel =>
          refine ⟨i, j - i, d', rfl, by first | rfl | (congr 1; omega), hi, by omega, him, by omega, Nat.le_refl _, hz, hS1, fun p => ?_, permIn_trans _ _ _ _ _ HE.out.2 (hp a b (by omega) (by omega) (by omega))⟩
          rw [HE.out.1, rot_less _ _ _ _ _ (by omega) (by omega), ← funext hd, show m + j - i = m + (j - i) by omega]
end
end Go.Proofs.Ytodddcacngjadaa
