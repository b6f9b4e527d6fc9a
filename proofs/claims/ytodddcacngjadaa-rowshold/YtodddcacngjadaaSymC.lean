/-
  The walk of slices.symMergeCmpFunc, at elements of k cells: one ahead of a sorted part.
-/
import Derived.Test.YtodddcacngjadaaSymB
namespace Go.Proofs.Ytodddcacngjadaa
open Go.Shelf Go.RowKit Go.Lib Go.Sort
set_option linter.unusedVariables false
set_option linter.unusedSimpArgs false
section
variable {P : Program} {k : Nat} {α : Type} [Inhabited α]

set_option maxHeartbeats 8000000 in
set_option maxRecDepth 1000000 in
theorem sym_one (L : SymL P k) (enc : α → List Value) (cf : α → α → Int) (hO : SWO (ltOf cf)) (g : Nat) (cb : Array Value) (eg : ∀ args w, (callFunc g args).run P w = .ok (.enter g args) w) (blk off cap : Nat) (d0 : Array α) (w0 : World) (hcmp : CmpLays P g cb enc k cf blk off d0.size w0) (R : RowK enc k w0 blk off d0) (a b : Nat) (d : Array α) (w : World) (hab : a + 1 < b) (hb : b ≤ d.size) (hs : d0.size = d.size) (hsz : d.size ≤ 1000) (S : SWK enc k w0 blk off d w) (hS : SortedIn (ltOf cf) (a + 1) b d) :
    Calls P 38 #[.slice (some ⟨blk, off, none⟩) d.size cap, .int .i64 a, .int .i64 ((a : Int) + 1), .int .i64 b, .func (.func g) #[] cb] w fun e w' => e = .returned (.tuple #[]) ∧ ∃ d' : Array α, d'.size = d.size ∧ PermIn a b d d' ∧ SortedIn (ltOf cf) a b d' ∧ SWK enc k w0 blk off d' w' := by
  have mixed := L.mixed; have t0 := L.t0; have a0 := L.a0; have z0 := L.z0; have v0 := L.v0; have t3 := L.t3; have a3 := L.a3; have z3 := L.z3; have v3 := L.v3; have t4 := L.t4; have a4 := L.a4; have z4 := L.z4; have v4 := L.v4; have t41 := L.t41; have a41 := L.a41; have z41 := L.z41; have v41 := L.v41; have t48 := L.t48; have a48 := L.a48; have z48 := L.z48; have v48 := L.v48; have t82 := L.t82; have a82 := L.a82; have z82 := L.z82; have v82 := L.v82; have aE := L.aE; have zE := L.zE
  have S0 : Aside (SWK enc k w0 blk off d w) := S
  have HF := L.f38
  have HC : Aside (CmpLays P g cb enc k cf blk off d0.size w0) := hcmp
  have HS := Lib.hid hS
  clear S L hcmp hS
  have r0 : IntKind.i64.wrap ((a : Int) + 1 - (a : Int)) = 1 := by rw [IntKind.wrap_i64]; omega
  go_enter HF, Try.ntmps38
  go_wp2
  go_loopg [10, 11] b (fun kx si sj wr => ∃ (i j : Nat), si = .int .i64 i ∧ sj = .int .i64 j ∧ a + 1 ≤ i ∧ i ≤ j ∧ j ≤ b ∧ j - i ≤ kx ∧ Aside (SWK enc k w0 blk off d wr) ∧ Hid ((i = a + 1 ∨ ltOf cf d[i - 1]! d[a]! = true) ∧ (j = b ∨ ltOf cf d[j]! d[a]! = false)))
  case atStart => exact ⟨a + 1, b, by simp, rfl, Nat.le_refl _, by omega, Nat.le_refl _, by omega, S0, .inl rfl, .inl rfl⟩
  case round =>
    clear S0
    obtain ⟨i, j, rfl, rfl, h1, h2, h3, hkx, S1, HE⟩ := hrel
    by_cases hlt : i < j
    · have hltz : (i : Int) < (j : Int) := by omega
      obtain ⟨h, hh⟩ : ∃ h, h = (i + j) / 2 := ⟨_, rfl⟩
      have hih : i ≤ h := by omega
      have hhj : h < j := by omega
      have hdiv : ((i : Int) + (j : Int)) / 2 = (h : Int) := by omega
      clear hh
      go_wp2_with fail
      try rw [hdiv]
      clear hdiv
      have bh : (h : Int) < (d.size : Int) := by omega
      have ba : (a : Int) < (d.size : Int) := by omega
      cases hL : ltOf cf d[h]! d[a]! with
      | true =>
        obtain ⟨xT, hxT⟩ : ∃ x, x = d[h]! := ⟨_, rfl⟩
        obtain ⟨yT, hyT⟩ : ∃ x, x = d[a]! := ⟨_, rfl⟩
        have lTa := S1.out.ld R (by omega) P (h) (by omega)
        have lTb := S1.out.ld R (by omega) P (a) (by omega)
        rw [← hxT] at lTa
        rw [← hyT] at lTb
        have hcT := S1.out.cmp HC.out (by omega) xT yT
        have hvT : cf xT yT < 0 := by rw [hxT, hyT]; exact of_decide_eq_true hL
        have hdT : decide (cf xT yT < 0) = true := decide_eq_true hvT
        clear hxT hyT
        go_wp2_with fail
        go_quiet_grown (first | (go_at_fn g; refine Calls.grown_of (hcT _ _)))
        have S2 : Aside (SWK enc k w0 blk off d (grow (wr.drewN nq) osq)) := S1.out.grown nq osq
        clear lTa lTb hcT S1
        generalize grow (wr.drewN nq) osq = w2 at S2 ⊢
        clear nq osq
        go_wp2
        go_roundg (j - (h + 1))
        case measure => omega
        case rel => exact ⟨h + 1, j, by simp, rfl, by omega, by omega, h3, Nat.le_refl _, S2, .inr (by simpa using hL), HE.out.2⟩
      | false =>
        obtain ⟨xT, hxT⟩ : ∃ x, x = d[h]! := ⟨_, rfl⟩
        obtain ⟨yT, hyT⟩ : ∃ x, x = d[a]! := ⟨_, rfl⟩
        have lTa := S1.out.ld R (by omega) P (h) (by omega)
        have lTb := S1.out.ld R (by omega) P (a) (by omega)
        rw [← hxT] at lTa
        rw [← hyT] at lTb
        have hcT := S1.out.cmp HC.out (by omega) xT yT
        have hvT : ¬ cf xT yT < 0 := by rw [hxT, hyT]; exact of_decide_eq_false hL
        have hdT : decide (cf xT yT < 0) = false := decide_eq_false hvT
        clear hxT hyT
        go_wp2_with fail
        go_quiet_grown (first | (go_at_fn g; refine Calls.grown_of (hcT _ _)))
        have S2 : Aside (SWK enc k w0 blk off d (grow (wr.drewN nq) osq)) := S1.out.grown nq osq
        clear lTa lTb hcT S1
        generalize grow (wr.drewN nq) osq = w2 at S2 ⊢
        clear nq osq
        go_wp2
        go_roundg (h - i)
        case measure => omega
        case rel => exact ⟨i, h, rfl, rfl, h1, hih, by omega, Nat.le_refl _, S2, HE.out.1, .inr hL⟩
    · have hltz : ¬ (i : Int) < (j : Int) := by omega
      obtain rfl : i = j := by omega
      have S3 : Aside (SWK enc k w0 blk off d wr) := S1
      obtain ⟨W, hW⟩ : ∃ W, W = wr := ⟨wr, rfl⟩
      subst hW
      clear S1
      have ri : IntKind.i64.wrap ((i : Int) - 1) = (i : Int) - 1 := by rw [IntKind.wrap_i64]; omega
      go_wp2
      go_loopg [13] (i - a) (fun kx s wr => ∃ (c : Nat) (dk : Array α), s = .int .i64 c ∧ a ≤ c ∧ c + 1 ≤ i ∧ i - c ≤ kx ∧ dk.size = d.size ∧ Aside (SWK enc k w0 blk off dk wr) ∧ Hid ((∀ p, dk[p]! = rotF (fun q => d[q]!) a (a + 1) (c + 1) p) ∧ PermIn a b d dk))
      case atStart => exact ⟨a, d, rfl, Nat.le_refl _, h1, Nat.le_refl _, rfl, S3, fun p => rot_start d a p, permIn_refl _ _ _⟩
      case round =>
        clear S3
        obtain ⟨c, dk, rfl, c1, c2, ckx, hds, S1, HR⟩ := hrel
        by_cases hc : c + 1 < i
        · have hcz : (c : Int) < (i : Int) - 1 := by omega
          have bc : (c : Int) < (d.size : Int) := by omega
          have bc1 : (c : Int) + 1 < (d.size : Int) := by omega
          have rc : IntKind.i64.wrap ((c : Int) + 1) = (c : Int) + 1 := by rw [IntKind.wrap_i64]; omega
          have pc : (0 : Int) ≤ (c : Int) + 1 := by omega
          have ec : ((c : Int) + 1).toNat = c + 1 := by omega
          have S2 : Aside (SWK enc k w0 blk off (swp dk (c) (c + 1)) ((wr.drew.setCells blk (off + (c) * k) (enc dk[c + 1]!)).setCells blk (off + (c + 1) * k) (enc dk[c]!))) := S1.out.swapped R (c) (c + 1) (by omega) (by omega)
          have la := S1.out.ld1 R (by omega) P (c) (by omega)
          have lb := S1.out.ld1 R (by omega) P (c + 1) (by omega)
          have sa := S1.out.st1 R (by omega) P (c) (by omega) dk[c + 1]!
          have sb := S1.out.st2 R (by omega) P (c) (c + 1) (by omega) (by omega) dk[c + 1]! dk[c]!
          have na : (enc dk[c]!).length = k := R.hk _
          have nb : (enc dk[c + 1]!).length = k := R.hk _
          generalize enc dk[c]! = cI at S2 la sb na
          generalize enc dk[c + 1]! = cJ at S2 lb sa sb nb
          clear S1
          go_wp2_with fail
          go_big_region_o
          clear la lb sa sb
          generalize (wr.drew.setCells blk (off + (c) * k) cJ).setCells blk (off + (c + 1) * k) cI = w2 at S2 ⊢
          go_wp2
          go_roundg (i - (c + 1))
          case measure => omega
          case rel => exact ⟨c + 1, swp dk c (c + 1), by simp, by omega, by omega, Nat.le_refl _, by rw [size_swp]; exact hds, S2, up_step d dk a c HR.out.1 c1 (by omega), permIn_trans _ _ _ _ _ HR.out.2 (swp_permIn dk a b _ _ (by omega) (by omega) (by omega) (by omega) (by omega))⟩
        · have hcz : ¬ (c : Int) < (i : Int) - 1 := by omega
          obtain rfl : i = c + 1 := by omega
          go_wp2
          (try simp only [Exit.inBlock, Exit.then]); refine bodyPost_ret (results_none rfl _ _ _) rfl ?_
          exact ⟨rfl, dk, hds, HR.out.2, sym_up hO h1 h3 HS.out HE.out.1 HE.out.2 HR.out.1, S1.out⟩
end
end Go.Proofs.Ytodddcacngjadaa
