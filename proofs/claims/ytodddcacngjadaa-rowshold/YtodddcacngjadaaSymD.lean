/-
  The walk of slices.symMergeCmpFunc, at elements of k cells: one behind a sorted part.
-/
import Derived.Test.YtodddcacngjadaaSymC
namespace Go.Proofs.Ytodddcacngjadaa
open Go.Shelf Go.RowKit Go.Lib Go.Sort
set_option linter.unusedVariables false
set_option linter.unusedSimpArgs false
section
variable {P : Program} {k : Nat} {α : Type} [Inhabited α]

set_option maxHeartbeats 8000000 in
set_option maxRecDepth 1000000 in
theorem sym_last (L : SymL P k) (enc : α → List Value) (cf : α → α → Int) (hO : SWO (ltOf cf)) (g : Nat) (cb : Array Value) (eg : ∀ args w, (callFunc g args).run P w = .ok (.enter g args) w) (blk off cap : Nat) (d0 : Array α) (w0 : World) (hcmp : CmpLays P g cb enc k cf blk off d0.size w0) (R : RowK enc k w0 blk off d0) (a m : Nat) (d : Array α) (w : World) (ham : a + 1 < m) (hb : m + 1 ≤ d.size) (hs : d0.size = d.size) (hsz : d.size ≤ 1000) (S : SWK enc k w0 blk off d w) (hS : SortedIn (ltOf cf) a m d) :
    Calls P 38 #[.slice (some ⟨blk, off, none⟩) d.size cap, .int .i64 a, .int .i64 m, .int .i64 ((m : Int) + 1), .func (.func g) #[] cb] w fun e w' => e = .returned (.tuple #[]) ∧ ∃ d' : Array α, d'.size = d.size ∧ PermIn a (m + 1) d d' ∧ SortedIn (ltOf cf) a (m + 1) d' ∧ SWK enc k w0 blk off d' w' := by
  have mixed := L.mixed; have t0 := L.t0; have a0 := L.a0; have z0 := L.z0; have v0 := L.v0; have t3 := L.t3; have a3 := L.a3; have z3 := L.z3; have v3 := L.v3; have t4 := L.t4; have a4 := L.a4; have z4 := L.z4; have v4 := L.v4; have t41 := L.t41; have a41 := L.a41; have z41 := L.z41; have v41 := L.v41; have t48 := L.t48; have a48 := L.a48; have z48 := L.z48; have v48 := L.v48; have t82 := L.t82; have a82 := L.a82; have z82 := L.z82; have v82 := L.v82; have aE := L.aE; have zE := L.zE
  have S0 : Aside (SWK enc k w0 blk off d w) := S
  have HF := L.f38
  have HC : Aside (CmpLays P g cb enc k cf blk off d0.size w0) := hcmp
  have HS := Lib.hid hS
  clear S L hcmp hS
  have r0 : IntKind.i64.wrap ((m : Int) - (a : Int)) = (m : Int) - (a : Int) := by rw [IntKind.wrap_i64]; omega
  have r1 : ((m : Int) - (a : Int) == 1) = false := by rw [beq_eq_false_iff_ne]; omega
  have r2 : IntKind.i64.wrap ((m : Int) + 1 - (m : Int)) = 1 := by rw [IntKind.wrap_i64]; omega
  go_enter HF, Try.ntmps38
  go_wp2
  go_loopg [14, 15] m (fun kx si sj wr => ∃ (i j : Nat), si = .int .i64 i ∧ sj = .int .i64 j ∧ a ≤ i ∧ i ≤ j ∧ j ≤ m ∧ j - i ≤ kx ∧ Aside (SWK enc k w0 blk off d wr) ∧ Hid ((i = a ∨ ltOf cf d[m]! d[i - 1]! = false) ∧ (j = m ∨ ltOf cf d[m]! d[j]! = true)))
  case atStart => exact ⟨a, m, rfl, rfl, Nat.le_refl _, by omega, Nat.le_refl _, by omega, S0, .inl rfl, .inl rfl⟩
  case round =>
    clear S0
    obtain ⟨i, j, rfl, rfl, h1, h2, h3, hkx, S1, HE⟩ := hrel
    by_cases hlt : i < j
    · have hltz : (i : Int) < (j : Int) := by omega
      obtain ⟨h, hh⟩ : ∃ h, h = (i + j) / 2 := ⟨_, rfl⟩
      have hih : i ≤ h := by omega
      have hhj : h < j := by omega
      have hdiv : ((i : Int) + (j : Int)) / 2 = (h : Int) := by omega
      clear hh
      go_wp2_with fail
      try rw [hdiv]
      clear hdiv
      have bh : (h : Int) < (d.size : Int) := by omega
      have bm : (m : Int) < (d.size : Int) := by omega
      cases hL : ltOf cf d[m]! d[h]! with
      | true =>
        obtain ⟨xT, hxT⟩ : ∃ x, x = d[m]! := ⟨_, rfl⟩
        obtain ⟨yT, hyT⟩ : ∃ x, x = d[h]! := ⟨_, rfl⟩
        have lTa := S1.out.ld R (by omega) P (m) (by omega)
        have lTb := S1.out.ld R (by omega) P (h) (by omega)
        rw [← hxT] at lTa
        rw [← hyT] at lTb
        have hcT := S1.out.cmp HC.out (by omega) xT yT
        have hvT : cf xT yT < 0 := by rw [hxT, hyT]; exact of_decide_eq_true hL
        have hdT : decide (cf xT yT < 0) = true := decide_eq_true hvT
        clear hxT hyT
        go_wp2_with fail
        go_quiet_grown (first | (go_at_fn g; refine Calls.grown_of (hcT _ _)))
        have S2 : Aside (SWK enc k w0 blk off d (grow (wr.drewN nq) osq)) := S1.out.grown nq osq
        clear lTa lTb hcT S1
        generalize grow (wr.drewN nq) osq = w2 at S2 ⊢
        clear nq osq
        go_wp2
        go_roundg (h - i)
        case measure => omega
        case rel => exact ⟨i, h, rfl, rfl, h1, hih, by omega, Nat.le_refl _, S2, HE.out.1, .inr hL⟩
      | false =>
        obtain ⟨xT, hxT⟩ : ∃ x, x = d[m]! := ⟨_, rfl⟩
        obtain ⟨yT, hyT⟩ : ∃ x, x = d[h]! := ⟨_, rfl⟩
        have lTa := S1.out.ld R (by omega) P (m) (by omega)
        have lTb := S1.out.ld R (by omega) P (h) (by omega)
        rw [← hxT] at lTa
        rw [← hyT] at lTb
        have hcT := S1.out.cmp HC.out (by omega) xT yT
        have hvT : ¬ cf xT yT < 0 := by rw [hxT, hyT]; exact of_decide_eq_false hL
        have hdT : decide (cf xT yT < 0) = false := decide_eq_false hvT
        clear hxT hyT
        go_wp2_with fail
        go_quiet_grown (first | (go_at_fn g; refine Calls.grown_of (hcT _ _)))
        have S2 : Aside (SWK enc k w0 blk off d (grow (wr.drewN nq) osq)) := S1.out.grown nq osq
        clear lTa lTb hcT S1
        generalize grow (wr.drewN nq) osq = w2 at S2 ⊢
        clear nq osq
        go_wp2
        go_roundg (j - (h + 1))
        case measure => omega
        case rel => exact ⟨h + 1, j, by simp, rfl, by omega, by omega, h3, Nat.le_refl _, S2, .inr (by simpa using hL), HE.out.2⟩
    · have hltz : ¬ (i : Int) < (j : Int) := by omega
      obtain rfl : i = j := by omega
      have S3 : Aside (SWK enc k w0 blk off d wr) := S1
      obtain ⟨W, hW⟩ : ∃ W, W = wr := ⟨wr, rfl⟩
      subst hW
      clear S1
      go_wp2
      go_loopg [17] (m - i) (fun kx s wr => ∃ (c : Nat) (dk : Array α), s = .int .i64 c ∧ i ≤ c ∧ c ≤ m ∧ c - i ≤ kx ∧ dk.size = d.size ∧ Aside (SWK enc k w0 blk off dk wr) ∧ Hid ((∀ p, dk[p]! = rotF (fun q => d[q]!) c m (m + 1) p) ∧ PermIn a (m + 1) d dk))
      case atStart => exact ⟨m, d, rfl, h3, Nat.le_refl _, Nat.le_refl _, rfl, S3, fun p => rot_startD d m p, permIn_refl _ _ _⟩
      case round =>
        clear S3
        obtain ⟨c, dk, rfl, c1, c2, ckx, hds, S1, HR⟩ := hrel
        by_cases hc : i < c
        · have hcz : (i : Int) < (c : Int) := by omega
          obtain ⟨e, rfl⟩ : ∃ e, c = e + 1 := ⟨c - 1, by omega⟩
          have hcz' : (i : Int) < (e : Int) + 1 := by omega
          have bc : (e : Int) + 1 < (d.size : Int) := by omega
          have be : (e : Int) < (d.size : Int) := by omega
          have re : IntKind.i64.wrap ((e : Int) + 1 - 1) = (e : Int) := by rw [IntKind.wrap_i64]; omega
          have re2 : IntKind.i64.wrap (e : Int) = (e : Int) := by rw [IntKind.wrap_i64]; omega
          have pc : (0 : Int) ≤ (e : Int) + 1 := by omega
          have ec : ((e : Int) + 1).toNat = e + 1 := by omega
          have hdn := down_step d dk m (e + 1) HR.out.1 (by omega) c2 (by omega)
          rw [Nat.add_sub_cancel] at hdn
          have HDN := Lib.hid hdn
          clear hdn
          have S2 : Aside (SWK enc k w0 blk off (swp dk (e + 1) (e)) ((wr.drew.setCells blk (off + (e + 1) * k) (enc dk[e]!)).setCells blk (off + (e) * k) (enc dk[e + 1]!))) := S1.out.swapped R (e + 1) (e) (by omega) (by omega)
          have la := S1.out.ld1 R (by omega) P (e + 1) (by omega)
          have lb := S1.out.ld1 R (by omega) P (e) (by omega)
          have sa := S1.out.st1 R (by omega) P (e + 1) (by omega) dk[e]!
          have sb := S1.out.st2 R (by omega) P (e + 1) (e) (by omega) (by omega) dk[e]! dk[e + 1]!
          have na : (enc dk[e + 1]!).length = k := R.hk _
          have nb : (enc dk[e]!).length = k := R.hk _
          generalize enc dk[e + 1]! = cI at S2 la sb na
          generalize enc dk[e]! = cJ at S2 lb sa sb nb
          clear S1
          go_wp2_with fail
          go_big_region_o
          clear la lb sa sb
          generalize (wr.drew.setCells blk (off + (e + 1) * k) cJ).setCells blk (off + (e) * k) cI = w2 at S2 ⊢
          go_wp2
          go_roundg (e - i)
          case measure => omega
          case rel => exact ⟨e, swp dk (e + 1) e, by first | rfl | simp | (congr 1; omega), by omega, by omega, Nat.le_refl _, by rw [size_swp]; exact hds, S2, HDN.out, permIn_trans _ _ _ _ _ HR.out.2 (swp_permIn dk a (m + 1) _ _ (by omega) (by omega) (by omega) (by omega) (by omega))⟩
        · have hcz : ¬ (i : Int) < (c : Int) := by omega
          obtain rfl : c = i := by omega
          go_wp2
          (try simp only [Exit.inBlock, Exit.then]); refine bodyPost_ret (results_none rfl _ _ _) rfl ?_
          exact ⟨rfl, dk, hds, HR.out.2, sym_down hO h1 h3 HS.out HE.out.1 HE.out.2 HR.out.1, S1.out⟩
end
end Go.Proofs.Ytodddcacngjadaa
