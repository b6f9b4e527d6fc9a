/-
  The walk of slices.symMergeCmpFunc, at elements of k cells: the cut, the middle ahead of the second part.
-/
import Derived.Test.YtodddcacngjadaaSymE
namespace Go.Proofs.Ytodddcacngjadaa
open Go.Shelf Go.RowKit Go.Lib Go.Sort
set_option linter.unusedVariables false
set_option linter.unusedSimpArgs false
section
variable {P : Program} {k : Nat} {α : Type} [Inhabited α]

set_option maxHeartbeats 16000000 in
set_option maxRecDepth 1000000 in
theorem sym_hi (L : SymL P k) (enc : α → List Value) (cf : α → α → Int) (hO : SWO (ltOf cf)) (g : Nat) (cb : Array Value) (eg : ∀ args w, (callFunc g args).run P w = .ok (.enter g args) w) (blk off cap : Nat) (d0 : Array α) (w0 : World) (hcmp : CmpLays P g cb enc k cf blk off d0.size w0) (R : RowK enc k w0 blk off d0) (a m b mid : Nat) (d : Array α) (w : World) (ham : a + 1 < m) (hmb : m + 1 < b) (hb : b ≤ d.size) (hmid : mid = (a + b) / 2) (hm : mid < m) (hs : d0.size = d.size) (hsz : d.size ≤ 1000) (S : SWK enc k w0 blk off d w) (hSa : SortedIn (ltOf cf) a m d) (hSb : SortedIn (ltOf cf) m b d)
    (rec : ∀ (a' m' b' : Nat) (d1 : Array α) (w1 : World), a ≤ a' → b' ≤ b → b' - a' < b - a → a' < m' → m' < b' → d1.size = d.size → SWK enc k w0 blk off d1 w1 → SortedIn (ltOf cf) a' m' d1 → SortedIn (ltOf cf) m' b' d1 →
      Calls P 38 #[.slice (some ⟨blk, off, none⟩) d.size cap, .int .i64 a', .int .i64 m', .int .i64 b', .func (.func g) #[] cb] w1 fun e w' => e = .returned (.tuple #[]) ∧ ∃ d' : Array α, d'.size = d.size ∧ PermIn a' b' d1 d' ∧ SortedIn (ltOf cf) a' b' d' ∧ SWK enc k w0 blk off d' w') :
    Calls P 38 #[.slice (some ⟨blk, off, none⟩) d.size cap, .int .i64 a, .int .i64 m, .int .i64 b, .func (.func g) #[] cb] w fun e w' => e = .returned (.tuple #[]) ∧ ∃ d' : Array α, d'.size = d.size ∧ PermIn a b d d' ∧ SortedIn (ltOf cf) a b d' ∧ SWK enc k w0 blk off d' w' := by
  have mixed := L.mixed; have t0 := L.t0; have a0 := L.a0; have z0 := L.z0; have v0 := L.v0; have t3 := L.t3; have a3 := L.a3; have z3 := L.z3; have v3 := L.v3; have t4 := L.t4; have a4 := L.a4; have z4 := L.z4; have v4 := L.v4; have t41 := L.t41; have a41 := L.a41; have z41 := L.z41; have v41 := L.v41; have t48 := L.t48; have a48 := L.a48; have z48 := L.z48; have v48 := L.v48; have t82 := L.t82; have a82 := L.a82; have z82 := L.z82; have v82 := L.v82; have aE := L.aE; have zE := L.zE
  have e45 : ∀ args w, (callFunc 45 args).run P w = .ok (.enter 45 args) w := enters_of L.f45 (by kernel_rfl) rfl
  have e38 : ∀ args w, (callFunc 38 args).run P w = .ok (.enter 38 args) w := enters_of L.f38 (by kernel_rfl) rfl
  have S0 : Aside (SWK enc k w0 blk off d w) := S
  have HF := L.f38
  have HL := Lib.hid L
  have HC : Aside (CmpLays P g cb enc k cf blk off d0.size w0) := hcmp
  have HS := Lib.hid (And.intro hSa hSb)
  have HR := Lib.hid rec
  clear S L hcmp hSa hSb rec
  have r0 : IntKind.i64.wrap ((m : Int) - (a : Int)) = (m : Int) - (a : Int) := by rw [IntKind.wrap_i64]; omega
  have r1 : ((m : Int) - (a : Int) == 1) = false := by rw [beq_eq_false_iff_ne]; omega
  have r2 : IntKind.i64.wrap ((b : Int) - (m : Int)) = (b : Int) - (m : Int) := by rw [IntKind.wrap_i64]; omega
  have r3 : ((b : Int) - (m : Int) == 1) = false := by rw [beq_eq_false_iff_ne]; omega
  have hdiv : ((a : Int) + (b : Int)) / 2 = (mid : Int) := by omega
  have hm1 : a < mid := by omega
  have hm2 : mid < b := by omega
  have hm3 : a + b ≤ 2 * mid + 1 := by omega
  have hm4 : 2 * mid ≤ a + b := by omega
  obtain ⟨pp, hpp⟩ : ∃ pp, mid + m = pp + 1 := ⟨mid + m - 1, by omega⟩
  have r4 : IntKind.i64.wrap ((mid : Int) + (m : Int)) = ((pp + 1 : Nat) : Int) := by rw [IntKind.wrap_i64]; omega
  have r5 : IntKind.i64.wrap (((pp + 1 : Nat) : Int) - 1) = (pp : Int) := by rw [IntKind.wrap_i64]; omega
  have r5' : IntKind.i64.wrap ((pp : Int) + 1 - 1) = (pp : Int) := by rw [IntKind.wrap_i64]; omega
  have r5'' : IntKind.i64.wrap (pp : Int) = (pp : Int) := by rw [IntKind.wrap_i64]; omega
  have hmz : (mid : Int) < (m : Int) := by omega
  obtain ⟨s0, hs0⟩ : ∃ s0, s0 = pp + 1 - b := ⟨_, rfl⟩
  have hs01 : s0 + b ≤ pp + 1 := by omega
  have hs02 : pp + 1 ≤ s0 + b := by omega
  clear hs0
  have r6 : IntKind.i64.wrap ((pp : Int) + 1 - (b : Int)) = (s0 : Int) := by rw [IntKind.wrap_i64]; omega
  clear hmid
  go_enter HF, Try.ntmps38
  go_wp2_with fail
  try rw [hdiv]
  clear hdiv
  go_wp2
  go_loopg [20, 21] b (fun kx si sj wr => ∃ (s r : Nat), si = .int .i64 s ∧ sj = .int .i64 r ∧ s0 ≤ s ∧ s ≤ r ∧ r ≤ mid ∧ r - s ≤ kx ∧ Aside (SWK enc k w0 blk off d wr) ∧ Hid ((s = s0 ∨ ltOf cf d[pp + 1 - s]! d[s - 1]! = false) ∧ (r = mid ∨ ltOf cf d[pp - r]! d[r]! = true)))
  case atStart => exact ⟨s0, mid, rfl, rfl, Nat.le_refl _, by omega, Nat.le_refl _, by omega, S0, .inl rfl, .inl rfl⟩
  case round =>
    clear S0
    obtain ⟨s, r, rfl, rfl, h1, h2, h3, hkx, S1, HE⟩ := hrel
    by_cases hlt : s < r
    · have hltz : (s : Int) < (r : Int) := by omega
      obtain ⟨c, hc⟩ : ∃ c, c = (s + r) / 2 := ⟨_, rfl⟩
      have hsc : s ≤ c := by omega
      have hcr : c < r := by omega
      have hdiv : ((s : Int) + (r : Int)) / 2 = (c : Int) := by omega
      clear hc
      have ra : IntKind.i64.wrap ((pp : Int) - (c : Int)) = (pp : Int) - (c : Int) := by rw [IntKind.wrap_i64]; omega
      have ea : ((pp : Int) - (c : Int)).toNat = pp - c := by omega
      have pa' : (c : Int) ≤ (pp : Int) := by omega
      have pa2 : c ≤ pp := by omega
      have pa : (0 : Int) ≤ (pp : Int) - (c : Int) := by omega
      have ba : (pp : Int) - (c : Int) < (d.size : Int) := by omega
      go_wp2_with fail
      try rw [hdiv]
      clear hdiv
      have bc : (c : Int) < (d.size : Int) := by omega
      cases hL : ltOf cf d[pp - c]! d[c]! with
      | true =>
        obtain ⟨xT, hxT⟩ : ∃ x, x = d[pp - c]! := ⟨_, rfl⟩
        obtain ⟨yT, hyT⟩ : ∃ x, x = d[c]! := ⟨_, rfl⟩
        have lTa := S1.out.ld R (by omega) P (pp - c) (by omega)
        have lTb := S1.out.ld R (by omega) P (c) (by omega)
        rw [← hxT] at lTa
        rw [← hyT] at lTb
        have hcT := S1.out.cmp HC.out (by omega) xT yT
        have hvT : cf xT yT < 0 := by rw [hxT, hyT]; exact of_decide_eq_true hL
        have hdT : decide (cf xT yT < 0) = true := decide_eq_true hvT
        clear hxT hyT
        go_wp2_with fail
        go_quiet_grown (first | (go_at_fn g; refine Calls.grown_of (hcT _ _)))
        have S2 : Aside (SWK enc k w0 blk off d (grow (wr.drewN nq) osq)) := S1.out.grown nq osq
        clear lTa lTb hcT S1
        generalize grow (wr.drewN nq) osq = w2 at S2 ⊢
        clear nq osq
        go_wp2
        go_roundg (c - s)
        case measure => omega
        case rel => exact ⟨s, c, rfl, rfl, h1, hsc, by omega, Nat.le_refl _, S2, HE.out.1, .inr hL⟩
      | false =>
        obtain ⟨xT, hxT⟩ : ∃ x, x = d[pp - c]! := ⟨_, rfl⟩
        obtain ⟨yT, hyT⟩ : ∃ x, x = d[c]! := ⟨_, rfl⟩
        have lTa := S1.out.ld R (by omega) P (pp - c) (by omega)
        have lTb := S1.out.ld R (by omega) P (c) (by omega)
        rw [← hxT] at lTa
        rw [← hyT] at lTb
        have hcT := S1.out.cmp HC.out (by omega) xT yT
        have hvT : ¬ cf xT yT < 0 := by rw [hxT, hyT]; exact of_decide_eq_false hL
        have hdT : decide (cf xT yT < 0) = false := decide_eq_false hvT
        clear hxT hyT
        go_wp2_with fail
        go_quiet_grown (first | (go_at_fn g; refine Calls.grown_of (hcT _ _)))
        have S2 : Aside (SWK enc k w0 blk off d (grow (wr.drewN nq) osq)) := S1.out.grown nq osq
        clear lTa lTb hcT S1
        generalize grow (wr.drewN nq) osq = w2 at S2 ⊢
        clear nq osq
        go_wp2
        go_roundg (r - (c + 1))
        case measure => omega
        case rel => exact ⟨c + 1, r, by simp, rfl, by omega, by omega, h3, Nat.le_refl _, S2, .inr (by rw [show pp + 1 - (c + 1) = pp - c by omega, Nat.add_sub_cancel]; exact hL), HE.out.2⟩
    · have hltz : ¬ (s : Int) < (r : Int) := by omega
      obtain rfl : s = r := by omega
      obtain ⟨en, hen⟩ : ∃ en, en = pp + 1 - s := ⟨_, rfl⟩
      have ren : IntKind.i64.wrap ((pp : Int) + 1 - (s : Int)) = (en : Int) := by rw [IntKind.wrap_i64]; omega
      have K1 : Hid (¬ s = s0 → ltOf cf d[en]! d[s - 1]! = false) := fun hne => by rw [hen]; exact HE.out.1.resolve_left hne
      have K2 : Hid (¬ s = mid → ltOf cf d[en - 1]! d[s]! = true) := fun hne => by rw [show en - 1 = pp - s by omega]; exact HE.out.2.resolve_left hne
      have hen1 : en + s ≤ pp + 1 := by omega
      have hen2 : pp + 1 ≤ en + s := by omega
      have hpp1 : mid + m ≤ pp + 1 := by omega
      have hpp2 : pp + 1 ≤ mid + m := by omega
      clear HE hltz hen hpp
      by_cases hx : s = mid
      · have hx1 : s ≤ mid := by omega
        have hx2 : mid ≤ s := by omega
        clear hx
        have z1 : (s : Int) < (m : Int) := by omega
        have z2 : ¬ (m : Int) < (en : Int) := by omega
        have z3 : (a : Int) < (s : Int) := by omega
        have z4 : ¬ (s : Int) < (mid : Int) := by omega
        have z5 : (mid : Int) < (en : Int) := by omega
        have z6 : (en : Int) < (b : Int) := by omega
        have hd1 : ∀ p, d[p]! = rotF (fun q => d[q]!) s m en p := fun p => (rot_none _ _ _ _ _ (by omega) (by omega) (by omega)).symm
        have hp1 : PermIn s en d d := permIn_refl _ _ _
        have hz1 : d.size = d.size := rfl
        have hS1 := S1.out
        obtain ⟨W1, hW1⟩ : ∃ W1, W1 = wr := ⟨wr, rfl⟩
        subst hW1
        obtain ⟨q1, q2, q3, q4, q5⟩ := sym_cut hO (by omega) (by omega) (by omega) (by omega) (show s + en = mid + m by omega) HS.out.1 HS.out.2 (fun _ _ => by have := K1.out (by omega); exact this) (fun _ _ => by have := K2.out (by omega); exact this) hd1
        have hpm : PermIn a b d d := permIn_mono _ _ _ _ _ _ (by omega) (by omega) (by omega) hp1
        have hleft : SortedIn (ltOf cf) a mid d := sorted_skip (by omega) (by omega) (by omega) q1 q2
        have HQ := Lib.hid (And.intro q1 (And.intro q2 (And.intro q3 (And.intro q4 (And.intro q5 hpm)))))
        clear q1 q2 q3 q4 q5 hpm hd1 hp1
        have hp2 : PermIn a mid d d := permIn_refl _ _ _
        have hz2 : d.size = d.size := hz1
        have ho2 := hleft
        have hS2 := hS1
        have q3 : SortedIn (ltOf cf) mid en d := fun x y hx hxy hy => by rw [hp2.2.1 x (.inr (by omega)), hp2.2.1 y (.inr (by omega))]; exact HQ.out.2.2.1 x y hx hxy hy
        have q4 : SortedIn (ltOf cf) en b d := fun x y hx hxy hy => by rw [hp2.2.1 x (.inr (by omega)), hp2.2.1 y (.inr (by omega))]; exact HQ.out.2.2.2.1 x y hx hxy hy
        have cT := HR.out mid en b d W1 (by omega) (Nat.le_refl _) (by omega) (by omega) (by omega) hz2 hS2 q3 q4
        have HP2 := Lib.hid (And.intro hp2 ho2)
        clear q3 q4 hp2 ho2
        go_wp2_with (go_at_fn 38; refine cT.mono ?_; rintro e W3 ⟨rfl, d3, hz3, hp3, ho3, hS3⟩)
        go_end0
        obtain ⟨p1, p2⟩ := sym_end (by omega) (by omega) (by omega) HQ.out.2.2.2.2.1 HP2.out.1 HP2.out.2 hp3 ho3
        exact ⟨rfl, d3, hz3, permIn_trans _ _ _ _ _ HQ.out.2.2.2.2.2 p1, p2, hS3⟩
      · by_cases hy : a = s
        · by_cases hw : en = b
          · have hy1 : a ≤ s := by omega
            have hy2 : s ≤ a := by omega
            clear hy
            have hw1 : en ≤ b := by omega
            have hw2 : b ≤ en := by omega
            clear hw
            have z1 : (s : Int) < (m : Int) := by omega
            have z2 : (m : Int) < (en : Int) := by omega
            have z3 : ¬ (a : Int) < (s : Int) := by omega
            have z5 : (mid : Int) < (en : Int) := by omega
            have z6 : ¬ (en : Int) < (b : Int) := by omega
            have cR := rotate_any HL.out enc g cb blk off cap s m en d0 d w0 wr R hs S1.out (by omega) (by omega) (by omega) (by omega)
            clear S1
            go_wp2_with ((go_at_fn 45; refine cR.mono ?_; rintro e W1 ⟨rfl, d1, hz1, hd1, hp1, hS1⟩; refine Hid.out ?_))
            refine Lib.hid ?_
            clear cR
            obtain ⟨q1, q2, q3, q4, q5⟩ := sym_cut hO (by omega) (by omega) (by omega) (by omega) (show s + en = mid + m by omega) HS.out.1 HS.out.2 (fun _ _ => by have := K1.out (by omega); exact this) (fun _ _ => by have := K2.out (by omega); exact this) hd1
            have hpm : PermIn a b d d1 := permIn_mono _ _ _ _ _ _ (by omega) (by omega) (by omega) hp1
            have hleft : SortedIn (ltOf cf) a mid d1 := sorted_skip (by omega) (by omega) (by omega) q1 q2
            have HQ := Lib.hid (And.intro q1 (And.intro q2 (And.intro q3 (And.intro q4 (And.intro q5 hpm)))))
            clear q1 q2 q3 q4 q5 hpm hd1 hp1
            have hp2 : PermIn a mid d1 d1 := permIn_refl _ _ _
            have hz2 : d1.size = d.size := hz1
            have ho2 := hleft
            have hS2 := hS1
            have q3 : SortedIn (ltOf cf) mid en d1 := fun x y hx hxy hy => by rw [hp2.2.1 x (.inr (by omega)), hp2.2.1 y (.inr (by omega))]; exact HQ.out.2.2.1 x y hx hxy hy
            have q4 : SortedIn (ltOf cf) en b d1 := fun x y hx hxy hy => by rw [hp2.2.1 x (.inr (by omega)), hp2.2.1 y (.inr (by omega))]; exact HQ.out.2.2.2.1 x y hx hxy hy
            have hright : SortedIn (ltOf cf) mid b d1 := sorted_skip (by omega) (by omega) (by omega) q3 q4
            obtain ⟨p1, p2⟩ := sym_end (by omega) (by omega) (by omega) HQ.out.2.2.2.2.1 hp2 ho2 (permIn_refl _ _ _) hright
            have HFin : Hid (PermIn a b d d1 ∧ SortedIn (ltOf cf) a b d1 ∧ SWK enc k w0 blk off d1 W1) := ⟨permIn_trans _ _ _ _ _ HQ.out.2.2.2.2.2 p1, p2, hS2⟩
            clear p1 p2 hright q3 q4 hp2 ho2 hS2 hz2
            go_wp2
            go_end0
            exact ⟨rfl, d1, HFin.out.1.1, HFin.out⟩
          · exfalso; omega
        · by_cases hw : en = b
          · have hw1 : en ≤ b := by omega
            have hw2 : b ≤ en := by omega
            clear hw
            have z1 : (s : Int) < (m : Int) := by omega
            have z2 : (m : Int) < (en : Int) := by omega
            have z3 : (a : Int) < (s : Int) := by omega
            have z4 : (s : Int) < (mid : Int) := by omega
            have z5 : (mid : Int) < (en : Int) := by omega
            have z6 : ¬ (en : Int) < (b : Int) := by omega
            have cR := rotate_any HL.out enc g cb blk off cap s m en d0 d w0 wr R hs S1.out (by omega) (by omega) (by omega) (by omega)
            clear S1
            go_wp2_with ((go_at_fn 45; refine cR.mono ?_; rintro e W1 ⟨rfl, d1, hz1, hd1, hp1, hS1⟩; refine Hid.out ?_))
            refine Lib.hid ?_
            clear cR
            obtain ⟨q1, q2, q3, q4, q5⟩ := sym_cut hO (by omega) (by omega) (by omega) (by omega) (show s + en = mid + m by omega) HS.out.1 HS.out.2 (fun _ _ => by have := K1.out (by omega); exact this) (fun _ _ => by have := K2.out (by omega); exact this) hd1
            have hpm : PermIn a b d d1 := permIn_mono _ _ _ _ _ _ (by omega) (by omega) (by omega) hp1
            have cL := HR.out a s mid d1 W1 (Nat.le_refl _) (by omega) (by omega) (by omega) (by omega) hz1 hS1 q1 q2
            have HQ := Lib.hid (And.intro q1 (And.intro q2 (And.intro q3 (And.intro q4 (And.intro q5 hpm)))))
            clear q1 q2 q3 q4 q5 hpm hd1 hp1
            go_wp2_with (go_at_fn 38; refine cL.mono ?_; rintro e W2 ⟨rfl, d2, hz2, hp2, ho2, hS2⟩; refine Hid.out ?_)
            refine Lib.hid ?_
            clear cL hS1
            have q3 : SortedIn (ltOf cf) mid en d2 := fun x y hx hxy hy => by rw [hp2.2.1 x (.inr (by omega)), hp2.2.1 y (.inr (by omega))]; exact HQ.out.2.2.1 x y hx hxy hy
            have q4 : SortedIn (ltOf cf) en b d2 := fun x y hx hxy hy => by rw [hp2.2.1 x (.inr (by omega)), hp2.2.1 y (.inr (by omega))]; exact HQ.out.2.2.2.1 x y hx hxy hy
            have hright : SortedIn (ltOf cf) mid b d2 := sorted_skip (by omega) (by omega) (by omega) q3 q4
            obtain ⟨p1, p2⟩ := sym_end (by omega) (by omega) (by omega) HQ.out.2.2.2.2.1 hp2 ho2 (permIn_refl _ _ _) hright
            have HFin : Hid (PermIn a b d d2 ∧ SortedIn (ltOf cf) a b d2 ∧ SWK enc k w0 blk off d2 W2) := ⟨permIn_trans _ _ _ _ _ HQ.out.2.2.2.2.2 p1, p2, hS2⟩
            clear p1 p2 hright q3 q4 hp2 ho2 hS2 hz2
            go_wp2
            go_end0
            exact ⟨rfl, d2, HFin.out.1.1, HFin.out⟩
          · have z1 : (s : Int) < (m : Int) := by omega
            have z2 : (m : Int) < (en : Int) := by omega
            have z3 : (a : Int) < (s : Int) := by omega
            have z4 : (s : Int) < (mid : Int) := by omega
            have z5 : (mid : Int) < (en : Int) := by omega
            have z6 : (en : Int) < (b : Int) := by omega
            have cR := rotate_any HL.out enc g cb blk off cap s m en d0 d w0 wr R hs S1.out (by omega) (by omega) (by omega) (by omega)
            clear S1
            go_wp2_with ((go_at_fn 45; refine cR.mono ?_; rintro e W1 ⟨rfl, d1, hz1, hd1, hp1, hS1⟩; refine Hid.out ?_))
            refine Lib.hid ?_
            clear cR
            obtain ⟨q1, q2, q3, q4, q5⟩ := sym_cut hO (by omega) (by omega) (by omega) (by omega) (show s + en = mid + m by omega) HS.out.1 HS.out.2 (fun _ _ => by have := K1.out (by omega); exact this) (fun _ _ => by have := K2.out (by omega); exact this) hd1
            have hpm : PermIn a b d d1 := permIn_mono _ _ _ _ _ _ (by omega) (by omega) (by omega) hp1
            have cL := HR.out a s mid d1 W1 (Nat.le_refl _) (by omega) (by omega) (by omega) (by omega) hz1 hS1 q1 q2
            have HQ := Lib.hid (And.intro q1 (And.intro q2 (And.intro q3 (And.intro q4 (And.intro q5 hpm)))))
            clear q1 q2 q3 q4 q5 hpm hd1 hp1
            go_wp2_with (go_at_fn 38; refine cL.mono ?_; rintro e W2 ⟨rfl, d2, hz2, hp2, ho2, hS2⟩; refine Hid.out ?_)
            refine Lib.hid ?_
            clear cL hS1
            have q3 : SortedIn (ltOf cf) mid en d2 := fun x y hx hxy hy => by rw [hp2.2.1 x (.inr (by omega)), hp2.2.1 y (.inr (by omega))]; exact HQ.out.2.2.1 x y hx hxy hy
            have q4 : SortedIn (ltOf cf) en b d2 := fun x y hx hxy hy => by rw [hp2.2.1 x (.inr (by omega)), hp2.2.1 y (.inr (by omega))]; exact HQ.out.2.2.2.1 x y hx hxy hy
            have cT := HR.out mid en b d2 W2 (by omega) (Nat.le_refl _) (by omega) (by omega) (by omega) hz2 hS2 q3 q4
            have HP2 := Lib.hid (And.intro hp2 ho2)
            clear q3 q4 hp2 ho2
            go_wp2_with (go_at_fn 38; refine cT.mono ?_; rintro e W3 ⟨rfl, d3, hz3, hp3, ho3, hS3⟩)
            go_end0
            obtain ⟨p1, p2⟩ := sym_end (by omega) (by omega) (by omega) HQ.out.2.2.2.2.1 HP2.out.1 HP2.out.2 hp3 ho3
            exact ⟨rfl, d3, hz3, permIn_trans _ _ _ _ _ HQ.out.2.2.2.2.2 p1, p2, hS3⟩
end
end Go.Proofs.Ytodddcacngjadaa
