/-
  slices.stableCmpFunc and slices.SortStableFunc, at elements of k cells, at most a thousand of them: what is sorted is a permutation, in order.
-/
import Derived.Test.YtodddcacngjadaaSymG
namespace Go.Proofs.Ytodddcacngjadaa
open Go.Shelf Go.RowKit Go.Lib Go.Sort
set_option linter.unusedVariables false
set_option linter.unusedSimpArgs false
section
variable {P : Program} {k : Nat} {α : Type} [Inhabited α]

theorem permIn_up {a b n : Nat} {d d1 d2 : Array α} (h : PermIn 0 n d d1) (h2 : PermIn a b d1 d2) (hb : b ≤ n) (hz : n ≤ d1.size) : PermIn 0 n d d2 :=
  permIn_trans _ _ _ _ _ h (permIn_mono _ _ _ _ _ _ (Nat.zero_le _) hb hz h2)
/-- The next two blocks, merged. -/
theorem bl_merge {lt : α → α → Bool} {bs n a : Nat} {d d1 : Array α} (hk : Kb lt (2 * bs) n a d) (hb : Bl lt bs n d a) (hn : a + 2 * bs ≤ n) (hp : PermIn a (a + 2 * bs) d d1) (hs : SortedIn lt a (a + 2 * bs) d1) : Kb lt (2 * bs) n (a + 2 * bs) d1 ∧ Bl lt bs n d1 (a + 2 * bs) := by
  refine ⟨kb_step hk hn (fun p h => hp.2.1 p (.inl h)) hs, ?_⟩
  have := hb.tail.tail
  rw [show a + bs + bs = a + 2 * bs by omega] at this
  exact this.congr (fun p h => hp.2.1 p (.inr h))
theorem bl_two {lt : α → α → Bool} {bs n a e : Nat} {d : Array α} (hb : Bl lt bs n d a) (h1 : a + bs ≤ n) (he : e = min (a + 2 * bs) n) : SortedIn lt a (a + bs) d ∧ SortedIn lt (a + bs) e d := by
  have q1 := hb.head
  have q2 := hb.tail.head
  rw [Nat.min_eq_left h1] at q1
  rw [show a + bs + bs = a + 2 * bs by omega, ← he] at q2
  exact ⟨q1, q2⟩

set_option maxHeartbeats 16000000 in
set_option maxRecDepth 1000000 in
theorem stable_any (L : SymL P k) (enc : α → List Value) (cf : α → α → Int) (hO : SWO (ltOf cf)) (g : Nat) (cb : Array Value) (eg : ∀ args w, (callFunc g args).run P w = .ok (.enter g args) w) (blk off cap : Nat) (d0 : Array α) (w0 : World) (hcmp : CmpLays P g cb enc k cf blk off d0.size w0) (R : RowK enc k w0 blk off d0)
    (e37 : ∀ args w, (callFunc 37 args).run P w = .ok (.enter 37 args) w)
    (hins : ∀ (a b : Nat) (d : Array α) (w : World), d0.size = d.size → SWK enc k w0 blk off d w → a ≤ b → b ≤ d.size → d.size < 4611686018427387904 → Calls P 37 #[.slice (some ⟨blk, off, none⟩) d.size cap, .int .i64 a, .int .i64 b, .func (.func g) #[] cb] w fun e w' => e = .returned (.tuple #[]) ∧ SWK enc k w0 blk off (Sort.insertionSort (ltOf cf) d a b) w')
    (d : Array α) (w : World) (hs : d0.size = d.size) (hsz : d.size ≤ 1000) (S : SWK enc k w0 blk off d w) :
    Calls P 24 #[.slice (some ⟨blk, off, none⟩) d.size cap, .int .i64 d.size, .func (.func g) #[] cb] w fun e w' => e = .returned (.tuple #[]) ∧ ∃ d' : Array α, PermIn 0 d.size d d' ∧ SortedIn (ltOf cf) 0 d.size d' ∧ SWK enc k w0 blk off d' w' := by
  have mixed := L.mixed; have t0 := L.t0; have a0 := L.a0; have z0 := L.z0; have v0 := L.v0; have t3 := L.t3; have a3 := L.a3; have z3 := L.z3; have v3 := L.v3; have t4 := L.t4; have a4 := L.a4; have z4 := L.z4; have v4 := L.v4; have t41 := L.t41; have a41 := L.a41; have z41 := L.z41; have v41 := L.v41; have t48 := L.t48; have a48 := L.a48; have z48 := L.z48; have v48 := L.v48
  have e38 : ∀ args w, (callFunc 38 args).run P w = .ok (.enter 38 args) w := enters_of L.f38 (by kernel_rfl) rfl
  have S0 : Aside (SWK enc k w0 blk off d w) := S
  have HF := L.f24
  have HI := Lib.hid hins
  have HM := Lib.hid (symMerge_all L enc cf hO g cb eg blk off cap d0 w0 hcmp R)
  obtain ⟨n, hn⟩ : ∃ n, n = d.size := ⟨_, rfl⟩
  have hn1 : n ≤ d.size := by omega
  have hn2 : d.size ≤ n := by omega
  have HN : Hid (n = d.size) := hn
  rw [← hn]
  clear S L hcmp hins hn
  go_enter HF, Try.ntmps24
  go_wp2
  go_loopg [7, 8] n (fun kx s7 s8 wr => ∃ (a : Nat) (dk : Array α), s7 = .int .i64 a ∧ s8 = .int .i64 ((a : Int) + 20) ∧ a ≤ n ∧ n - a ≤ kx ∧ dk.size = d.size ∧ Aside (SWK enc k w0 blk off dk wr) ∧ Hid (PermIn 0 n d dk ∧ Kb (ltOf cf) 20 n a dk))
  case atStart => exact ⟨0, d, rfl, rfl, Nat.zero_le _, by omega, rfl, S0, permIn_refl _ _ _, kb_start _ _ _⟩
  case round =>
    clear S0
    obtain ⟨a, dk, rfl, rfl, ha, hkx, hds, S1, HE⟩ := hrel
    by_cases hlt : a + 20 ≤ n
    · have hltz : (a : Int) + 20 ≤ (n : Int) := by omega
      have hih := insertionSort_holds hO dk a (a + 20) (by omega) (by omega)
      have c1 := HI.out a (a + 20) dk wr (by omega) S1.out (by omega) (by omega) (by omega)
      rw [hds, ← HN.out, show ((a + 20 : Nat) : Int) = (a : Int) + 20 by simp] at c1
      have HQ := Lib.hid hih
      generalize Sort.insertionSort (ltOf cf) dk a (a + 20) = d1 at c1 HQ
      have rb : IntKind.i64.wrap ((a : Int) + 20 + 20) = (a : Int) + 20 + 20 := by rw [IntKind.wrap_i64]; omega
      clear S1 hih
      go_wp2_with (go_at_fn 37; refine c1.mono ?_; rintro e W1 ⟨rfl, hS⟩)
      have hS1 : Aside (SWK enc k w0 blk off d1 W1) := hS
      clear hS
      go_roundg (n - (a + 20))
      case measure => omega
      case rel => exact ⟨a + 20, d1, by simp, by simp, hlt, Nat.le_refl _, HQ.out.1.1.trans hds, hS1, permIn_up HE.out.1 HQ.out.1 hlt (by omega), kb_step HE.out.2 hlt (fun p h => HQ.out.1.2.1 p (.inl h)) HQ.out.2⟩
    · have hltz : ¬ (a : Int) + 20 ≤ (n : Int) := by omega
      have hih := insertionSort_holds hO dk a n (by omega) (by omega)
      have c1 := HI.out a n dk wr (by omega) S1.out (by omega) (by omega) (by omega)
      rw [hds, ← HN.out] at c1
      have HQ := Lib.hid hih
      generalize Sort.insertionSort (ltOf cf) dk a n = d1 at c1 HQ
      obtain ⟨W, hW⟩ : ∃ W, W = wr := ⟨wr, rfl⟩
      subst hW
      clear S1 hih
      go_wp2_with (go_at_fn 37; refine c1.mono ?_; rintro e W1 ⟨rfl, hS⟩)
      have S2 : Aside (SWK enc k w0 blk off d1 W1) := hS
      have HB : Hid (d1.size = d.size ∧ PermIn 0 n d d1 ∧ Bl (ltOf cf) 20 n d1 0) := ⟨HQ.out.1.1.trans hds, permIn_up HE.out.1 HQ.out.1 (Nat.le_refl _) (by omega), kb_end HE.out.2 (by omega) (fun p h => HQ.out.1.2.1 p (.inl h)) HQ.out.2⟩
      clear hS c1 HQ HE
      go_loopg [6] n (fun kx s6 wr => ∃ (bs : Nat) (dk : Array α), s6 = .int .i64 bs ∧ 20 ≤ bs ∧ bs ≤ 2000 ∧ n - bs ≤ kx ∧ dk.size = d.size ∧ Aside (SWK enc k w0 blk off dk wr) ∧ Hid (PermIn 0 n d dk ∧ Bl (ltOf cf) bs n dk 0))
      case atStart => exact ⟨20, d1, rfl, Nat.le_refl _, by omega, by omega, HB.out.1, S2, HB.out.2⟩
      case round =>
        clear S2 HB
        obtain ⟨bs, dk, rfl, b1, b2, hkx, hds, S1, HE⟩ := hrel
        by_cases hlt2 : bs < n
        · have hltz2 : (bs : Int) < (n : Int) := by omega
          have r2 : IntKind.i64.wrap (2 * (bs : Int)) = 2 * (bs : Int) := by rw [IntKind.wrap_i64]; omega
          have r3 : IntKind.i64.wrap ((bs : Int) * 2) = (bs : Int) * 2 := by rw [IntKind.wrap_i64]; omega
          have S3 : Aside (SWK enc k w0 blk off dk wr) := S1
          obtain ⟨W3, hW3⟩ : ∃ W3, W3 = wr := ⟨wr, rfl⟩
          subst hW3
          clear S1
          go_wp2
          go_loopg [7, 8] n (fun kx s7 s8 wr => ∃ (a : Nat) (dj : Array α), s7 = .int .i64 a ∧ s8 = .int .i64 ((a : Int) + 2 * (bs : Int)) ∧ a ≤ n ∧ n - a ≤ kx ∧ dj.size = d.size ∧ Aside (SWK enc k w0 blk off dj wr) ∧ Hid (PermIn 0 n d dj ∧ Kb (ltOf cf) (2 * bs) n a dj ∧ Bl (ltOf cf) bs n dj a))
          case atStart => exact ⟨0, dk, rfl, by simp, Nat.zero_le _, by omega, hds, S3, HE.out.1, kb_start _ _ _, HE.out.2⟩
          case round =>
            clear S3 HE
            obtain ⟨a, dj, rfl, rfl, ha2, hkx2, hdj, S1, HE⟩ := hrel
            by_cases hle : a + 2 * bs ≤ n
            · have hlez : (a : Int) + 2 * (bs : Int) ≤ (n : Int) := by omega
              obtain ⟨q1, q2⟩ := bl_two HE.out.2.2 (by omega) (show a + 2 * bs = min (a + 2 * bs) n by omega)
              have c1 := HM.out (n + 1) a (a + bs) (a + 2 * bs) dj wr (by omega) (by omega) (by omega) (by omega) (by omega) (by omega) S1.out q1 q2
              rw [hdj, ← HN.out, show ((a + bs : Nat) : Int) = (a : Int) + (bs : Int) by simp, show ((a + 2 * bs : Nat) : Int) = (a : Int) + 2 * (bs : Int) by simp] at c1
              have r4 : IntKind.i64.wrap ((a : Int) + (bs : Int)) = (a : Int) + (bs : Int) := by rw [IntKind.wrap_i64]; omega
              have r5 : IntKind.i64.wrap ((a : Int) + 2 * (bs : Int) + 2 * (bs : Int)) = (a : Int) + 2 * (bs : Int) + 2 * (bs : Int) := by rw [IntKind.wrap_i64]; omega
              clear S1 q1 q2
              go_wp2_with (go_at_fn 38; refine c1.mono ?_; rintro e W4 ⟨rfl, d4, hz4, hp4, ho4, hS4⟩)
              have hS5 : Aside (SWK enc k w0 blk off d4 W4) := hS4
              have HQ := Lib.hid (bl_merge HE.out.2.1 HE.out.2.2 hle hp4 ho4)
              have HP4 : Hid (PermIn 0 n d d4 ∧ d4.size = d.size) := ⟨permIn_up HE.out.1 hp4 hle (by omega), hp4.1.trans hdj⟩
              clear hS4 hp4 ho4 hz4
              go_roundg (n - (a + 2 * bs))
              case measure => omega
              case rel => exact ⟨a + 2 * bs, d4, by simp, by simp, hle, Nat.le_refl _, HP4.out.2, hS5, HP4.out.1, HQ.out⟩
            · have hlez : ¬ (a : Int) + 2 * (bs : Int) ≤ (n : Int) := by omega
              have r4 : IntKind.i64.wrap ((a : Int) + (bs : Int)) = (a : Int) + (bs : Int) := by rw [IntKind.wrap_i64]; omega
              by_cases hmn : a + bs < n
              · have hmz : (a : Int) + (bs : Int) < (n : Int) := by omega
                obtain ⟨q1, q2⟩ := bl_two HE.out.2.2 (by omega) (show n = min (a + 2 * bs) n by omega)
                have c1 := HM.out (n + 1) a (a + bs) n dj wr (by omega) (by omega) hmn (by omega) (by omega) (by omega) S1.out q1 q2
                rw [hdj, ← HN.out, show ((a + bs : Nat) : Int) = (a : Int) + (bs : Int) by simp] at c1
                clear S1 q1 q2
                go_wp2_with (go_at_fn 38; refine c1.mono ?_; rintro e W4 ⟨rfl, d4, hz4, hp4, ho4, hS4⟩)
                have hS5 : Aside (SWK enc k w0 blk off d4 W4) := hS4
                have HQ : Hid (d4.size = d.size ∧ PermIn 0 n d d4 ∧ Bl (ltOf cf) (2 * bs) n d4 0) := ⟨hp4.1.trans hdj, permIn_up HE.out.1 hp4 (Nat.le_refl _) (by omega), kb_end HE.out.2.1 (by omega) (fun p h => hp4.2.1 p (.inl h)) ho4⟩
                clear hS4 hp4 ho4 hz4
                go_roundg (n - 2 * bs)
                case measure => omega
                case rel => exact ⟨2 * bs, d4, by first | rfl | (congr 1; simp; omega) | (congr 1; omega), by omega, by omega, Nat.le_refl _, HQ.out.1, hS5, HQ.out.2⟩
              · have hmz : ¬ (a : Int) + (bs : Int) < (n : Int) := by omega
                have q1 := HE.out.2.2.head
                rw [Nat.min_eq_right (by omega)] at q1
                have HQ : Hid (PermIn 0 n d dj ∧ Bl (ltOf cf) (2 * bs) n dj 0) := ⟨HE.out.1, kb_end HE.out.2.1 (by omega) (fun p h => rfl) q1⟩
                clear q1
                go_wp2
                go_roundg (n - 2 * bs)
                case measure => omega
                case rel => exact ⟨2 * bs, dj, by first | rfl | (congr 1; simp; omega) | (congr 1; omega), by omega, by omega, Nat.le_refl _, hdj, S1, HQ.out⟩
        · have hltz2 : ¬ (bs : Int) < (n : Int) := by omega
          go_wp2
          go_end0
          exact ⟨rfl, dk, HE.out.1, bl_all HE.out.2 (by omega), S1.out⟩

set_option maxHeartbeats 1000000 in
set_option maxRecDepth 100000 in
theorem sortStable_any (L : SymL P k) (enc : α → List Value) (cf : α → α → Int) (hO : SWO (ltOf cf)) (g : Nat) (cb : Array Value) (eg : ∀ args w, (callFunc g args).run P w = .ok (.enter g args) w) (blk off cap : Nat) (d : Array α) (w : World) (hcmp : CmpLays P g cb enc k cf blk off d.size w) (R : RowK enc k w blk off d)
    (e37 : ∀ args w, (callFunc 37 args).run P w = .ok (.enter 37 args) w)
    (hins : ∀ (a b : Nat) (d1 : Array α) (w1 : World), d.size = d1.size → SWK enc k w blk off d1 w1 → a ≤ b → b ≤ d1.size → d1.size < 4611686018427387904 → Calls P 37 #[.slice (some ⟨blk, off, none⟩) d1.size cap, .int .i64 a, .int .i64 b, .func (.func g) #[] cb] w1 fun e w' => e = .returned (.tuple #[]) ∧ SWK enc k w blk off (Sort.insertionSort (ltOf cf) d1 a b) w')
    (hsz : d.size ≤ 1000) :
    Calls P 11 #[.slice (some ⟨blk, off, none⟩) d.size cap, .func (.func g) #[] cb] w fun e w' => e = .returned (.tuple #[]) ∧ ∃ d' : Array α, PermIn 0 d.size d d' ∧ SortedIn (ltOf cf) 0 d.size d' ∧ SWK enc k w blk off d' w' := by
  have c1 := stable_any L enc cf hO g cb eg blk off cap d w hcmp R e37 hins d w rfl hsz (SWK.start R.hH)
  have mixed := L.mixed; have t0 := L.t0; have a0 := L.a0; have z0 := L.z0; have v0 := L.v0; have t3 := L.t3; have a3 := L.a3; have z3 := L.z3; have v3 := L.v3; have t41 := L.t41; have a41 := L.a41; have z41 := L.z41; have v41 := L.v41; have t48 := L.t48; have a48 := L.a48; have z48 := L.z48; have v48 := L.v48
  have e24 : ∀ args w, (callFunc 24 args).run P w = .ok (.enter 24 args) w := enters_of L.f24 (by kernel_rfl) rfl
  have HF := L.f11
  clear L hcmp hins
  go_enter HF, Try.ntmps11
  go_wp2_with (go_at_fn 24; refine c1.mono ?_; rintro e W1 ⟨rfl, h⟩)
  go_end0
  exact ⟨rfl, h⟩
end
end Go.Proofs.Ytodddcacngjadaa
