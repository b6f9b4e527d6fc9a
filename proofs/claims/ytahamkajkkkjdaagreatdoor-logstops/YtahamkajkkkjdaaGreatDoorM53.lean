import Derived.Test.YtahamkajkkkjdaaGreatDoorM03
import Derived.Test.YtahamkajkkkjdaaGreatDoorM11
import Derived.Test.YtahamkajkkkjdaaGreatDoorM01
import Derived.Lib.Hide
import Derived.WalkKit
import Derived.Deep.RegionLaw
import Derived.Deep.DeepCutAuto
import Derived.Deep.RegionHeld
import Derived.Deep.RegionHeld3
import Derived.Test.YtahamkajkkkjdaaGreatDoorM52
namespace Go.Proofs.YtahamkajkkkjdaaGreatDoor
open Go.RowKit
set_option linter.unusedVariables false
set_option linter.unusedSimpArgs false
abbrev chV : Value := .agg #[.int .i64 1, .string ⟨#[]⟩, .string ⟨#[98]⟩, .slice none 0 0, .slice none 0 0, .string ⟨#[]⟩, .string ⟨#[]⟩, .string ⟨#[]⟩, .int .i64 0, .int .i64 0, .string ⟨#[]⟩, .int .i64 0, .bool false, .bool false, .int .i64 0, .int .i64 0, .string ⟨#[]⟩, .string ⟨#[]⟩]
structure Ctr (w : World) (f : Nat) (k : Int) (X : Nat → World → Prop) (I J : Nat → Nat → World → Prop) (C D G : Nat → World → Prop) : Prop where
  fail : ∀ q W, X q W → Calls Tryz.prog 5 #[.pointer (some ⟨q, 0, none⟩), .int .i64 f] W fun e w' => e = .returned (.tuple #[]) ∧ I q 0 w'
  drop : ∀ q i W0 W g, I q i W0 → Below W0.heap.size W0 W → W.heap[g]? = some (.cells #[.int .i64 2, .int .i64 999, .string ⟨#[]⟩, .slice none 0 0, .string ⟨#[]⟩, .int .i64 0, .int .i64 0, .string ⟨#[]⟩, .string ⟨#[]⟩, .int .i64 0, .int .i64 0] 48 (0, 0)) → i ≤ 20 → Calls Tryz.prog 6 #[.pointer (some ⟨q, 0, none⟩), .slice (some ⟨g, 0, none⟩) 1 1] W fun e w' => e = .returned (errV (if i ≤ f then 5 else 6)) ∧ I q i w'
  add : ∀ q i W0 W g v, I q i W0 → Below W0.heap.size W0 W → v = (i : Int) + 1 → W.heap[g]? = some (.cells #[.int .i64 1, .int .i64 v, .string ⟨#[97]⟩, .slice none 0 0, .string ⟨#[]⟩, .int .i64 0, .int .i64 0, .string ⟨#[]⟩, .string ⟨#[]⟩, .int .i64 0, .int .i64 0] 48 (0, 0)) → i < 20 → Calls Tryz.prog 6 #[.pointer (some ⟨q, 0, none⟩), .slice (some ⟨g, 0, none⟩) 1 1] W fun e w' => e = .returned (errV (if i < f then 0 else 6)) ∧ I q (i + 1) w'
  ierr : ∀ q i W x y, I q i W → Calls Tryz.prog 7 #[errV x, .int .i64 y] W fun e w' => e = .returned (.bool (x == y)) ∧ I q i w'
  ij : ∀ q i W, I q i W → i ≤ 20 → J q i W
  sync : ∀ q i W, J q i W → Calls Tryz.prog 8 #[.pointer (some ⟨q, 0, none⟩)] W fun e w' => e = .returned (errV (if i < f then 0 else 6)) ∧ J q (i + 1) w'
  alt : ∀ q i W, J q i W → f < i → Calls Tryz.prog 9 #[.pointer (some ⟨q, 0, none⟩), chV] W fun e w' => e = .returned (errV 6) ∧ J q i w'
  jerr : ∀ q i W x y, J q i W → Calls Tryz.prog 7 #[errV x, .int .i64 y] W fun e w' => e = .returned (.bool (x == y)) ∧ J q i w'
  crash : ∀ q i W, J q i W → Calls Tryz.prog 10 #[.pointer (some ⟨q, 0, none⟩), .int .i64 k] W fun e w' => e = .returned (.tuple #[]) ∧ C q w'
  altc : ∀ q W, C q W → Calls Tryz.prog 9 #[.pointer (some ⟨q, 0, none⟩), chV] W fun e w' => e = .returned .nilIface ∧ D q w'
  sync2 : ∀ q W, D q W → Calls Tryz.prog 8 #[.pointer (some ⟨q, 0, none⟩)] W fun e w' => e = .returned .nilIface ∧ G q w'
  sch : ∀ q W, G q W → Calls Tryz.prog 11 #[.pointer (some ⟨q, 0, none⟩)] W fun e w' => (∃ a c a2 n2 c2, e = .returned (.agg #[.slice a 2 c, .slice a2 n2 c2])) ∧ Below w.heap.size w w'
abbrev NewC (w : World) (X : Nat → World → Prop) : Prop := ∀ W g, Below w.heap.size w W → W.heap[g]? = some (.cells #[.string ⟨#[97]⟩, .slice none 0 0, .slice none 0 0] 30 (0, 0)) → Calls Tryz.prog 4 #[.agg #[.slice (some ⟨g, 0, none⟩) 1 1, .slice none 0 0]] W fun e w' => ∃ q, e = .returned (.tuple #[.pointer (some ⟨q, 0, none⟩), .nilIface]) ∧ X q w'
set_option maxHeartbeats 8000000 in
set_option maxRecDepth 100000 in
theorem stops_out {f m k : Int} {w : World} {X : Nat → World → Prop} (hN : NewC w X) (hX : ∀ q W, X q W → Below w.heap.size w W) (h : f < 0 ∨ 20 < f ∨ m < 0 ∨ 20 < m) :
    Calls Tryz.prog 3 #[.int .i64 f, .int .i64 m, .int .i64 k] w fun e w' => e = .returned (.bool true) ∧ Below w.heap.size w w' := by
  have HX := Lib.hid hX
  have HN := Lib.hid hN
  clear hX hN
  have h' : f < 0 ∨ (¬ f < 0 ∧ 20 < f) ∨ (¬ f < 0 ∧ ¬ 20 < f ∧ m < 0) ∨ (¬ f < 0 ∧ ¬ 20 < f ∧ ¬ m < 0 ∧ 20 < m) := by omega
  clear h
  rcases h' with c0 | ⟨c0, c1⟩ | ⟨c0, c1, c2⟩ | ⟨c0, c1, c2, c3⟩
  all_goals
    go_enter Tryz.func3, Tryz.ntmps3
    go_wp2_with (first | (go_at_call 4; refine (HN.out _ _ (b_alloc (Below.refl _ _) _) (heap_alloc_new _ _)).mono ?_; rintro e W1 ⟨q, rfl, hX1⟩; have HB := Lib.hid (HX.out q W1 hX1); clear hX1) | fail)
    go_ret
    exact ⟨rfl, HB.out⟩
theorem field34_0 (w : World) (a b : Value) : (Instr.field 34 (.agg #[a, b]) 0).run Tryz.prog w = .ok a w := by kernel_rfl
theorem k0 : errV 0 = .nilIface := rfl
theorem k5 : errV 5 = .iface 76 (.int .i64 5) := rfl
theorem k6 : errV 6 = .iface 76 (.int .i64 6) := rfl
theorem b55 : ((5 : Int) == 5) = true := rfl
theorem b56 : ((5 : Int) == 6) = false := rfl
theorem b65 : ((6 : Int) == 5) = false := rfl
theorem b66 : ((6 : Int) == 6) = true := rfl
theorem b06 : ((0 : Int) == 6) = false := rfl
set_option maxHeartbeats 16000000 in
set_option maxRecDepth 100000 in
theorem stops_in {f m : Nat} {k : Int} {w : World} {X : Nat → World → Prop} {I J : Nat → Nat → World → Prop} {C D G : Nat → World → Prop} (hf : f ≤ 20) (hm : m ≤ 20) (hN : NewC w X) (c : Ctr w f k X I J C D G) :
    Calls Tryz.prog 3 #[.int .i64 f, .int .i64 m, .int .i64 k] w fun e w' => e = .returned (.bool true) ∧ Below w.heap.size w w' := by
  have c0 : ¬ (f : Int) < 0 := by omega
  have c1 : ¬ (20 : Int) < (f : Int) := by omega
  have c2 : ¬ (m : Int) < 0 := by omega
  have c3 : ¬ (20 : Int) < (m : Int) := by omega
  have HN := Lib.hid hN
  have HC := Lib.hid c
  have HF := Lib.hid (And.intro hf hm)
  clear hN c hf hm
  go_enter Tryz.func3, Tryz.ntmps3
  go_upto_region 5 with (first | (go_at_call 4; refine (HN.out _ _ (b_alloc (Below.refl _ _) _) (heap_alloc_new _ _)).mono ?_; rintro e W1 ⟨q, rfl, hX1⟩; have HX := Lib.hid hX1; clear hX1) | (go_at_call 5; refine (HC.out.fail q _ HX.out).mono ?_; rintro e W2 ⟨rfl, hI⟩; have HI := Lib.hid hI; clear hI) | fail)
  clear HX
  go_wp2
  go_loopw [9, 10] (fun a b wr => ∃ i : Nat, i ≤ m ∧ a = .int .i64 i ∧ b = .int .i64 i ∧ I q i wr) (fun _ b _ => m - (intOf b).toNat)
  case atStart => exact ⟨0, Nat.zero_le _, rfl, rfl, HI.out⟩
  case round =>
    obtain ⟨i, him, rfl, rfl, hI⟩ := hrel
    have hf := HF.out.1
    have hm := HF.out.2
    rcases Nat.lt_or_ge i m with hlt | hge
    · have HI0 := Lib.hid hI
      have hi1 : (i : Int) < (m : Int) := by omega
      have cD0 := fun W g h1 h2 => HC.out.drop q i wr W g hI h1 h2 (by omega)
      have cA0 := fun W0 W g v (h : I q i W0) h1 h2 h3 => HC.out.add q i W0 W g v h h1 h2 h3 (by omega)
      have cE0 := fun x y W (h : I q (i + 1) W) => HC.out.ierr q (i + 1) W x y h
      have h3 : i < f ∨ i = f ∨ f < i := by omega
      rcases h3 with h3 | h3 | h3
      · have g1 : (i : Int) < (f : Int) := by omega
        have g2 : ¬ (f : Int) < (i : Int) := by omega
        have g3 : (i : Int) ≤ (f : Int) := by omega
        have g4 : ¬ (i : Int) = (f : Int) := by omega
        simp only [if_pos (show i ≤ f by omega)] at cD0
        simp only [if_pos h3] at cA0
        have e1 := cE0 5 6
        have e2 := cE0 5 5
        have e3 := cE0 0 6
        simp only [k0, k5, k6, b55, b56, b65, b66, b06] at cD0 cA0 e1 e2 e3
        clear cE0 hI
        go_upto_region 10 with (first | (go_at_call 6; refine (cD0 _ _ (b_alloc (Below.refl _ _) _) (heap_alloc_new _ _)).mono ?_; rintro e V1 ⟨rfl, hI1⟩; have HI1 := Lib.hid hI1; clear hI1) | fail)
        go_upto_region 11 with (first | (go_at_call 6; refine (cA0 _ _ _ _ HI1.out (b_alloc (Below.refl _ _) _) (by omega) (heap_alloc_new _ _)).mono ?_; rintro e V2 ⟨rfl, hI2⟩; have HI2 := Lib.hid hI2; clear hI2) | fail)
        go_upto_region 12 with (first | (go_at_call 7; refine (e1 _ HI2.out).mono ?_; rintro e V3 ⟨rfl, hI3⟩; have HI3 := Lib.hid hI3; clear hI3) | fail)
        go_upto_region 13 with (first | (go_at_call 7; refine (e2 _ HI3.out).mono ?_; rintro e V4 ⟨rfl, hI4⟩; have HI4 := Lib.hid hI4; clear hI4) | fail)
        go_upto_region 14 with (first | (go_at_call 7; refine (e3 _ HI4.out).mono ?_; rintro e V5 ⟨rfl, hI5⟩; have HI5 := Lib.hid hI5; clear hI5) | fail)
        go_wp2
        exact ⟨⟨i + 1, by omega, by go_num, by go_num, HI5.out⟩, by simp [intOf]; omega⟩
      · have g1 : ¬ (i : Int) < (f : Int) := by omega
        have g2 : ¬ (f : Int) < (i : Int) := by omega
        have g3 : (i : Int) ≤ (f : Int) := by omega
        have g4 : (i : Int) = (f : Int) := by omega
        simp only [if_pos (show i ≤ f by omega)] at cD0
        simp only [if_neg (show ¬ i < f by omega)] at cA0
        have e1 := cE0 5 6
        have e2 := cE0 5 5
        have e3 := cE0 6 6
        simp only [k0, k5, k6, b55, b56, b65, b66, b06] at cD0 cA0 e1 e2 e3
        clear cE0 hI
        go_upto_region 10 with (first | (go_at_call 6; refine (cD0 _ _ (b_alloc (Below.refl _ _) _) (heap_alloc_new _ _)).mono ?_; rintro e V1 ⟨rfl, hI1⟩; have HI1 := Lib.hid hI1; clear hI1) | fail)
        go_upto_region 11 with (first | (go_at_call 6; refine (cA0 _ _ _ _ HI1.out (b_alloc (Below.refl _ _) _) (by omega) (heap_alloc_new _ _)).mono ?_; rintro e V2 ⟨rfl, hI2⟩; have HI2 := Lib.hid hI2; clear hI2) | fail)
        go_upto_region 12 with (first | (go_at_call 7; refine (e1 _ HI2.out).mono ?_; rintro e V3 ⟨rfl, hI3⟩; have HI3 := Lib.hid hI3; clear hI3) | fail)
        go_upto_region 13 with (first | (go_at_call 7; refine (e2 _ HI3.out).mono ?_; rintro e V4 ⟨rfl, hI4⟩; have HI4 := Lib.hid hI4; clear hI4) | fail)
        go_upto_region 14 with (first | (go_at_call 7; refine (e3 _ HI4.out).mono ?_; rintro e V5 ⟨rfl, hI5⟩; have HI5 := Lib.hid hI5; clear hI5) | fail)
        go_wp2
        exact ⟨⟨i + 1, by omega, by go_num, by go_num, HI5.out⟩, by simp [intOf]; omega⟩
      · have g1 : ¬ (i : Int) < (f : Int) := by omega
        have g2 : (f : Int) < (i : Int) := by omega
        have g3 : ¬ (i : Int) ≤ (f : Int) := by omega
        have g4 : ¬ (i : Int) = (f : Int) := by omega
        simp only [if_neg (show ¬ i ≤ f by omega)] at cD0
        simp only [if_neg (show ¬ i < f by omega)] at cA0
        have e1 := cE0 6 6
        have e2 := cE0 6 5
        have e3 := cE0 6 6
        simp only [k0, k5, k6, b55, b56, b65, b66, b06] at cD0 cA0 e1 e2 e3
        clear cE0 hI
        go_upto_region 10 with (first | (go_at_call 6; refine (cD0 _ _ (b_alloc (Below.refl _ _) _) (heap_alloc_new _ _)).mono ?_; rintro e V1 ⟨rfl, hI1⟩; have HI1 := Lib.hid hI1; clear hI1) | fail)
        go_upto_region 11 with (first | (go_at_call 6; refine (cA0 _ _ _ _ HI1.out (b_alloc (Below.refl _ _) _) (by omega) (heap_alloc_new _ _)).mono ?_; rintro e V2 ⟨rfl, hI2⟩; have HI2 := Lib.hid hI2; clear hI2) | fail)
        go_upto_region 12 with (first | (go_at_call 7; refine (e1 _ HI2.out).mono ?_; rintro e V3 ⟨rfl, hI3⟩; have HI3 := Lib.hid hI3; clear hI3) | fail)
        go_upto_region 13 with (first | (go_at_call 7; refine (e2 _ HI3.out).mono ?_; rintro e V4 ⟨rfl, hI4⟩; have HI4 := Lib.hid hI4; clear hI4) | fail)
        go_upto_region 14 with (first | (go_at_call 7; refine (e3 _ HI4.out).mono ?_; rintro e V5 ⟨rfl, hI5⟩; have HI5 := Lib.hid hI5; clear hI5) | fail)
        go_wp2
        exact ⟨⟨i + 1, by omega, by go_num, by go_num, HI5.out⟩, by simp [intOf]; omega⟩
    · have him2 : i = m := by omega
      subst him2
      have hi1 : ¬ (i : Int) < (i : Int) := by omega
      have HJ := Lib.hid (HC.out.ij q i wr hI hm)
      clear hI
      go_wp2
      go_loopw [9] (fun a wr => ∃ n : Nat, n ≤ 21 ∧ a = .int .i64 n ∧ J q n wr) (fun a _ => 22 - (intOf a).toNat)
      case atStart => exact ⟨i, by omega, rfl, HJ.out⟩
      case round =>
        obtain ⟨n, hn, rfl, hJ⟩ := hrel
        have HJ1 := Lib.hid hJ
        have cS := HC.out.sync q n _ hJ
        rcases Nat.lt_or_ge f n with h4 | h4
        · have g1 : ¬ (n : Int) ≤ (f : Int) := by omega
          simp only [if_neg (show ¬ n < f by omega), k6] at cS
          have a1 := fun W h => HC.out.alt q (n + 1) W h (by omega)
          have e1 := fun W h => HC.out.jerr q (n + 1) W 6 6 h
          simp only [k6, b66] at a1 e1
          clear hJ
          go_upto_region 23 with (first | (go_at_call 8; refine cS.mono ?_; rintro e V1 ⟨rfl, hJ1⟩; have HJ2 := Lib.hid hJ1; clear hJ1) | fail)
          go_upto_region 24 with (first | (go_at_call 9; refine (a1 _ HJ2.out).mono ?_; rintro e V2 ⟨rfl, hJ1⟩; have HJ3 := Lib.hid hJ1; clear hJ1) | fail)
          go_upto_region 25 with (first | (go_at_call 7; refine (e1 _ HJ3.out).mono ?_; rintro e V3 ⟨rfl, hJ1⟩; have HJ4 := Lib.hid hJ1; clear hJ1) | fail)
          go_upto_region 26 with (first | (go_at_call 7; refine (e1 _ HJ4.out).mono ?_; rintro e V4 ⟨rfl, hJ1⟩; have HJ5 := Lib.hid hJ1; clear hJ1) | fail)
          go_upto_region 27 with (first | (go_at_call 10; refine (HC.out.crash q _ _ HJ5.out).mono ?_; rintro e V5 ⟨rfl, hJ1⟩; have HJ6 := Lib.hid hJ1; clear hJ1) | fail)
          go_upto_region 28 with (first | (go_at_call 9; refine (HC.out.altc q _ HJ6.out).mono ?_; rintro e V6 ⟨rfl, hJ1⟩; have HJ7 := Lib.hid hJ1; clear hJ1) | fail)
          have hfl := field34_0
          go_upto_region 29 with (first | (go_at_call 8; refine (HC.out.sync2 q _ HJ7.out).mono ?_; rintro e V7 ⟨rfl, hJ1⟩; have HJ8 := Lib.hid hJ1; clear hJ1) | fail)
          go_wp2_with (first | (go_at_call 11; refine (HC.out.sch q _ HJ8.out).mono ?_; rintro e V8 ⟨⟨a9, c9, a8, n8, c8, rfl⟩, hB9⟩; have HB9 := Lib.hid hB9; clear hB9) | fail)
          go_ret
          exact ⟨rfl, HB9.out⟩
        · have g1 : (n : Int) ≤ (f : Int) := by omega
          rcases Nat.lt_or_ge n f with h5 | h5
          · have g2 : ¬ (n : Int) = (f : Int) := by omega
            simp only [if_pos h5, k0] at cS
            clear hJ
            go_upto_region 19 with (first | (go_at_call 8; refine cS.mono ?_; rintro e V1 ⟨rfl, hJ1⟩; have HJ2 := Lib.hid hJ1; clear hJ1) | fail)
            go_wp2
            exact ⟨⟨n + 1, by omega, by go_num, HJ2.out⟩, by simp [intOf]; omega⟩
          · have g2 : (n : Int) = (f : Int) := by omega
            simp only [if_neg (show ¬ n < f by omega), k6] at cS
            clear hJ
            go_upto_region 19 with (first | (go_at_call 8; refine cS.mono ?_; rintro e V1 ⟨rfl, hJ1⟩; have HJ2 := Lib.hid hJ1; clear hJ1) | fail)
            go_wp2
            exact ⟨⟨n + 1, by omega, by go_num, HJ2.out⟩, by simp [intOf]; omega⟩
theorem logstops_any (f m k : Int) {w : World} (hE : Env w) (hH : Hnd w) : Calls Tryz.prog 3 #[.int .i64 f, .int .i64 m, .int .i64 k] w fun e w' => e = .returned (.bool true) ∧ Below w.heap.size w w' := by
  have hN : NewC w fun q W => LgAt W w.heap.size q (newS LA []) ∧ FrL w.heap.size w W := fun W g hB hg => st_new hB hg
  by_cases h : f < 0 ∨ 20 < f ∨ m < 0 ∨ 20 < m
  · exact stops_out hN (fun q W h => h.2.1) h
  obtain ⟨f, rfl⟩ : ∃ n : Nat, f = n := ⟨f.toNat, by omega⟩
  obtain ⟨m, rfl⟩ : ∃ n : Nat, m = n := ⟨m.toNat, by omega⟩
  have hf : f ≤ 20 := by omega
  refine stops_in (I := fun q i W => StI w q f i W) (J := fun q i W => StJ w q f i W) (C := fun q W => StC w q f W) (D := fun q W => StD w q W) (G := fun q W => ∃ s, LgAt W w.heap.size q s ∧ FrL w.heap.size w W ∧ Sm s.L s.B ∧ s.L.length = 2) hf (by omega) hN ?_
  exact {
    fail := fun q W h => st_fail h.1 h.2 f (Below.refl _ _)
    drop := fun q i W0 W g h hB hg hi => st_drop h hf hi hE hB hg
    add := fun q i W0 W g v h hB hv hg hi => st_add h hf hi hE hB hv hg
    ierr := fun q i W x y h => (error_eq x y W (h.hnd hE hH)).mono fun e w' h' => ⟨h'.1, h.b h'.2⟩
    ij := fun q i W h hi => h.j hi
    sync := fun q i W h => st_sync h hf (Below.refl _ _)
    alt := fun q i W h hi => st_alt h hf hi hE (Below.refl _ _)
    jerr := fun q i W x y h => (error_eq x y W (h.hnd hE hH)).mono fun e w' h' => ⟨h'.1, h.b h'.2⟩
    crash := fun q i W h => st_crash h hf hE k (Below.refl _ _)
    altc := fun q W h => st_altc h hf hE (Below.refl _ _)
    sync2 := fun q W h => st_sync2 h (Below.refl _ _)
    sch := fun q W ⟨s, h1, h2, h3, h4⟩ => (schema_at h1 h3).mono fun e w' ⟨⟨a, c, a2, n2, c2, he⟩, hB⟩ => ⟨⟨a, c, a2, n2, c2, by rw [he, h4]⟩, h2.1.trans (hB.mono h2.1.size)⟩ }
end Go.Proofs.YtahamkajkkkjdaaGreatDoor
