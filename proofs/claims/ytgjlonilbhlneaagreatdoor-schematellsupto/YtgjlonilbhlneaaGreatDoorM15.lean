/-
  The walk of schema.parseBond.
-/
import Derived.Test.YtgjlonilbhlneaaGreatDoorM14
import Derived.Lib.Hide
namespace Go.Proofs.YtgjlonilbhlneaaGreatDoor
open Go.RowKit
set_option linter.unusedVariables false
set_option linter.unusedSimpArgs false

def bdZ : Bd := ⟨[], [], [], 0, 0⟩
def wBond : Nm := [98, 111, 110, 100]
def wAny : Nm := [97, 110, 121]
def bdOf : List Nm → Bd × Bool
  | [k, a, b, c, x, y] => if (k == wBond && areN [a, b, c]) = true then (⟨a, b, c, (numP x).1, if (y == wAny) = true then -1 else (numP y).1⟩, (numP x).2 && (if (y == wAny) = true then true else (numP y).2)) else (bdZ, false)
  | _ => (bdZ, false)
abbrev resB (w : World) : World := w.alloc (.cells #[.string ⟨#[]⟩, .string ⟨#[]⟩, .string ⟨#[]⟩, .int .i64 0, .int .i64 0] 40)
theorem b_res5 {w W : World} (h : Below w.heap.size w W) (a b c d e : Value) : Below w.heap.size w (((((W.setCell ⟨w.heap.size, 0, none⟩ a).setCell ⟨w.heap.size, 1, none⟩ b).setCell ⟨w.heap.size, 2, none⟩ c).setCell ⟨w.heap.size, 3, none⟩ d).setCell ⟨w.heap.size, 4, none⟩ e) :=
  ((((h.setCell (Nat.le_refl _) _).setCell (Nat.le_refl _) _).setCell (Nat.le_refl _) _).setCell (Nat.le_refl _) _).setCell (Nat.le_refl _) _
def SixAt (bl off h : Nat) (x0 x1 x2 x3 x4 x5 : Nm) (W : World) : Prop :=
  (bl < W.heap.size ∧ h < W.heap.size) ∧
  (W.cell? ⟨bl, off, none⟩ = some (.string (bs x0)) ∧ W.cell? ⟨bl, off + 1, none⟩ = some (.string (bs x1)) ∧ W.cell? ⟨bl, off + 2, none⟩ = some (.string (bs x2)) ∧ W.cell? ⟨bl, off + 3, none⟩ = some (.string (bs x3)) ∧ W.cell? ⟨bl, off + 4, none⟩ = some (.string (bs x4)) ∧ W.cell? ⟨bl, off + 5, none⟩ = some (.string (bs x5))) ∧
  (W.cell? ⟨h, 0, none⟩ = some (.string ⟨#[]⟩) ∧ W.cell? ⟨h, 1, none⟩ = some (.string ⟨#[]⟩) ∧ W.cell? ⟨h, 2, none⟩ = some (.string ⟨#[]⟩) ∧ W.cell? ⟨h, 3, none⟩ = some (.int .i64 0) ∧ W.cell? ⟨h, 4, none⟩ = some (.int .i64 0)) ∧ (∀ k, W.frozen? ⟨h, k, none⟩ = false)
theorem SixAt.on {bl off h : Nat} {x0 x1 x2 x3 x4 x5 : Nm} {W W' : World} (H : SixAt bl off h x0 x1 x2 x3 x4 x5 W) (hB : Below W.heap.size W W') : SixAt bl off h x0 x1 x2 x3 x4 x5 W' := by
  obtain ⟨⟨h1, h2⟩, H2⟩ := H
  have hc : ∀ b k, b < W.heap.size → W'.cell? ⟨b, k, none⟩ = W.cell? ⟨b, k, none⟩ := fun b k hb => hB.cell (p := ⟨b, k, none⟩) hb
  have hf : ∀ b k, b < W.heap.size → W'.frozen? ⟨b, k, none⟩ = W.frozen? ⟨b, k, none⟩ := fun b k hb => hB.frozen (p := ⟨b, k, none⟩) hb
  refine ⟨⟨Nat.lt_of_lt_of_le h1 hB.size, Nat.lt_of_lt_of_le h2 hB.size⟩, ?_⟩
  simp only [hc _ _ h1, hc _ _ h2, hf _ _ h2]
  exact H2

set_option maxHeartbeats 4000000 in
set_option maxRecDepth 100000 in
theorem parseBond_no1 (ao : Option Addr) (n c : Nat) (hn : ¬ (n : Int) = 6) (w : World) :
    Calls Tryz.prog 57 #[.slice ao n c] w fun e w' => e = .returned (.tuple #[bdZ.one, .bool false]) ∧ Below w.heap.size w w' := by
  have h1 : ((n : Int) == 6) = false := by simpa using hn
  have h2 : ((n : Int) != 6) = true := by simp [bne, h1]
  go_enter Tryz.func57, Tryz.ntmps57
  go_wp2
  (try simp only [Exit.inBlock, Exit.then])
  refine bodyPost_ret (v := .tuple #[bdZ.one, .bool false]) ?_ rfl ⟨rfl, b_alloc (Below.refl _ _) (Nat.le_refl _) _⟩
  rw [results_cell_tmp rfl]
  simp only [bdZ]
  go_simp
  rfl

set_option maxHeartbeats 8000000 in
set_option maxRecDepth 100000 in
theorem parseBond_six (bl off cap : Nat) (x0 x1 x2 x3 x4 x5 : Nm) (kb okN ha o4 o5 : Bool) (n4 n5 : Int) (hk : (x0 == [98, 111, 110, 100]) = kb) (hany : (x5 == [97, 110, 121]) = ha) (w : World) (hbl : bl < w.heap.size)
    (hc1 : 6 ≤ cap) (hc2 : cap ≤ maxLen) (hS : SixAt bl off w.heap.size x0 x1 x2 x3 x4 x5 (resB w))
    (cA : ∀ q, 3 ≤ q → q ≤ maxLen → Calls Tryz.prog 86 #[.slice (some ⟨bl, off + 1, none⟩) 3 q] (resB w) fun e w' => e = .returned (.bool okN) ∧ Below (resB w).heap.size (resB w) w')
    (c4 : ∀ W, Below (resB w).heap.size (resB w) W → Calls Tryz.prog 87 #[.string (bs x4), .int .i64 99] W fun e w' => e = .returned (.tuple #[.int .i64 n4, .bool o4]) ∧ Below W.heap.size W w')
    (c5 : ∀ W, Below (resB w).heap.size (resB w) W → Calls Tryz.prog 87 #[.string (bs x5), .int .i64 99] W fun e w' => e = .returned (.tuple #[.int .i64 n5, .bool o5]) ∧ Below W.heap.size W w') :
    Calls Tryz.prog 57 #[.slice (some ⟨bl, off, none⟩) 6 cap] w fun e w' => e = .returned (.tuple #[(if (kb && okN) = true then (⟨x1, x2, x3, n4, if ha = true then -1 else n5⟩ : Bd) else bdZ).one, .bool (if (kb && okN) = true then o4 && (if ha = true then true else o5) else false)]) ∧ Below w.heap.size w w' := by
  have hB0 : Below w.heap.size w (resB w) := b_alloc (Below.refl _ _) (Nat.le_refl _) _
  have hi1 : (4 : Int) ≤ (cap : Int) := by omega
  have hi2 : (6 : Int) ≤ (cap : Int) := by omega
  unfold maxLen at hc2 cA
  have HS : Hid (SixAt bl off w.heap.size x0 x1 x2 x3 x4 x5 (resB w)) := hS
  have HB0 : Hid (Below w.heap.size w (resB w)) := hB0
  have hne1 : ¬ bl = w.heap.size := Nat.ne_of_lt hbl
  have hne2 : ¬ w.heap.size = bl := fun h => hne1 h.symm
  have e0 : (w.alloc (.cells #[.string ⟨#[]⟩, .string ⟨#[]⟩, .string ⟨#[]⟩, .int .i64 0, .int .i64 0] 40)).cell? ⟨bl, off, none⟩ = some (.string (bs x0)) := hS.2.1.1
  clear hS hB0 hbl
  cases kb
  · go_enter Tryz.func57, Tryz.ntmps57
    go_wp2
    (try simp only [Exit.inBlock, Exit.then])
    refine bodyPost_ret (v := .tuple #[bdZ.one, .bool false]) ?_ rfl ⟨rfl, b_alloc (Below.refl _ _) (Nat.le_refl _) _⟩
    rw [results_cell_tmp rfl]
    simp only [bdZ]
    go_simp
    rfl
  · cases okN
    · go_enter Tryz.func57, Tryz.ntmps57
      go_wp2_with (go_at_call 86; refine (cA _ (by omega) (by omega)).mono ?_; rintro e W1 ⟨rfl, hB1⟩; obtain ⟨_, _, ⟨r0, r1, r2, r3, r4⟩, zz⟩ := HS.out.on hB1)
      (try simp only [Exit.inBlock, Exit.then])
      refine bodyPost_ret (v := .tuple #[bdZ.one, .bool false]) ?_ rfl ⟨rfl, b_res5 (on1 HB0.out hB1 (Nat.le_refl _)) _ _ _ _ _⟩
      rw [results_cell_tmp rfl]
      simp only [bdZ]
      go_simp
      rfl
    · cases ha
      · cases o4
        · go_enter Tryz.func57, Tryz.ntmps57
          go_wp2_with (first | (go_at_call 86; refine (cA _ (by omega) (by omega)).mono ?_; rintro e W1 ⟨rfl, hB1⟩; obtain ⟨_, ⟨p0, p1, p2, p3, p4, p5⟩, ⟨r0, r1, r2, r3, r4⟩, zz⟩ := HS.out.on hB1) | (go_at_call_of 87 (bs x4); refine (c4 W1 hB1).mono ?_; rintro e W2 ⟨rfl, hB2⟩; obtain ⟨_, ⟨q0, q1, q2, q3, q4, q5⟩, ⟨s0, s1, s2, s3, s4⟩, zz2⟩ := (HS.out.on hB1).on hB2) | (go_at_call_of 87 (bs x5); refine (c5 W2 (on1 hB1 hB2 (Nat.le_refl _))).mono ?_; rintro e W3 ⟨rfl, hB3⟩; obtain ⟨_, ⟨u0, u1, u2, u3, u4, u5⟩, ⟨v0, v1, v2, v3, v4⟩, zz3⟩ := ((HS.out.on hB1).on hB2).on hB3))
          first | (go_region_held (fun w' => w'.cell? ⟨bl, off + 1, none⟩ = some (.string (bs x1)) ∧ w'.cell? ⟨bl, off + 2, none⟩ = some (.string (bs x2)) ∧ w'.cell? ⟨bl, off + 3, none⟩ = some (.string (bs x3))) (go_keep) (fail)) | fail
          all_goals
            go_wp2
            (try simp only [Exit.inBlock, Exit.then])
            refine bodyPost_ret (v := .tuple #[.agg #[.string (bs x1), .string (bs x2), .string (bs x3), .int .i64 n4, .int .i64 (n5)], .bool false]) ?_ rfl ⟨rfl, b_res5 (b_drewN (on1 (on1 (on1 HB0.out hB1 (Nat.le_refl _)) hB2 (Nat.le_refl _)) hB3 (Nat.le_refl _)) 1) _ _ _ _ _⟩
            rw [results_cell_tmp rfl]
            go_simp
        · go_enter Tryz.func57, Tryz.ntmps57
          go_wp2_with (first | (go_at_call 86; refine (cA _ (by omega) (by omega)).mono ?_; rintro e W1 ⟨rfl, hB1⟩; obtain ⟨_, ⟨p0, p1, p2, p3, p4, p5⟩, ⟨r0, r1, r2, r3, r4⟩, zz⟩ := HS.out.on hB1) | (go_at_call_of 87 (bs x4); refine (c4 W1 hB1).mono ?_; rintro e W2 ⟨rfl, hB2⟩; obtain ⟨_, ⟨q0, q1, q2, q3, q4, q5⟩, ⟨s0, s1, s2, s3, s4⟩, zz2⟩ := (HS.out.on hB1).on hB2) | (go_at_call_of 87 (bs x5); refine (c5 W2 (on1 hB1 hB2 (Nat.le_refl _))).mono ?_; rintro e W3 ⟨rfl, hB3⟩; obtain ⟨_, ⟨u0, u1, u2, u3, u4, u5⟩, ⟨v0, v1, v2, v3, v4⟩, zz3⟩ := ((HS.out.on hB1).on hB2).on hB3))
          first | (go_region_held3 (fun w' => w'.cell? ⟨bl, off + 1, none⟩ = some (.string (bs x1)) ∧ w'.cell? ⟨bl, off + 2, none⟩ = some (.string (bs x2)) ∧ w'.cell? ⟨bl, off + 3, none⟩ = some (.string (bs x3))) (go_keep) (fail)) | fail
          all_goals
            go_wp2
            (try simp only [Exit.inBlock, Exit.then])
            refine bodyPost_ret (v := .tuple #[.agg #[.string (bs x1), .string (bs x2), .string (bs x3), .int .i64 n4, .int .i64 (n5)], .bool o5]) ?_ rfl ⟨rfl, b_res5 (b_drewN (on1 (on1 (on1 HB0.out hB1 (Nat.le_refl _)) hB2 (Nat.le_refl _)) hB3 (Nat.le_refl _)) 1) _ _ _ _ _⟩
            rw [results_cell_tmp rfl]
            go_simp
      · cases o4
        · go_enter Tryz.func57, Tryz.ntmps57
          go_wp2_with (first | (go_at_call 86; refine (cA _ (by omega) (by omega)).mono ?_; rintro e W1 ⟨rfl, hB1⟩; obtain ⟨_, ⟨p0, p1, p2, p3, p4, p5⟩, ⟨r0, r1, r2, r3, r4⟩, zz⟩ := HS.out.on hB1) | (go_at_call_of 87 (bs x4); refine (c4 W1 hB1).mono ?_; rintro e W2 ⟨rfl, hB2⟩; obtain ⟨_, ⟨q0, q1, q2, q3, q4, q5⟩, ⟨s0, s1, s2, s3, s4⟩, zz2⟩ := (HS.out.on hB1).on hB2) | (go_at_call_of 87 (bs x5); refine (c5 W2 (on1 hB1 hB2 (Nat.le_refl _))).mono ?_; rintro e W3 ⟨rfl, hB3⟩; obtain ⟨_, ⟨u0, u1, u2, u3, u4, u5⟩, ⟨v0, v1, v2, v3, v4⟩, zz3⟩ := ((HS.out.on hB1).on hB2).on hB3))
          first | (go_region_held (fun w' => w'.cell? ⟨bl, off + 1, none⟩ = some (.string (bs x1)) ∧ w'.cell? ⟨bl, off + 2, none⟩ = some (.string (bs x2)) ∧ w'.cell? ⟨bl, off + 3, none⟩ = some (.string (bs x3))) (go_keep) (fail)) | fail
          all_goals
            go_wp2
            (try simp only [Exit.inBlock, Exit.then])
            refine bodyPost_ret (v := .tuple #[.agg #[.string (bs x1), .string (bs x2), .string (bs x3), .int .i64 n4, .int .i64 (-1)], .bool false]) ?_ rfl ⟨rfl, b_res5 (b_drewN (on1 (on1 (on1 HB0.out hB1 (Nat.le_refl _)) hB2 (Nat.le_refl _)) hB3 (Nat.le_refl _)) 1) _ _ _ _ _⟩
            rw [results_cell_tmp rfl]
            go_simp
        · go_enter Tryz.func57, Tryz.ntmps57
          go_wp2_with (first | (go_at_call 86; refine (cA _ (by omega) (by omega)).mono ?_; rintro e W1 ⟨rfl, hB1⟩; obtain ⟨_, ⟨p0, p1, p2, p3, p4, p5⟩, ⟨r0, r1, r2, r3, r4⟩, zz⟩ := HS.out.on hB1) | (go_at_call_of 87 (bs x4); refine (c4 W1 hB1).mono ?_; rintro e W2 ⟨rfl, hB2⟩; obtain ⟨_, ⟨q0, q1, q2, q3, q4, q5⟩, ⟨s0, s1, s2, s3, s4⟩, zz2⟩ := (HS.out.on hB1).on hB2) | (go_at_call_of 87 (bs x5); refine (c5 W2 (on1 hB1 hB2 (Nat.le_refl _))).mono ?_; rintro e W3 ⟨rfl, hB3⟩; obtain ⟨_, ⟨u0, u1, u2, u3, u4, u5⟩, ⟨v0, v1, v2, v3, v4⟩, zz3⟩ := ((HS.out.on hB1).on hB2).on hB3))
          first | (go_region_held3 (fun w' => w'.cell? ⟨bl, off + 1, none⟩ = some (.string (bs x1)) ∧ w'.cell? ⟨bl, off + 2, none⟩ = some (.string (bs x2)) ∧ w'.cell? ⟨bl, off + 3, none⟩ = some (.string (bs x3))) (go_keep) (fail)) | fail
          all_goals
            go_wp2
            (try simp only [Exit.inBlock, Exit.then])
            refine bodyPost_ret (v := .tuple #[.agg #[.string (bs x1), .string (bs x2), .string (bs x3), .int .i64 n4, .int .i64 (-1)], .bool true]) ?_ rfl ⟨rfl, b_res5 (b_drewN (on1 (on1 (on1 HB0.out hB1 (Nat.le_refl _)) hB2 (Nat.le_refl _)) hB3 (Nat.le_refl _)) 1) _ _ _ _ _⟩
            rw [results_cell_tmp rfl]
            go_simp
end Go.Proofs.YtgjlonilbhlneaaGreatDoor

/-
  schema.parseBond of any words.
-/
namespace Go.Proofs.YtgjlonilbhlneaaGreatDoor
open Go.RowKit
set_option linter.unusedVariables false
set_option linter.unusedSimpArgs false

theorem bdOf_no {L : List Nm} (h : L.length ≠ 6) : bdOf L = (bdZ, false) := by
  unfold bdOf
  split
  · simp at h
  · rfl
theorem six_at {bl off : Nat} {x0 x1 x2 x3 x4 x5 : Nm} {w : World} (hb : bl < w.heap.size) (h : LiesS w bl off [x0, x1, x2, x3, x4, x5]) : SixAt bl off w.heap.size x0 x1 x2 x3 x4 x5 (resB w) := by
  have hc : ∀ k x, [x0, x1, x2, x3, x4, x5][k]? = some x → (resB w).cell? ⟨bl, off + k, none⟩ = some (.string (bs x)) := fun k x hx =>
    (World.cell?_alloc_lt _ _ ⟨bl, off + k, none⟩ hb).trans (h k x hx)
  refine ⟨⟨?_, ?_⟩, ⟨hc 0 _ rfl, hc 1 _ rfl, hc 2 _ rfl, hc 3 _ rfl, hc 4 _ rfl, hc 5 _ rfl⟩, ⟨?_, ?_, ?_, ?_, ?_⟩, fun k => ?_⟩
  · simp; omega
  all_goals simp
theorem parseBond_any {v : Value} {L : List Nm} {w : World} (h : IsS w v L) (hE : EV w) (hL : ∀ x ∈ L, x.length < 4294967281) :
    Calls Tryz.prog 57 #[v] w fun e w' => e = .returned (.tuple #[(bdOf L).1.one, .bool (bdOf L).2]) ∧ Below w.heap.size w w' := by
  rcases h with ⟨ao, c, rfl, rfl, _⟩ | ⟨bl, off, cap, rfl, hcap, hm, hb, hl⟩
  · exact parseBond_no1 ao 0 c (by decide) w
  · by_cases h6 : L.length = 6
    · match L, h6, hcap, hl, hL with
      | [x0, x1, x2, x3, x4, x5], _, hcap, hl, hL =>
        have hS := six_at hb hl
        have hR : EV (resB w) := hE.on (b_alloc (Below.refl _ _) (Nat.le_refl _) _)
        have cA : ∀ q, 3 ≤ q → q ≤ maxLen → Calls Tryz.prog 86 #[.slice (some ⟨bl, off + 1, none⟩) 3 q] (resB w) fun e w' => e = .returned (.bool (areN [x1, x2, x3])) ∧ Below (resB w).heap.size (resB w) w' := fun q h3 hq => by
          refine areNames_any (L := [x1, x2, x3]) (.inr ⟨bl, off + 1, q, rfl, h3, hq, hS.1.1, ?_⟩) (by simp) (fun x hx => hL x (by simp at hx ⊢; rcases hx with h | h | h <;> simp [h]))
          intro k n hn
          match k, hn with
          | 0, hn => obtain rfl := Option.some.inj hn; exact hS.2.1.2.1
          | 1, hn => obtain rfl := Option.some.inj hn; exact hS.2.1.2.2.1
          | 2, hn => obtain rfl := Option.some.inj hn; exact hS.2.1.2.2.2.1
          | k + 3, hn => simp at hn
        have cN : ∀ x, x.length < 4294967281 → ∀ W, Below (resB w).heap.size (resB w) W → Calls Tryz.prog 87 #[.string (bs x), .int .i64 99] W fun e w' => e = .returned (.tuple #[.int .i64 (numP x).1, .bool (numP x).2]) ∧ Below W.heap.size W w' := fun x hx W hB =>
          parseNumber_any x W (by omega) (hR.on hB)
        have c := parseBond_six bl off cap x0 x1 x2 x3 x4 x5 (x0 == wBond) (areN [x1, x2, x3]) (x5 == wAny) _ _ _ _ rfl rfl w hb hcap hm hS cA (cN x4 (hL x4 (by simp))) (cN x5 (hL x5 (by simp)))
        refine c.mono ?_
        rintro e w' ⟨rfl, hB⟩
        refine ⟨ret_v ?_, hB⟩
        unfold bdOf
        by_cases hq : (x0 == wBond && areN [x1, x2, x3]) = true
        · simp only [hq, if_true]
        · simp only [hq]; rfl
    · rw [bdOf_no h6]
      exact parseBond_no1 _ L.length cap (by omega) w
end Go.Proofs.YtgjlonilbhlneaaGreatDoor

/-
  schema.parseField of any word.
-/
namespace Go.Proofs.YtgjlonilbhlneaaGreatDoor
open Go.RowKit
set_option linter.unusedVariables false
set_option linter.unusedSimpArgs false
theorem cutSuffix_at (l p : Nm) (w : World) (hl : l.length < 4294967281) :
    Calls Tryz.prog 55 #[.string (bs l), .string (bs p)] w fun e w' => e = .returned (.tuple #[.string (bs (Lib.trimSuffix l p)), .bool (Lib.hasSuffix l p)]) ∧ w' = w := by
  have c := Tryz.strings_CutSuffix (bs l) (bs p) w (by rw [bs_size]; omega)
  rw [show (bs l).data.toList = l from bs_data l, show (bs p).data.toList = p from bs_data p] at c
  exact c
theorem cut_at (l p : Nm) (w : World) (hl : l.length < 4294967281) (hE : EV w) :
    Calls Tryz.prog 110 #[.string (bs l), .string (bs p)] w fun e w' => e = .returned (.tuple #[.string (bs (Lib.cut l p).1), .string (bs (Lib.cut l p).2.1), .bool (Lib.cut l p).2.2]) ∧ ∃ n, w' = w.drewN n := by
  obtain ⟨m, hm⟩ := hE.mx
  have c := Tryz.strings_Cut (bs l) (bs p) m w (by rw [bs_size]; omega) hm
  rw [show (bs l).data.toList = l from bs_data l, show (bs p).data.toList = p from bs_data p] at c
  exact c
theorem parseField_any (l : Nm) (w : World) (hl : l.length < 4294967281) (hE : EV w) :
    Calls Tryz.prog 88 #[.string (bs l)] w fun e w' => e = .returned (.tuple #[(fdOf l).one, .bool (fdOk l)]) ∧ Below w.heap.size w w' := by
  have hR : EV (resF w) := hE.on (b_alloc (Below.refl _ _) (Nat.le_refl _) _)
  have l1 := cut_len l [58]
  have cC := cut_at l [58] (resF w) hl hR
  have cT : ∀ x n, Calls Tryz.prog 111 #[.string (bs x)] ((resF w).drewN n) fun e w' => e = .returned (.int .i64 (tyO x)) ∧ w' = (resF w).drewN n := fun x n => typeOf_any x _ (hR.on (b_drewN (Below.refl _ _) n))
  have cA : ∀ W v, IsS W v [(Lib.cut l [58]).1] → Calls Tryz.prog 86 #[v] W fun e w' => e = .returned (.bool (areN [(Lib.cut l [58]).1])) ∧ Below W.heap.size W w' := fun W v h =>
    areNames_any h (by simp) (fun x hx => by obtain rfl : x = _ := (by simpa using hx); exact Nat.lt_of_le_of_lt l1.1 hl)
  have l2 := trim_len (restF l) [42]
  by_cases hk : keyF l = true
  · have cS : ∀ W, Calls Tryz.prog 55 #[.string (bs (restF l)), .string (bs [42])] W fun e w' => e = .returned (.tuple #[.string (bs (Lib.trimSuffix (restF l) [42])), .bool true]) ∧ w' = W := fun W => by
      have c := cutSuffix_at (restF l) [42] W (by unfold restF; omega)
      rw [show Lib.hasSuffix (restF l) [42] = true from hk] at c
      exact c
    have c := parseField_k l _ (restF l) _ _ _ _ w cC cS (cT _) cA
    have e1 : fdOf l = ⟨(Lib.cut l [58]).1, tyO (Lib.trimSuffix (restF l) [42]), true, true⟩ := by unfold fdOf typF mustF; rw [hk]; rfl
    have e2 : fdOk l = (areN [(Lib.cut l [58]).1] && !(tyO (Lib.trimSuffix (restF l) [42]) == 0)) := by unfold fdOk typF; rw [hk]; rfl
    rw [e1, e2]
    exact c
  · have hk' : keyF l = false := by simpa using hk
    have cS : ∀ W, Calls Tryz.prog 55 #[.string (bs (restF l)), .string (bs [42])] W fun e w' => e = .returned (.tuple #[.string (bs (Lib.trimSuffix (restF l) [42])), .bool false]) ∧ w' = W := fun W => by
      have c := cutSuffix_at (restF l) [42] W (by unfold restF; omega)
      rw [show Lib.hasSuffix (restF l) [42] = false from hk'] at c
      exact c
    have cM := fun W => cutSuffix_at (Lib.trimSuffix (restF l) [42]) [33] W (by have : (restF l).length ≤ l.length := l1.2; omega)
    have c := parseField_m l _ (restF l) _ _ _ _ _ _ w cC cS cM (cT _) cA
    have e1 : fdOf l = ⟨(Lib.cut l [58]).1, tyO (Lib.trimSuffix (Lib.trimSuffix (restF l) [42]) [33]), Lib.hasSuffix (Lib.trimSuffix (restF l) [42]) [33], false⟩ := by unfold fdOf typF mustF; rw [hk']; rfl
    have e2 : fdOk l = (areN [(Lib.cut l [58]).1] && !(tyO (Lib.trimSuffix (Lib.trimSuffix (restF l) [42]) [33]) == 0)) := by unfold fdOk typF; rw [hk']; rfl
    rw [e1, e2]
    exact c
end Go.Proofs.YtgjlonilbhlneaaGreatDoor

/-
  The walk of schema.parseKind: its beginning.
-/
namespace Go.Proofs.YtgjlonilbhlneaaGreatDoor
open Go.RowKit
set_option linter.unusedVariables false
set_option linter.unusedSimpArgs false

def wKind : Nm := [107, 105, 110, 100]
def wOf : Nm := [111, 102]
abbrev kdZ : Value := .agg #[.string ⟨#[]⟩, .slice none 0 0, .slice none 0 0]
abbrev resK (w : World) : World := w.alloc (.cells #[.string ⟨#[]⟩, .slice none 0 0, .slice none 0 0] 55)
theorem cellB {w : World} {b i : Nat} {cs : Array Value} {t : TypeId} {u : Value} (h : w.heap[b]? = some (.cells cs t (0, 0))) (hu : cs[i]? = some u) : w.cell? ⟨b, i, none⟩ = some u := by simp [World.cell?, h, hu]
theorem frzB {w : World} {b i : Nat} {cs : Array Value} {t : TypeId} (h : w.heap[b]? = some (.cells cs t (0, 0))) : w.frozen? ⟨b, i, none⟩ = false := by simp [World.frozen?, h]

set_option maxHeartbeats 2000000 in
set_option maxRecDepth 100000 in
theorem parseKind_no1 (ao : Option Addr) (n c : Nat) (hn : (n : Int) < 2) (w : World) :
    Calls Tryz.prog 59 #[.slice ao n c] w fun e w' => e = .returned (.tuple #[kdZ, .bool false]) ∧ Below w.heap.size w w' := by
  go_enter Tryz.func59, Tryz.ntmps59
  go_wp2
  (try simp only [Exit.inBlock, Exit.then])
  refine bodyPost_ret (v := .tuple #[kdZ, .bool false]) ?_ rfl ⟨rfl, b_alloc (Below.refl _ _) (Nat.le_refl _) _⟩
  rw [results_cell_tmp rfl]
  go_simp
set_option maxHeartbeats 2000000 in
set_option maxRecDepth 100000 in
theorem parseKind_no2 (b off n c : Nat) (x0 : Nm) (w : World) (hb : b < w.heap.size) (c0 : w.cell? ⟨b, off, none⟩ = some (.string (bs x0))) (hn : ¬ (n : Int) < 2) (hm : n ≤ maxLen) (hk : (x0 == [107, 105, 110, 100]) = false) :
    Calls Tryz.prog 59 #[.slice (some ⟨b, off, none⟩) n c] w fun e w' => e = .returned (.tuple #[kdZ, .bool false]) ∧ Below w.heap.size w w' := by
  have hB : Below w.heap.size w (resK w) := b_alloc (Below.refl _ _) (Nat.le_refl _) _
  have e0 := (hB.cell (p := ⟨b, off, none⟩) hb).trans c0
  have hbn : ¬ b = w.heap.size := by omega
  have hi : (0 : Int) < (n : Int) := by omega
  clear c0
  go_enter Tryz.func59, Tryz.ntmps59
  go_wp2
  (try simp only [Exit.inBlock, Exit.then])
  refine bodyPost_ret (v := .tuple #[kdZ, .bool false]) ?_ rfl ⟨rfl, hB⟩
  rw [results_cell_tmp rfl]
  go_simp
theorem infoFd : (Tryz.prog.info? 52).map (fun i => (i.zero, i.size, i.bytes)) = some (some (.agg #[.string ⟨#[]⟩, .int .i64 0, .bool false, .bool false]), 4, 32) := by kernel_rfl
theorem row_apart {w : World} {base : Nat} {e t : TypeId} {size : Nat} {v : Value} {n : Nat} {xs : List Value} (h : w.ownsRow base e size v n xs) {b : Nat} {cs : Array Value} (hb : w.heap[b]? = some (.cells cs t (0, 0))) (hne : t ≠ e) : v.ownBlock ≠ some b := by
  rcases h.2 with ⟨rfl, _⟩ | ⟨g, cap, cur, rfl, _, hg, _⟩
  · intro h; cases h
  · intro h
    have : g = b := by simpa [Value.ownBlock] using h
    subst this
    rw [hg] at hb
    injection hb with hb
    injection hb with _ ht _
    exact hne ht.symm
theorem own_set {w : World} {base : Nat} {e : TypeId} {size : Nat} {v : Value} {n : Nat} {xs : List Value} (h : w.ownsRow base e size v n xs) {G : Nat} (hne : v.ownBlock ≠ some G) (i : Nat) (u : Value) : (w.setCell ⟨G, i, none⟩ u).ownsRow base e size v n xs := by
  refine ⟨h.1, ?_⟩
  rcases h.2 with h | ⟨g, cap, cur, rfl, hb, hg, rest⟩
  · exact .inl h
  · exact .inr ⟨g, cap, cur, rfl, hb, (heap_setCell_other w ⟨G, i, none⟩ g u (fun e => hne (by rw [e]; rfl))).trans hg, rest⟩
def PK (w W : World) (x1 : Nm) (vo : Value) (ws : List Nm) (i : Value) (wr : World) : Prop :=
  ∃ (k : Nat) (v : Value), k ≤ ws.length ∧ i = .int .i64 (k : Int) ∧ (∀ x ∈ ws.take k, fdOk x = true) ∧ wr.ownsRow W.heap.size 52 4 v k (cellsF ((ws.take k).map fdOf)) ∧ wr.heap[w.heap.size]? = some (.cells #[.string (bs x1), vo, v] 55 (0, 0)) ∧ (∀ b, b < W.heap.size → b ≠ w.heap.size → wr.heap[b]? = W.heap[b]?) ∧ W.heap.size ≤ wr.heap.size ∧ Below w.heap.size w wr
theorem takeS {ws : List Nm} {k : Nat} {x : Nm} (h : ws[k]? = some x) : ws.take (k + 1) = ws.take k ++ [x] := by
  obtain ⟨hk, rfl⟩ := List.getElem?_eq_some_iff.1 h
  rw [List.take_succ_eq_append_getElem hk]
abbrev wF (W5 : World) (f : Fd) : World := (W5.alloc (.cells #[.string (bs f.nm), .int .i64 f.t, .bool f.must, .bool f.key] 52)).alloc (.cells #[.string (bs f.nm), .int .i64 f.t, .bool f.must, .bool f.key] 52)
theorem bF (W5 : World) (f : Fd) : Below W5.heap.size W5 (wF W5 f) := b_alloc (b_alloc (Below.refl _ _) (Nat.le_refl _) _) (Nat.le_refl _) _
theorem pk_step {w W wr W5 w1 : World} {x1 x : Nm} {vo v : Value} {ws : List Nm} {a1 : Option Addr} {c1 k : Nat} (hx : ws[k]? = some x) (hok : fdOk x = true) (hwW : w.heap.size < W.heap.size) (hall : ∀ x ∈ ws.take k, fdOk x = true) (hO : wr.ownsRow W.heap.size 52 4 v k (cellsF ((ws.take k).map fdOf))) (hG : wr.heap[w.heap.size]? = some (.cells #[.string (bs x1), vo, v] 55 (0, 0))) (hK : ∀ b, b < W.heap.size → b ≠ w.heap.size → wr.heap[b]? = W.heap[b]?) (hs : W.heap.size ≤ wr.heap.size) (hB : Below w.heap.size w wr)
    (hB5 : Below wr.heap.size wr W5) (hown1 : w1.ownsRow W.heap.size 52 4 (.slice a1 (k + 1) c1) (k + 1) (cellsF ((ws.take k).map fdOf) ++ (fdOf x).cells)) (hgrow1 : (wF W5 (fdOf x)).grownBy w1 v.ownBlock) :
    PK w W x1 vo ws (.int .i64 ((k : Int) + 1)) (w1.setCell ⟨w.heap.size, 2, none⟩ (.slice a1 (k + 1) c1)) := by
  have hb1 : Below wr.heap.size wr (wF W5 (fdOf x)) := on1 hB5 (bF W5 _) (Nat.le_refl _)
  have hown : ∀ g, v.ownBlock = some g → W.heap.size ≤ g := fun g hg => (hO.lt g hg).1
  have hold : ∀ b, b < W.heap.size → w1.heap[b]? = wr.heap[b]? := fun b hb =>
    (hgrow1.block b (Nat.lt_of_lt_of_le (Nat.lt_of_lt_of_le hb hs) hb1.size) (fun h => by have := hown b h.symm; omega)).trans (hb1.block b (Nat.lt_of_lt_of_le hb hs))
  have hG1 := (hold _ hwW).trans hG
  have hk := (List.getElem?_eq_some_iff.1 hx).1
  refine ⟨k + 1, .slice a1 (k + 1) c1, by omega, by simp, ?_, ?_, ?_, ?_, ?_, ?_⟩
  · intro y hy
    rw [takeS hx] at hy
    rcases List.mem_append.1 hy with hy | hy
    · exact hall y hy
    · obtain rfl : y = x := by simpa using hy
      exact hok
  · rw [takeS hx, List.map_append, cellsF_app, show cellsF ([x].map fdOf) = (fdOf x).cells by simp [cellsF]]
    exact own_set hown1 (row_apart hown1 hG1 (by decide)) _ _
  · exact (heap_setCell_same w1 w.heap.size 2 _ 55 _ hG1).trans rfl
  · intro b hb hne
    exact (heap_setCell_other w1 _ _ _ hne).trans ((hold b hb).trans (hK b hb hne))
  · have h1 := hgrow1.size
    have h2 := hb1.size
    rw [World.size_setCell]
    omega
  · exact ((hB.trans (hb1.mono hB.size)).grown hgrow1 (by have := hb1.size; have := hB.size; omega) (fun g hg => by have := hown g hg; omega)).setCell (p := ⟨w.heap.size, 2, none⟩) (Nat.le_refl _) _
end Go.Proofs.YtgjlonilbhlneaaGreatDoor
