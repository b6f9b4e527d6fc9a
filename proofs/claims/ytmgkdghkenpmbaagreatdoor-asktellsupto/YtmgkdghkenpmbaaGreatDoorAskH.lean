/-
  The walks of the reader: a bond in its arrow.
-/
import Derived.Test.YtmgkdghkenpmbaaGreatDoorAskG
import Derived.Laws.Concat
namespace Go.Proofs.YtmgkdghkenpmbaaGreatDoor
open Go.RowKit
set_option linter.unusedVariables false
set_option linter.unusedSimpArgs false

theorem arrow_any (bk : Bool) (w : World) : Calls Tryz.prog 26 #[.bool bk] w fun e w' => e = .returned (.agg #[.string (bs (ar0 bk)), .string (bs (ar1 bk))]) ∧ Below w.heap.size w w' := by
  cases bk with
  | true =>
    go_enter Tryz.func26, Tryz.ntmps26
    go_wp2
    exact bodyPost_ret (v := .agg #[.string ⟨#[60, 45]⟩, .string ⟨#[45]⟩]) (by simp [results, Tryz.results26, go_sem]) rfl ⟨rfl, (Below.refl _ w).alloc (Nat.le_refl _) _⟩
  | false =>
    go_enter Tryz.func26, Tryz.ntmps26
    go_wp2
    exact bodyPost_ret (v := .agg #[.string ⟨#[45]⟩, .string ⟨#[45, 62]⟩]) (by simp [results, Tryz.results26, go_sem]) rfl ⟨rfl, (Below.refl _ w).alloc (Nat.le_refl _) _⟩
theorem ar_len (bk : Bool) : (ar0 bk).length ≤ 2 ∧ (ar1 bk).length ≤ 2 := by cases bk <;> decide
theorem takeB {b : Nat} {s : ByteArray} {r : Nm} {w : World} (h : Rd b s r w) (hs : s.size ≤ maxLen) {l : Nm} (hl : l.length ≤ 1000) :
    Calls Tryz.prog 58 #[rp b, .string (bs l)] w fun e w' => e = .returned (.bool (takeR l r).2) ∧ Rd b s (takeR l r).1 w' ∧ Gw b w w' := by
  have := take_any h hs (bs l) (by rw [bs_size]; exact hl)
  rw [bs_data] at this
  exact this
theorem catB (x y : Nm) (hx : x.length ≤ 8388608) (hy : y.length ≤ 8388608) (w : World) : (Op.stringOp .add (bs x) (bs y)).run Tryz.prog w = .ok (.string (bs (x ++ y))) w := run_string_add_lists w x y (by omega) (by omega)
/-- What bond gives. -/
def BdAns (e : Ending) (o : Option (Nm × Bool)) : Prop := ∃ n bk, e = .returned (.tuple #[.string (bs n), .bool bk, .bool o.isSome]) ∧ ∀ m c, o = some (m, c) → n = m ∧ bk = c
theorem pBond_a {r : Nm} (h : seesB r 32 = false) : pBond r = (r, none) := by
  have e : takeR [32] r = (r, false) := by rw [takeR_one, if_neg (by rw [h]; simp)]
  unfold pBond; rw [e]; rfl
theorem pBond_b {r : Nm} (h : seesB r 32 = true) (h1 : (takeR (ar0 (seesB r.tail 60)) r.tail).2 = false) : pBond r = ((takeR (ar0 (seesB r.tail 60)) r.tail).1, none) := by
  unfold pBond; rw [takeR_one, if_pos h]; simp only [Bool.true_eq_false, if_false]; rw [if_pos h1]
theorem pBond_c {r : Nm} (h : seesB r 32 = true) (h1 : (takeR (ar0 (seesB r.tail 60)) r.tail).2 = true) (h2 : nameT (takeR (ar0 (seesB r.tail 60)) r.tail).1 = []) : pBond r = ((takeR (ar0 (seesB r.tail 60)) r.tail).1, none) := by
  unfold pBond; rw [takeR_one, if_pos h]; simp only [Bool.true_eq_false, if_false]; rw [if_neg (by rw [h1]; simp), if_pos h2]
theorem pBond_d {r q : Nm} (h : seesB r 32 = true) (h1 : takeR (ar0 (seesB r.tail 60)) r.tail = (q, true)) (h2 : ¬ nameT q = []) :
    pBond r = ((takeR (ar1 (seesB r.tail 60) ++ [32]) (nameD q)).1, if (takeR (ar1 (seesB r.tail 60) ++ [32]) (nameD q)).2 = true then some (nameT q, seesB r.tail 60) else none) := by
  unfold pBond; rw [takeR_one, if_pos h]; simp only [Bool.true_eq_false, if_false]; rw [h1]; simp only [Bool.true_eq_false, if_false]; rw [if_neg h2]
  cases (takeR (ar1 (seesB r.tail 60) ++ [32]) (nameD q)).2 <;> simp

set_option maxHeartbeats 4000000 in
set_option maxRecDepth 100000 in
theorem bond_any {b : Nat} {s : ByteArray} {r : Nm} {w : World} (h : Rd b s r w) (hs : s.size ≤ maxLen) :
    Calls Tryz.prog 41 #[rp b] w fun e w' => BdAns e (pBond r).2 ∧ Rd b s (pBond r).1 w' ∧ Gw b w w' := by
  by_cases h32 : seesB r 32 = true
  · have c1 := take1_yes h hs h32
    have cS := fun (W : World) (hR : Rd b s r.tail W) => sees_any hR 60 hs
    have hpb := @pBond_b r h32
    have hpc := @pBond_c r h32
    have hpd := fun q => @pBond_d r q h32
    clear h
    generalize seesB r.tail 60 = bk at cS hpb hpc hpd
    generalize r.tail = r1 at c1 cS hpb hpc hpd
    have cA := fun W => arrow_any bk W
    have cT := fun (W : World) (hR : Rd b s r1 W) => takeB hR hs (l := ar0 bk) (by have := ar_len bk; omega)
    rcases hq : takeR (ar0 bk) r1 with ⟨q, ok⟩
    rw [hq] at cT hpb hpc
    cases ok with
    | false =>
      rw [hpb rfl]
      clear hpb hpc hpd h32
      go_enter Tryz.func41, Tryz.ntmps41
      go_wp2_with (go_at_call 58; refine c1.mono ?_; rintro e W1 ⟨rfl, hR1, hG1⟩; refine Hid.out ?_)
      refine Lib.hid ?_
      go_wp2_with (first | (go_at_call 59; refine (cS _ hR1).mono ?_; rintro e W2 ⟨rfl, nq, rfl⟩) | (go_at_call 26; refine (cA _).mono ?_; rintro e W3 ⟨rfl, hB3⟩; have HR3 := Lib.hid ((hR1.drewN nq).on hB3); have HG3 := Lib.hid ((hG1.drew nq).on hB3); clear hB3) | (go_at_call 58; refine (cT _ (HR3.out.alloc _)).mono ?_; rintro e W4 ⟨rfl, hR4, hG4⟩))
      refine bodyPost_ret (v := .tuple #[.string ⟨#[]⟩, .bool false, .bool false]) (by simp [results, Tryz.results41, go_sem]) rfl ⟨⟨[], false, rfl, fun m c h => by cases h⟩, hR4, (HG3.out.alloc _).trans hG4⟩
    | true =>
      clear hpb
      have cN := fun (W : World) (hR : Rd b s q W) => rname_read hR hs
      by_cases hn : nameT q = []
      · rw [hpc rfl hn]
        rw [hn, nameD_nil hn, show neB [] = false from rfl] at cN
        clear hpc hpd h32 hn
        go_enter Tryz.func41, Tryz.ntmps41
        go_wp2_with (go_at_call 58; refine c1.mono ?_; rintro e W1 ⟨rfl, hR1, hG1⟩; refine Hid.out ?_)
        refine Lib.hid ?_
        go_wp2_with (first | (go_at_call 59; refine (cS _ hR1).mono ?_; rintro e W2 ⟨rfl, nq, rfl⟩) | (go_at_call 26; refine (cA _).mono ?_; rintro e W3 ⟨rfl, hB3⟩; have HR3 := Lib.hid ((hR1.drewN nq).on hB3); have HG3 := Lib.hid ((hG1.drew nq).on hB3); clear hB3) | (go_at_call 58; refine (cT _ (HR3.out.alloc _)).mono ?_; rintro e W4 ⟨rfl, hR4, hG4⟩; have hpE := hG4.blk (Nat.ne_of_gt HR3.out.lt) (new_block W3 #[.string (bs (ar0 bk)), .string (bs (ar1 bk))] 67); have HR4 := Lib.hid hR4; have HG4 := Lib.hid ((HG3.out.alloc _).trans hG4); clear hR4 hG4; refine Hid.out ?_))
        refine Lib.hid ?_
        go_wp2_with (go_at_call 42; refine (cN _ HR4.out).mono ?_; rintro e W5 ⟨rfl, hR5, hG5⟩; have hpF := hG5.blk (Nat.ne_of_gt HR3.out.lt) hpE; have k1 : W5.cell? ⟨W3.heap.size, 1, none⟩ = some (.string (bs (ar1 bk))) := cell_at hpF rfl; clear hpF)
        refine bodyPost_ret (v := .tuple #[.string ⟨#[]⟩, .bool bk, .bool false]) (by simp [results, Tryz.results41, go_sem]; rfl) rfl ⟨⟨[], bk, rfl, fun m c h => by cases h⟩, hR5, HG4.out.trans hG5⟩
      · rw [hpd q hq hn]
        rw [neB_t hn] at cN
        have hct : ∀ w, (Op.stringOp .add (bs (ar1 bk)) ⟨#[32]⟩).run Tryz.prog w = .ok (.string (bs (ar1 bk ++ [32]))) w := fun w => catB _ [32] (by have := ar_len bk; omega) (by decide) w
        have cU := fun (W : World) (hR : Rd b s (nameD q) W) => takeB hR hs (l := ar1 bk ++ [32]) (by have := ar_len bk; simp; omega)
        generalize ar1 bk ++ [32] = wd at hct cU ⊢
        clear hpc hpd h32 hn hq
        rcases hz : takeR wd (nameD q) with ⟨z, okz⟩
        rw [hz] at cU
        have HO : Hid (∃ o : Option (Nm × Bool), (if okz = true then some (nameT q, bk) else none) = o ∧ o.isSome = okz ∧ ∀ m c, o = some (m, c) → nameT q = m ∧ bk = c) := by
          cases okz with
          | true => exact ⟨_, rfl, rfl, fun m c h => by simp at h; exact h⟩
          | false => exact ⟨_, rfl, rfl, fun m c h => by simp at h⟩
        obtain ⟨o, ho, ho1, ho2⟩ := HO.out
        simp only
        rw [ho]
        have HO1 := Lib.hid ho1
        have HO2 := Lib.hid ho2
        clear HO ho ho1 ho2 hz
        go_enter Tryz.func41, Tryz.ntmps41
        go_wp2_with (go_at_call 58; refine c1.mono ?_; rintro e W1 ⟨rfl, hR1, hG1⟩; refine Hid.out ?_)
        refine Lib.hid ?_
        go_wp2_with (first | (go_at_call 59; refine (cS _ hR1).mono ?_; rintro e W2 ⟨rfl, nq, rfl⟩) | (go_at_call 26; refine (cA _).mono ?_; rintro e W3 ⟨rfl, hB3⟩; have HR3 := Lib.hid ((hR1.drewN nq).on hB3); have HG3 := Lib.hid ((hG1.drew nq).on hB3); clear hB3) | (go_at_call 58; refine (cT _ (HR3.out.alloc _)).mono ?_; rintro e W4 ⟨rfl, hR4, hG4⟩; have hpE := hG4.blk (Nat.ne_of_gt HR3.out.lt) (new_block W3 #[.string (bs (ar0 bk)), .string (bs (ar1 bk))] 67); have HR4 := Lib.hid hR4; have HG4 := Lib.hid ((HG3.out.alloc _).trans hG4); clear hR4 hG4; refine Hid.out ?_))
        refine Lib.hid ?_
        go_wp2_with (first | (go_at_call 42; refine (cN _ HR4.out).mono ?_; rintro e W5 ⟨rfl, hR5, hG5⟩; have hpF := hG5.blk (Nat.ne_of_gt HR3.out.lt) hpE; have k1 : W5.cell? ⟨W3.heap.size, 1, none⟩ = some (.string (bs (ar1 bk))) := cell_at hpF rfl; clear hpF; have HR5 := Lib.hid hR5; have HG5 := Lib.hid (HG4.out.trans hG5); clear hR5 hG5) | (go_at_call 58; refine (cU _ HR5.out).mono ?_; rintro e W6 ⟨rfl, hR6, hG6⟩))
        refine bodyPost_ret (v := .tuple #[.string (bs (nameT q)), .bool bk, .bool okz]) (by simp [results, Tryz.results41, go_sem]) rfl ⟨⟨nameT q, bk, by rw [HO1.out], HO2.out⟩, hR6, HG5.out.trans hG6⟩
  · have h32' : seesB r 32 = false := by simpa using h32
    rw [pBond_a h32']
    have c1 := take1_no h hs h32'
    clear h h32 h32'
    go_enter Tryz.func41, Tryz.ntmps41
    go_wp2_with (go_at_call 58; refine c1.mono ?_; rintro e W1 ⟨rfl, hR1, hG1⟩)
    refine bodyPost_ret (v := .tuple #[.string ⟨#[]⟩, .bool false, .bool false]) (by simp [results, Tryz.results41, go_sem]) rfl ⟨⟨[], false, rfl, fun m c h => by cases h⟩, hR1, hG1⟩
end Go.Proofs.YtmgkdghkenpmbaaGreatDoor
