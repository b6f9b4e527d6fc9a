/-
  The walk of the reader: a step behind another one.
-/
import Derived.Test.YtmgkdghkenpmbaaGreatDoorAskI
namespace Go.Proofs.YtmgkdghkenpmbaaGreatDoor
open Go.RowKit
set_option linter.unusedVariables false
set_option linter.unusedSimpArgs false

theorem pStep_no {r r1 : Nm} (h : pBond r = (r1, none)) : pStep false r = (r1, none) := by unfold pStep; rw [if_neg (by simp), h]
theorem pStep_yes {r r1 n : Nm} {bk : Bool} (h : pBond r = (r1, some (n, bk))) : pStep false r = pKind n bk r1 := by unfold pStep; rw [if_neg (by simp), h]

set_option maxHeartbeats 4000000 in
set_option maxRecDepth 100000 in
theorem step_next {b : Nat} {s : ByteArray} {r : Nm} {w : World} (h : Rd b s r w) (hs : s.size ≤ 140737488355328) (hS : Sg w) (hb : b ≠ 0) :
    Calls Tryz.prog 23 #[rp b, .bool false] w fun e w' => SpAns w w' e (pStep false r).2 ∧ Rd b s (pStep false r).1 w' ∧ Gw b w w' := by
  have hbl := h.lt
  have hne : b ≠ w.heap.size := by omega
  have hz : w.heap.size ≠ 0 := by omega
  have hs' : s.size ≤ maxLen := by unfold maxLen; omega
  have cB := bond_any (h.alloc (.cells #[.string ⟨#[]⟩, .bool false, .string ⟨#[]⟩, .slice none 0 0] 29)) hs'
  have HP0 := Lib.hid (new_block w #[.string ⟨#[]⟩, .bool false, .string ⟨#[]⟩, .slice none 0 0] 29)
  have HG0 : Hid (Gw b w (W29 w)) := (Gw.refl b w).alloc _
  have HS0 : Hid (Sg (W29 w)) := hS.alloc _
  clear h hS
  rcases hq : pBond r with ⟨r1, o⟩
  rw [hq] at cB
  cases o with
  | none =>
    rw [pStep_no hq]
    clear hq
    go_enter Tryz.func23, Tryz.ntmps23
    go_wp2_with (go_at_call 41; refine cB.mono ?_; rintro e W1 ⟨⟨n, bk, rfl, _⟩, hR1, hG1⟩; have hp1 := hG1.blk (Ne.symm hne) HP0.out; obtain ⟨a0, a1, a2, a3, f0, f1, f2, f3⟩ := own4 hp1; have HR1 := Lib.hid ((hR1.setO hne 0 (.string (bs n))).setO hne 1 (.bool bk)); have HG1 := Lib.hid (((HG0.out.trans hG1).setO (Nat.le_refl _) 0 (.string (bs n))).setO (Nat.le_refl _) 1 (.bool bk)); have HP1 := Lib.hid (set4_1 (set4_0 hp1 (.string (bs n))) (.bool bk)); clear hR1 hG1 hp1)
    obtain ⟨q1, q2⟩ := four_set HR1.out HG1.out hne (Nat.le_refl _) (.string ⟨#[]⟩) (.bool false) (.string ⟨#[]⟩) (.slice none 0 0)
    refine bodyPost_ret (v := .tuple #[.agg #[.string ⟨#[]⟩, .bool false, .string ⟨#[]⟩, .slice none 0 0], .bool false]) (res4 rfl rfl (four_blk HP1.out _ _ _ _)) rfl ⟨⟨⟨⟨[], false, [], []⟩, .slice none 0 0⟩, ⟨_, _, _, rfl⟩, rfl, fun p hp => by cases hp⟩, q1, q2⟩
  | some nb =>
    obtain ⟨n, bk⟩ := nb
    rw [pStep_yes hq]
    clear hq
    have cN := fun (W : World) (hR : Rd b s r1 W) => rname_read hR hs'
    by_cases hn : nameT r1 = []
    · rw [pKind_no hn]
      rw [hn, nameD_nil hn, show neB [] = false from rfl] at cN
      clear hn
      go_enter Tryz.func23, Tryz.ntmps23
      go_wp2_with (first | (go_at_call 41; refine cB.mono ?_; rintro e W1 ⟨⟨n', bk', rfl, hnb⟩, hR1, hG1⟩; obtain ⟨rfl, rfl⟩ := hnb _ _ rfl; have hp1 := hG1.blk (Ne.symm hne) HP0.out; obtain ⟨a0, a1, a2, a3, f0, f1, f2, f3⟩ := own4 hp1; have HR1 := Lib.hid ((hR1.setO hne 0 (.string (bs n'))).setO hne 1 (.bool bk')); have HG1 := Lib.hid (((HG0.out.trans hG1).setO (Nat.le_refl _) 0 (.string (bs n'))).setO (Nat.le_refl _) 1 (.bool bk')); have HP1 := Lib.hid (set4_1 (set4_0 hp1 (.string (bs n'))) (.bool bk')); clear hR1 hG1 hp1 hnb) | (go_at_call 42; refine (cN _ HR1.out).mono ?_; rintro e W2 ⟨rfl, hR2, hG2⟩; have hp2 := hG2.blk (Ne.symm hne) HP1.out; clear a0 a1 a2 a3 f0 f1 f2 f3; obtain ⟨a0, a1, a2, a3, f0, f1, f2, f3⟩ := own4 hp2; have HR2 := Lib.hid (hR2.setO hne 2 (.string (bs []))); have HG2 := Lib.hid ((HG1.out.trans hG2).setO (Nat.le_refl _) 2 (.string (bs []))); have HP2 := Lib.hid (set4_2 hp2 (.string (bs []))); clear hR2 hG2 hp2))
      obtain ⟨q1, q2⟩ := four_set HR2.out HG2.out hne (Nat.le_refl _) (.string ⟨#[]⟩) (.bool false) (.string ⟨#[]⟩) (.slice none 0 0)
      refine bodyPost_ret (v := .tuple #[.agg #[.string ⟨#[]⟩, .bool false, .string ⟨#[]⟩, .slice none 0 0], .bool false]) (res4 rfl rfl (four_blk HP2.out _ _ _ _)) rfl ⟨⟨⟨⟨[], false, [], []⟩, .slice none 0 0⟩, ⟨_, _, _, rfl⟩, rfl, fun p hp => by cases hp⟩, q1, q2⟩
    · rw [pKind_yes hn]
      rw [neB_t hn] at cN
      have cT := fun (W : World) (hR : Rd b s (nameD r1) W) (hS : Sg W) => tests_any hR hs hS hb
      generalize nameT r1 = nm at cN ⊢
      generalize pTests (nameD r1) = pt at cT ⊢
      obtain ⟨z, o⟩ := pt
      generalize nameD r1 = q at cN cT
      clear hn
      simp only at cT ⊢
      go_enter Tryz.func23, Tryz.ntmps23
      go_wp2_with (first | (go_at_call 41; refine cB.mono ?_; rintro e W1 ⟨⟨n', bk', rfl, hnb⟩, hR1, hG1⟩; obtain ⟨rfl, rfl⟩ := hnb _ _ rfl; have hp1 := hG1.blk (Ne.symm hne) HP0.out; obtain ⟨a0, a1, a2, a3, f0, f1, f2, f3⟩ := own4 hp1; have HR1 := Lib.hid ((hR1.setO hne 0 (.string (bs n'))).setO hne 1 (.bool bk')); have HG1 := Lib.hid (((HG0.out.trans hG1).setO (Nat.le_refl _) 0 (.string (bs n'))).setO (Nat.le_refl _) 1 (.bool bk')); have HP1 := Lib.hid (set4_1 (set4_0 hp1 (.string (bs n'))) (.bool bk')); have HS1 := Lib.hid (((HS0.out.gw hG1 hb).set hz 0 (.string (bs n'))).set hz 1 (.bool bk')); clear hR1 hG1 hp1 hnb) | (go_at_call 42; refine (cN _ HR1.out).mono ?_; rintro e W2 ⟨rfl, hR2, hG2⟩; have hp2 := hG2.blk (Ne.symm hne) HP1.out; clear a0 a1 a2 a3 f0 f1 f2 f3; obtain ⟨a0, a1, a2, a3, f0, f1, f2, f3⟩ := own4 hp2; have HR2 := Lib.hid (hR2.setO hne 2 (.string (bs nm))); have HG2 := Lib.hid ((HG1.out.trans hG2).setO (Nat.le_refl _) 2 (.string (bs nm))); have HP2 := Lib.hid (set4_2 hp2 (.string (bs nm))); have HS2 := Lib.hid ((HS1.out.gw hG2 hb).set hz 2 (.string (bs nm))); clear hR2 hG2 hp2) | (go_at_call 43; refine (cT _ HR2.out HS2.out).mono ?_; rintro e W3 ⟨⟨av, nv, cv, rfl, hts⟩, hR3, hG3⟩; have hp3 := hG3.blk (Ne.symm hne) HP2.out; clear a0 a1 a2 a3 f0 f1 f2 f3; obtain ⟨a0, a1, a2, a3, f0, f1, f2, f3⟩ := own4 hp3; have HR3 := Lib.hid (hR3.setO hne 3 (.slice av nv cv)); have HG3 := Lib.hid ((HG2.out.trans hG3).setO (Nat.le_refl _) 3 (.slice av nv cv)); have HK3 := Lib.hid (((Kt.refl 33 W3).set hp3 (by decide) 3 (.slice av nv cv))); have HP3 := Lib.hid (set4_3 hp3 (.slice av nv cv)); have HT3 := Lib.hid hts; clear hR3 hG3 hp3 hts))
      obtain ⟨q1, q2⟩ := four_set HR3.out HG3.out hne (Nat.le_refl _) (.string (bs n')) (.bool bk') (.string (bs nm)) (.slice av nv cv)
      refine bodyPost_ret (v := .tuple #[.agg #[.string (bs n'), .bool bk', .string (bs nm), .slice av nv cv], .bool o.isSome]) (res4 rfl rfl (four_blk HP3.out _ _ _ _)) rfl ⟨⟨⟨⟨n', bk', nm, (o.getD []).take 9⟩, .slice av nv cv⟩, ⟨_, _, _, rfl⟩, by cases o <;> rfl, fun p hp => ?_⟩, q1, q2⟩
      cases o with
      | none => cases hp
      | some ts =>
        simp only [Option.map_some, Option.some.injEq] at hp
        subst hp
        refine ⟨rfl, ?_⟩
        have hsz : w.heap.size ≤ (W2.setCell ⟨w.heap.size, 2, none⟩ (.string (bs nm))).heap.size := HG2.out.size
        exact own_kt (own_base (HT3.out ts rfl) hsz) (HK3.out.trans (four_kt HP3.out _ _ _ _))
theorem step_any (f : Bool) {b : Nat} {s : ByteArray} {r : Nm} {w : World} (h : Rd b s r w) (hs : s.size ≤ 140737488355328) (hS : Sg w) (hb : b ≠ 0) :
    Calls Tryz.prog 23 #[rp b, .bool f] w fun e w' => SpAns w w' e (pStep f r).2 ∧ Rd b s (pStep f r).1 w' ∧ Gw b w w' := by
  cases f with
  | true => exact step_first h hs hS hb
  | false => exact step_next h hs hS hb
end Go.Proofs.YtmgkdghkenpmbaaGreatDoor
