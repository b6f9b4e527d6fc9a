/-
  The walk of Parse.
-/
import Derived.Test.YtmgkdghkenpmbaaGreatDoorAskS
namespace Go.Proofs.YtmgkdghkenpmbaaGreatDoor
open Go.RowKit
set_option linter.unusedVariables false
set_option linter.unusedSimpArgs false

/-- What Parse gives: where it goes wrong, and the fault. -/
def paAt (r : Nm) : Int := match (stepsR true r).2 with
  | none => (r.length : Int) - ((stepsR true r).1.length : Int)
  | some _ => 0
def paE (r : Nm) : Int := match (stepsR true r).2 with
  | none => 2
  | some l => askE (capL l)
/-- .. and the steps. -/
def PaAns (w w' : World) (e : Ending) (r : Nm) : Prop :=
  ∃ (v : Value) (M : List Sp), e = .returned (.tuple #[v, .int .i64 (paAt r), errV (paE r)]) ∧ OwnSp w' w.heap.size v M ∧ (paE r = 0 → ∃ l, (stepsR true r).2 = some l ∧ M.map Sp.st = capL l) ∧ (¬ paE r = 0 → M = [])
theorem own_nil (w : World) (base : Nat) : OwnSp w base (.slice none 0 0) [] := ⟨World.ownsRow_nil _ _ _ _, fun p hp => by cases hp⟩

set_option maxHeartbeats 4000000 in
set_option maxRecDepth 100000 in
theorem parseP_any (s : ByteArray) (w : World) (hs : s.size ≤ 140737488355328) (hS : Sg w) :
    Calls Tryz.prog 5 #[.string s] w fun e w' => PaAns w w' e s.data.toList ∧ Below w.heap.size w w' := by
  have hz : w.heap.size ≠ 0 := by have := hS.lt; omega
  have hR0 : Rd w.heap.size s s.data.toList (w.alloc (.cells #[.string s, .int .i64 0] 45)) := ⟨0, Nat.zero_le _, rfl, new_block w _ 45⟩
  have hB0 : Below w.heap.size w (w.alloc (.cells #[.string s, .int .i64 0] 45)) := (Below.refl _ w).alloc (Nat.le_refl _) _
  have cS := steps_any hR0 hs (hS.on hB0) hz
  have HBG : Hid (∀ W, Gw w.heap.size (w.alloc (.cells #[.string s, .int .i64 0] 45)) W → Below w.heap.size w W) := fun W hG => below_grown hB0 hG (by simp) (fun k hk => by injection hk with hk; omega)
  have hl := size_len s
  have hparts := stepsR_parts _ true s.data.toList (Nat.le_refl _)
  have HSZ : Hid (w.heap.size ≤ (w.alloc (.cells #[.string s, .int .i64 0] 45)).heap.size) := by show _ ≤ _; simp
  clear hR0 hB0 hS
  rcases hq : (stepsR true s.data.toList).2 with _ | l
  · have HE : Hid (paE s.data.toList = 2 ∧ paAt s.data.toList = (s.data.toList.length : Int) - ((stepsR true s.data.toList).1.length : Int)) := by
      unfold paE paAt; rw [hq]; exact ⟨rfl, rfl⟩
    rw [hq] at cS
    generalize (stepsR true s.data.toList).1 = z at cS HE
    clear hq hparts
    go_enter Tryz.func5, Tryz.ntmps5
    go_wp2_with (go_at_call 13; refine cS.mono ?_; rintro e W1 ⟨⟨a, n, c, rfl, _⟩, hR1, hG1⟩; have HR1 := Lib.hid hR1; obtain ⟨k, hk, hr, hb⟩ := hR1; have c1 : W1.cell? ⟨w.heap.size, 1, none⟩ = some (.int .i64 (k : Int)) := cell_at hb rfl; have HKR := Lib.hid hr; clear hb hr)
    go_quiet (fail)
    go_wp2
    refine bodyPost_ret (v := .tuple #[.slice none 0 0, .int .i64 (k : Int), .iface 48 (.int .i64 2)]) (by simp [results, Tryz.results5, go_sem]) rfl ⟨⟨.slice none 0 0, [], ?_, own_nil _ _, fun h => ?_, fun _ => rfl⟩, ?_⟩
    · rw [HE.out.1, HE.out.2]
      have : (k : Int) = (s.data.toList.length : Int) - (z.length : Int) := by
        rw [← HKR.out, List.length_drop, ← hl]; omega
      rw [← this]; rfl
    · rw [HE.out.1] at h; exact absurd h (by decide)
    · exact b_drewK (HBG.out _ hG1) _
  · rw [hq] at cS
    have HE : Hid (paE s.data.toList = askE (capL l) ∧ paAt s.data.toList = 0) := by
      unfold paE paAt; rw [hq]; exact ⟨rfl, rfl⟩
    have HQ := Lib.hid hq
    have hsz : ∀ p ∈ capL l, SpSz p := capL_sz (hparts l hq) (by rw [← hl]; unfold maxLen; omega)
    have HLZ : Hid (∀ M : List Sp, M.map Sp.st = capL l → (∀ p ∈ M, SpSz p.st) ∧ M.length ≤ maxLen) := fun M hM => by
      refine ⟨fun p hp => hsz p.st (by rw [← hM]; exact List.mem_map_of_mem hp), ?_⟩
      have := capL_len l
      rw [← hM, List.length_map] at this
      unfold maxLen; omega
    generalize (stepsR true s.data.toList).1 = z at cS
    clear hq hparts hsz hl
    by_cases he : askE (capL l) = 0
    · have HZ := Lib.hid he
      clear he
      go_enter Tryz.func5, Tryz.ntmps5
      go_wp2_with (first | (go_at_call 13; refine cS.mono ?_; rintro e W1 ⟨⟨a, n, c, rfl, hm⟩, hR1, hG1⟩; obtain ⟨M, hM, hO⟩ := hm l rfl; have cP := plain_any (own_isSp hO) (HLZ.out M hM).1 (HLZ.out M hM).2; rw [hM, HZ.out, errV_0] at cP; have HM := Lib.hid hM; have HO := Lib.hid hO; have HB1 := Lib.hid (HBG.out W1 hG1); clear hM hO hm hR1 hG1) | (go_at_call 10; refine cP.mono ?_; rintro e W2 ⟨rfl, hB2⟩))
      refine bodyPost_ret (v := .tuple #[.slice a n c, .int .i64 0, .nilIface]) (by simp [results, Tryz.results5, go_sem]) rfl ⟨⟨.slice a n c, M, ?_, (HO.out.on hB2).base HSZ.out, fun _ => ⟨l, HQ.out, HM.out⟩, fun h => ?_⟩, on1 HB1.out hB2⟩
      · rw [HE.out.1, HE.out.2, HZ.out]; rfl
      · rw [HE.out.1] at h; exact absurd HZ.out h
    · have HZ := Lib.hid he
      clear he
      go_enter Tryz.func5, Tryz.ntmps5
      go_wp2_with (first | (go_at_call 13; refine cS.mono ?_; rintro e W1 ⟨⟨a, n, c, rfl, hm⟩, hR1, hG1⟩; obtain ⟨M, hM, hO⟩ := hm l rfl; have cP := plain_any (own_isSp hO) (HLZ.out M hM).1 (HLZ.out M hM).2; rw [hM, errV_ne HZ.out] at cP; have HB1 := Lib.hid (HBG.out W1 hG1); clear hM hO hm hR1 hG1) | (go_at_call 10; refine cP.mono ?_; rintro e W2 ⟨rfl, hB2⟩))
      refine bodyPost_ret (v := .tuple #[.slice none 0 0, .int .i64 0, .iface 48 (.int .i64 (askE (capL l)))]) (by simp [results, Tryz.results5, go_sem]) rfl ⟨⟨.slice none 0 0, [], ?_, own_nil _ _, fun h => ?_, fun _ => rfl⟩, on1 HB1.out hB2⟩
      · rw [HE.out.1, HE.out.2, errV_ne HZ.out]
      · rw [HE.out.1] at h; exact absurd h HZ.out
end Go.Proofs.YtmgkdghkenpmbaaGreatDoor
