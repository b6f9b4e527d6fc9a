/-
  The law PathHolds of the program returns true at every input: each row of nodes that a path leads along is one that the path asks for, and turned round it is led along by the path turned round. The row, and its tied card.
-/
import Derived.Test.YtifcpjimhhpcpaaGreatDoorRows
import Derived.Test.YtifcpjimhhpcpaaGreatDoorCards
import Derived.Test.YtifcpjimhhpcpaaGreatDoorTie
import Derived.Test.YtifcpjimhhpcpaaGreatDoorM34
import Derived.Test.YtifcpjimhhpcpaaGreatDoorM35
import Derived.Test.YtifcpjimhhpcpaaGreatDoorM36
import Derived.Test.YtifcpjimhhpcpaaGreatDoorM37
import Derived.ProofKit
import Derived.LaidMore
import Derived.OpenShut
import Derived.ShutString
import Derived.ChangeMaps5
import Derived.Stop.Joined
import Derived.Stop.LaidErr
import Derived.Lib.SmallJoins
import Derived.Carry
import Derived.SizedLaws
import Derived.MakeChecks
import Derived.SevenTiedAt
import Derived.LaidHandle
import Derived.Deep.Slices
import Derived.Deep.Strs
namespace Go.Proofs.YtifcpjimhhpcpaaGreatDoor
open Go.ChangeShapes Go.WideShapes Go.ChangeAt Go.RowKit Go.Joins Go.Deep
open Go.ChangeMaps (open_string shut_string)
set_option linter.unusedVariables false
set_option linter.unusedSimpArgs false

/-- The law at every input. -/
theorem pholds_any {vs vg vl : Value} {L : List Kd} {B : List Bd} {N : List Nd} {T : List Te} {l : List Sp} {w : World} (hs : IsSc w vs L B) (hg : IsG w vg N T) (hl : IsSp w vl l) (hz : ∀ p ∈ l, SpSz p) (hH : Hnd w) :
    Calls Tryz.prog 3 #[vs, vg, vl] w fun e w' => e = .returned (.bool true) ∧ Below w.heap.size w w' := by
  by_cases hE : walkE L B N T l = 0
  · exact pholds_yes hs hg hl hz hH hE
  · exact pholds_no hs hg hl hz hH hE

theorem ownHo : ownKnob Tryz.prog.godebug = none := by kernel_rfl
/-- The door's own heap meets the condition. -/
theorem pholds_met (os : Os) (args : Array Value) : laidMetH Tryz.prog Rows.pathHoldsRow.laid ((World.doorLaid Tryz.prog 400 os).forCall (fun _ _ => 0) ⟨#[], args, []⟩).memory :=
  laidMetH_of_parts3 (fuel := 8) (laidMet_of_run' 8 (by kernel_rfl) (by kernel_rfl)) (by kernel_rfl) (by kernel_rfl)

theorem etNamedH : Tryz.prog.globalNamed "errors.errorType" = some 0 := by kernel_rfl
theorem rtNamedH : (Tryz.prog.cutTypes.find? (·.1 == "internal/reflectlite.rtype")).map (·.2) = some 184 := by kernel_rfl
theorem oneRowH : ((List.range 243).filter fun t => Tryz.prog.rowNamed t [101, 114, 114, 111, 114]) = [41] := by kernel_rfl
theorem typesSizeH : Tryz.prog.types.size = 243 := by kernel_rfl
/-- What the condition gives: the handle of the type 'error'. -/
theorem pholds_laid {W : World} (h : laidMetH Tryz.prog Rows.pathHoldsRow.laid W) : Hnd W := by
  have h2 : handlesMet Tryz.prog [("errors.errorType", Rows.laid_errors_errorType)] W := h.2
  obtain ⟨name, u, ty, e1, e2, e3, e4, e5⟩ := h2 _ (List.mem_singleton.2 rfl)
  have en : name = [101, 114, 114, 111, 114] := (Option.some.inj e1).symm
  subst en
  obtain rfl := Option.some.inj (rtNamedH.symm.trans e2)
  have hm : ty ∈ (List.range 243).filter fun t => Tryz.prog.rowNamed t [101, 114, 114, 111, 114] := List.mem_filter.2 ⟨List.mem_range.2 (by rw [← typesSizeH]; exact e3), e4⟩
  rw [oneRowH] at hm
  obtain rfl := List.mem_singleton.1 hm
  have hh : typeHandle Tryz.prog 41 = .pointer (some ⟨2, 41, none⟩) := by kernel_rfl
  rw [hh] at e5
  have := World.var?_cell etNamedH e5 0
  simpa using this

set_option maxRecDepth 100000 in
theorem pholds_lifted (os : Os) (started : os.Started) (H : Type) (enc : TypeId × Value → H) :
    ReturnsInHanded {} Tryz.checked os 3 .any (fun w args => (Rows.pathHoldsSpec.pre enc Tryz.prog Tryz.f3 [] false w args ∧ laidMetH Tryz.prog Rows.pathHoldsRow.laid w) ∧ sizedMet enc Tryz.prog Tryz.f3 (OpenSpec.ofChange Rows.pathHoldsSpec) false w args)
      (Rows.pathHoldsSpec.post enc Tryz.prog Tryz.f3 false true false false) := by
  refine returnsInHanded_of_change_and (C := Tryz.checked) (X := fun w _ => laidMetH Tryz.prog Rows.pathHoldsRow.laid w) (fun _ _ _ hh h => h.of_heap hh) ownHo started (by kernel_rfl) Tryz.func3
    (ChangeSpec.witness_shaped (enc := enc) (C := Tryz.checked) (os := os) (X := fun w _ => laidMetH Tryz.prog Rows.pathHoldsRow.laid w) false (World.doorLaid Tryz.prog 400 os) #[.agg #[.slice none 0 0, .slice none 0 0], .agg #[.slice none 0 0, .slice none 0 0], .slice none 0 0] 8 rfl (World.shaped_of_RefB (by kernel_rfl) (by kernel_rfl)) (by kernel_rfl) (by kernel_rfl) (by kernel_rfl) (pholds_met os _)) ?_
  intro W base args ds gs before hval0 hW _ hsz0 hL _
  have hval : ∀ (j : Nat) t v, Tryz.f3.params[j]? = some t → args[j]? = some v → Value.okWide Tryz.prog W .any base t v := hval0
  have hW' := hW
  obtain ⟨p, q, hA0, hV, rfl, _, _⟩ := hW
  have hA : DataW.TrodAll enc Tryz.prog W 0 (fun _ => true) true Tryz.f3.params.toList args.toList ds p := hA0
  rw [Tryz.params3] at hA hval
  obtain ⟨v0, v1, v2, d0, d1, d2, p0, p1, p2, rfl, rfl, rfl, h0, h1, h2⟩ := trodAll_three hA
  obtain ⟨rfl, rfl⟩ := trodVars_none hV
  obtain ⟨L, B, hS⟩ := open_schema (hval 0 25 v0 rfl rfl) h0
  obtain ⟨N, T, hG⟩ := open_graphC (hval 1 29 v1 rfl rfl) h1
  obtain ⟨l, hl, zl⟩ := open_path (hval 2 30 v2 rfl rfl) h2
  have hg := pholds_laid hL
  clear hA0 hval0 hsz0
  simp only [List.append_nil] at hW'
  have hlt : ∀ x ∈ p0 ++ (p1 ++ p2), x.block < W.heap.size := fun x hx => hW'.lt x (by simpa using hx)
  have key := pholds_any hS hG hl zl hg
  refine key.mono fun e W' ⟨he, hnx⟩ => ?_
  subst he
  refine ⟨_, rfl, _, _, _, [], _, [], hW', ?_, trodAll_mk3 (Below.trod laidOutC (by kernel_rfl) (of_decide_eq_true (by kernel_rfl)) h0 hnx (fun x hx => hlt x (by simp [hx]))) (Below.trod laidOutC (by kernel_rfl) (of_decide_eq_true (by kernel_rfl)) h1 hnx (fun x hx => hlt x (by simp [hx]))) (Below.trod laidOutC (by kernel_rfl) (of_decide_eq_true (by kernel_rfl)) h2 hnx (fun x hx => hlt x (by simp [hx]))), rfl, hnx.frame _, fun h => by cases h⟩
  exact trodAll_mk1 (shut_bool Tryz.underlying4 true)

theorem pholds_row : Rows.PathHoldsSaid :=
  OpenClaim.holds_of_wide 3 Tryz.f3 rfl rfl rfl rfl rfl rfl rfl ⟨rfl, rfl, rfl, rfl, rfl⟩ rfl rfl rfl rfl rfl (by kernel_rfl) Tryz.func3 (by kernel_rfl)
    (of_decide_eq_true (by kernel_rfl)) (by unfold Func.isWrapper; first | (rw [if_pos (by decide +kernel)]; kernel_rfl) | (rw [if_neg (by decide +kernel)]; exact ⟨rfl, rfl⟩))
    (fun os started H enc _ => pholds_lifted os started H enc)

theorem pathHolds_holds : Rows.PathHoldsCardSaid :=
  Claim7.holds_tied_plain_at .later [] [.handle] true (true, "98f0743ad48abf0a42dc5e94b3828421371628839b5ba35e50bb34f9898e51aa") true
    pholds_row (fun _ h => by cases h) (by kernel_rfl) (fun _ h => by cases h) pathHolds_row_tie rfl ⟨rfl, rfl⟩ (by kernel_rfl) rfl
    (fun f fn hf hfn => by
      obtain rfl : f = 3 := Option.some.inj ((show Tryz.prog.funcNamed "kinshape/kinlaw2.PathHolds" = some 3 by kernel_rfl).symm.trans hf) |>.symm
      obtain rfl : fn = Tryz.f3 := (Option.some.inj (Tryz.func3.symm.trans hfn)).symm
      exact ⟨by kernel_rfl, fun j t ht => by
        rw [Tryz.params3] at ht
        have hm : t ∈ [25, 29, 30] := by simpa using Array.mem_of_getElem? ht
        have hall : ([25, 29, 30].all fun u => !Tryz.prog.wantsStandIn u) = true := by kernel_rfl
        have := List.all_eq_true.1 hall t hm
        exact (show Tryz.prog.wantsStandIn t = false by simpa using this)⟩)
    (by kernel_rfl)
#print axioms pathHolds_holds
end Go.Proofs.YtifcpjimhhpcpaaGreatDoor
