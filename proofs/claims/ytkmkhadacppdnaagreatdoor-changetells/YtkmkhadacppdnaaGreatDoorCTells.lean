/-
  The law ChangeTells of the program returns true at every input: one change, the kinds that it reaches, and a row of changes tell and leave what the document's own program tells and leaves. The row, and its tied card.
-/
import Derived.Test.YtkmkhadacppdnaaGreatDoorRows
import Derived.Test.YtkmkhadacppdnaaGreatDoorCards
import Derived.Test.YtkmkhadacppdnaaGreatDoorTie
import Derived.Test.YtkmkhadacppdnaaGreatDoorM45
import Derived.Test.YtkmkhadacppdnaaGreatDoorM46
import Derived.Test.YtkmkhadacppdnaaGreatDoorM47
import Derived.Test.YtkmkhadacppdnaaGreatDoorM48
import Derived.ProofKit
import Derived.LaidMore
import Derived.OpenShut
import Derived.ShutString
import Derived.ChangeMaps5
import Derived.Stop.Joined
import Derived.Stop.LaidErr
import Derived.Lib.SmallJoins
import Derived.Carry
import Derived.SizedLaws
import Derived.MakeChecks
import Derived.SevenTiedAt
import Derived.LaidHandle
import Derived.Deep.Slices
import Derived.Deep.Strs
namespace Go.Proofs.YtkmkhadacppdnaaGreatDoor
open Go.ChangeShapes Go.WideShapes Go.ChangeAt Go.RowKit Go.Joins Go.Deep
open Go.ChangeMaps (open_string shut_string)
set_option linter.unusedVariables false
set_option linter.unusedSimpArgs false

/-- The law at every input. -/
theorem ctells_any {w : World} {vk vb vl : Value} {L : List Kd} {B : List Bd} {l : List Ch} (c : Ch) (hK : IsK w vk L) (hP : Parts w L) (hz : SzK L) (hb : IsB w vb B) (hzb : SzB B) (hc : ChIs w c) (hcz : ChSz c) (hl : IsC w vl l) (hlz : ∀ c ∈ l, ChSz c) (hg : Hnd w) :
    Calls Tryz.prog 3 #[.agg #[vk, vb], c.one, vl] w fun e w' => e = .returned (.bool true) ∧ Below w.heap.size w w' := by
  by_cases hE : (sErr L B).2 = 0
  · by_cases hD : doE L B c = 0
    · exact ctells_c c hK hP hz hb hzb hc hcz hl hlz hg hE hD
    · exact ctells_b c hK hP hz hb hzb hc hcz hl hlz hg hE hD
  · exact ctells_a c hK hP hz hb hzb hc hcz hl hlz hg hE

theorem ownHo : ownKnob Tryz.prog.godebug = none := by kernel_rfl
/-- The door's own heap meets the condition. -/
theorem ctells_met (os : Os) (args : Array Value) : laidMetH Tryz.prog Rows.changeTellsRow.laid ((World.doorLaid Tryz.prog 400 os).forCall (fun _ _ => 0) ⟨#[], args, []⟩).memory :=
  laidMetH_of_parts3 (fuel := 8) (laidMet_of_run' 8 (by kernel_rfl) (by kernel_rfl)) (by kernel_rfl) (by kernel_rfl)

theorem etNamedH : Tryz.prog.globalNamed "errors.errorType" = some 0 := by kernel_rfl
theorem rtNamedH : (Tryz.prog.cutTypes.find? (·.1 == "internal/reflectlite.rtype")).map (·.2) = some 109 := by kernel_rfl
theorem oneRowH : ((List.range 184).filter fun t => Tryz.prog.rowNamed t [101, 114, 114, 111, 114]) = [43] := by kernel_rfl
theorem typesSizeH : Tryz.prog.types.size = 184 := by kernel_rfl
/-- What the condition gives: the handle of the type 'error'. -/
theorem ctells_laid {W : World} (h : laidMetH Tryz.prog Rows.changeTellsRow.laid W) : Hnd W := by
  have h2 : handlesMet Tryz.prog [("errors.errorType", Rows.laid_errors_errorType)] W := h.2
  obtain ⟨name, u, ty, e1, e2, e3, e4, e5⟩ := h2 _ (List.mem_singleton.2 rfl)
  have en : name = [101, 114, 114, 111, 114] := (Option.some.inj e1).symm
  subst en
  obtain rfl := Option.some.inj (rtNamedH.symm.trans e2)
  have hm : ty ∈ (List.range 184).filter fun t => Tryz.prog.rowNamed t [101, 114, 114, 111, 114] := List.mem_filter.2 ⟨List.mem_range.2 (by rw [← typesSizeH]; exact e3), e4⟩
  rw [oneRowH] at hm
  obtain rfl := List.mem_singleton.1 hm
  have hh : typeHandle Tryz.prog 43 = .pointer (some ⟨2, 43, none⟩) := by kernel_rfl
  rw [hh] at e5
  have := World.var?_cell etNamedH e5 0
  simpa using this

set_option maxRecDepth 100000 in
theorem ctells_lifted (os : Os) (started : os.Started) (H : Type) (enc : TypeId × Value → H) :
    ReturnsInHanded {} Tryz.checked os 3 .any (fun w args => (Rows.changeTellsSpec.pre enc Tryz.prog Tryz.f3 [] false w args ∧ laidMetH Tryz.prog Rows.changeTellsRow.laid w) ∧ sizedMet enc Tryz.prog Tryz.f3 (OpenSpec.ofChange Rows.changeTellsSpec) false w args)
      (Rows.changeTellsSpec.post enc Tryz.prog Tryz.f3 false true false false) := by
  refine returnsInHanded_of_change_and (C := Tryz.checked) (X := fun w _ => laidMetH Tryz.prog Rows.changeTellsRow.laid w) (fun _ _ _ hh h => h.of_heap hh) ownHo started (by kernel_rfl) Tryz.func3
    (ChangeSpec.witness_shaped (enc := enc) (C := Tryz.checked) (os := os) (X := fun w _ => laidMetH Tryz.prog Rows.changeTellsRow.laid w) false (World.doorLaid Tryz.prog 400 os) #[.agg #[.slice none 0 0, .slice none 0 0], .agg #[.int .i64 0, .string ⟨#[]⟩, .string ⟨#[]⟩, .slice none 0 0, .slice none 0 0, .string ⟨#[]⟩, .string ⟨#[]⟩, .string ⟨#[]⟩, .int .i64 0, .int .i64 0, .string ⟨#[]⟩, .int .i64 0, .bool false, .bool false, .int .i64 0, .int .i64 0, .string ⟨#[]⟩, .string ⟨#[]⟩], .slice none 0 0] 8 rfl (World.shaped_of_RefB (by kernel_rfl) (by kernel_rfl)) (by kernel_rfl) (by kernel_rfl) (by kernel_rfl) (ctells_met os _)) ?_
  intro W base args ds gs before hval0 hW _ hsz0 hL _
  have hval : ∀ (j : Nat) t v, Tryz.f3.params[j]? = some t → args[j]? = some v → Value.okWide Tryz.prog W .any base t v := hval0
  have hsz : (DataW.weightsEach Tryz.prog (Tryz.f3.params.toList ++ Rows.changeTellsSpec.plain.varTypes Tryz.prog) (ds ++ gs)).all (· ≤ reachBytes) = true := hsz0
  have hW' := hW
  obtain ⟨p, q, hA0, hV, rfl, _, _⟩ := hW
  have hA : DataW.TrodAll enc Tryz.prog W 0 (fun _ => true) true Tryz.f3.params.toList args.toList ds p := hA0
  rw [Tryz.params3] at hA hval hsz
  obtain ⟨v0, v1, v2, d0, d1, d2, p0, p1, p2, rfl, rfl, rfl, h0, h1, h2⟩ := trodAll_three hA
  obtain ⟨rfl, rfl⟩ := trodVars_none hV
  obtain ⟨L, B, vk, vb, rfl, hK, hP, hz, hb, hzb⟩ := open_schema (hval 0 25 v0 rfl rfl) h0
  obtain ⟨c, rfl, hc, hcz⟩ := open_change (hval 1 37 v1 rfl rfl) h1 (fun k hk => by
    have := List.all_eq_true.1 hsz k (DataW.weights_mem_each (j := 1) (t := 37) rfl rfl k hk)
    simpa using this)
  obtain ⟨l, hl, hlz⟩ := open_changes (hval 2 38 v2 rfl rfl) h2 (fun k hk => by
    have := List.all_eq_true.1 hsz k (DataW.weights_mem_each (j := 2) (t := 38) rfl rfl k hk)
    simpa using this)
  have hg := ctells_laid hL
  clear hA0 hval0 hsz0 hsz
  simp only [List.append_nil] at hW'
  have hlt : ∀ x ∈ p0 ++ (p1 ++ p2), x.block < W.heap.size := fun x hx => hW'.lt x (by simpa using hx)
  have key := ctells_any c hK hP hz hb hzb hc hcz hl hlz hg
  refine key.mono fun e W' ⟨he, hnx⟩ => ?_
  subst he
  refine ⟨_, rfl, _, _, _, [], _, [], hW', ?_, trodAll_mk3 (Below.trod laidOut (by kernel_rfl) (of_decide_eq_true (by kernel_rfl)) h0 hnx (fun x hx => hlt x (by simp [hx]))) (Below.trod laidOut (by kernel_rfl) (of_decide_eq_true (by kernel_rfl)) h1 hnx (fun x hx => hlt x (by simp [hx]))) (Below.trod laidOut (by kernel_rfl) (of_decide_eq_true (by kernel_rfl)) h2 hnx (fun x hx => hlt x (by simp [hx]))), rfl, hnx.frame _, fun h => by cases h⟩
  exact trodAll_mk1 (shut_bool Tryz.underlying4 true)

theorem ctells_row : Rows.ChangeTellsSaid :=
  OpenClaim.holds_of_wide 3 Tryz.f3 rfl rfl rfl rfl rfl rfl rfl ⟨rfl, rfl, rfl, rfl, rfl⟩ rfl rfl rfl rfl rfl (by kernel_rfl) Tryz.func3 (by kernel_rfl)
    (of_decide_eq_true (by kernel_rfl)) (by unfold Func.isWrapper; first | (rw [if_pos (by decide +kernel)]; kernel_rfl) | (rw [if_neg (by decide +kernel)]; exact ⟨rfl, rfl⟩))
    (fun os started H enc _ => ctells_lifted os started H enc)

theorem changeTells_holds : Rows.ChangeTellsCardSaid :=
  Claim7.holds_tied_plain_at .later [] [.handle] true (true, "d005d796e216e904cf7848264b741b58ed0faf97f3c163281e5aabfb6b3da349") true
    ctells_row (fun _ h => by cases h) (by kernel_rfl) (fun _ h => by cases h) changeTells_row_tie rfl ⟨rfl, rfl⟩ (by kernel_rfl) rfl
    (fun f fn hf hfn => by
      obtain rfl : f = 3 := Option.some.inj ((show Tryz.prog.funcNamed "kinshape/kinlaw2.ChangeTells" = some 3 by kernel_rfl).symm.trans hf) |>.symm
      obtain rfl : fn = Tryz.f3 := (Option.some.inj (Tryz.func3.symm.trans hfn)).symm
      exact ⟨by kernel_rfl, fun j t ht => by
        rw [Tryz.params3] at ht
        have hm : t ∈ [25, 37, 38] := by simpa using Array.mem_of_getElem? ht
        have hall : ([25, 37, 38].all fun u => !Tryz.prog.wantsStandIn u) = true := by kernel_rfl
        have := List.all_eq_true.1 hall t hm
        exact (show Tryz.prog.wantsStandIn t = false by simpa using this)⟩)
    (by kernel_rfl)
#print axioms changeTells_holds
end Go.Proofs.YtkmkhadacppdnaaGreatDoor
