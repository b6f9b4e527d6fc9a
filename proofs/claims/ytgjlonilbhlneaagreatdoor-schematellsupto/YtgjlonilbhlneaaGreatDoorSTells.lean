/-
  The law SchemaTells of the program returns true, where what comes in is of bulk at most 1048576: what of any schema is wrong, any as text, any text as one, any bond, and which go out of any kind, are what the document's answer tells. The row, and its tied card.
-/
import Derived.Test.YtgjlonilbhlneaaGreatDoorM12
import Derived.Test.YtgjlonilbhlneaaGreatDoorM43
import Derived.Test.YtgjlonilbhlneaaGreatDoorM44
import Derived.Test.YtgjlonilbhlneaaGreatDoorM45
import Derived.Test.YtgjlonilbhlneaaGreatDoorCards
import Derived.Test.YtgjlonilbhlneaaGreatDoorTie
import Derived.ProofKit
import Derived.LaidMore
import Derived.Stop.Joined
import Derived.Lib.SmallJoins
import Derived.Carry
import Derived.SevenTiedAt
import Derived.LaidHandle
import Derived.JoinedCond
import Derived.Deep.DeepHandedRow
import Derived.Deep.DeepWitnessRowRef
namespace Go.Proofs.YtgjlonilbhlneaaGreatDoor
open Go.ChangeShapes Go.WideShapes Go.ChangeAt Go.RowKit Go.Joins Go.Deep
open Go.ChangeMaps (open_string shut_string)
set_option linter.unusedVariables false
set_option linter.unusedSimpArgs false

theorem tells_any {vk vb : Value} {L : List Kd} {B : List Bd} {t s : Nm} {w : World} (hK : IsK w vk L) (hP : Parts w L) (hz : SzK L) (hb : IsB w vb B) (hzb : SzB B) (ht : t.length ≤ 10000000) (hE : EV w) (hH : Hnd w) :
    Calls Tryz.prog 3 #[.agg #[vk, vb], .string (bs t), .string (bs s)] w fun e w' => e = .returned (.bool true) ∧ Below w.heap.size w w' := by
  by_cases hse : (sErr L B).2 = 0
  · rcases idxB_spec s B 0 with hb1 | ⟨j, x, hb1, hb2, _⟩
    · rcases idxK_spec s L 0 with hk1 | ⟨i, q, hk1, hk2, hk3⟩
      · exact tells_g00 hK hP hz hb hzb ht hE hH hse hb1 hk1
      · exact tells_g01 hK hP hz hb hzb ht hE hH hse hb1 (by rw [hk1, Nat.zero_add]) hk2 hk3
    · rcases idxK_spec s L 0 with hk1 | ⟨i, q, hk1, hk2, hk3⟩
      · exact tells_g10 hK hP hz hb hzb ht hE hH hse (by rw [hb1, Nat.zero_add]) hb2 hk1
      · exact tells_g11 hK hP hz hb hzb ht hE hH hse (by rw [hb1, Nat.zero_add]) hb2 (by rw [hk1, Nat.zero_add]) hk2 hk3
  · exact tells_bad hK hP hz hb hzb ht hE hH hse

theorem tell_met (os : Os) (args : Array Value) : laidMetH Tryz.prog Rows.schemaTellsUptoRow.laid (World.forCall ({ World.doorLaid Tryz.prog 400 os with heap := (World.doorLaid Tryz.prog 400 os).heap.modify 4 fun | .cells _ t frozen => .cells (Go.Pinned.utf8FirstZ.map fun (n : Nat) => Value.int .u8 (n : Int)).toArray t frozen | o => o }) (fun _ _ => 0) ⟨#[], args, []⟩).memory :=
  laidMetH_of_parts3 (fuel := 8) (laidMet_of_run' 8 (by kernel_rfl) (by kernel_rfl)) (by kernel_rfl) (by kernel_rfl)
theorem esNamed : Tryz.prog.globalNamed "strconv.ErrSyntax" = some 6 := by kernel_rfl
theorem esType : (Tryz.prog.globals[6]?).map (·.type) = some 29 := by kernel_rfl
theorem erNamed : Tryz.prog.globalNamed "strconv.ErrRange" = some 7 := by kernel_rfl
theorem erType : (Tryz.prog.globals[7]?).map (·.type) = some 29 := by kernel_rfl
theorem iface_of {H : Type} {enc : TypeId × Value → H} {w : World} {base : Nat} {sp : Nat → Bool} {held : Bool} {fuel : Nat} {cs : List Value} {n : String} {d : DataW H} {p : List MemPlace} (h : DataW.trod enc Tryz.prog w base sp held fuel 29 cs = some (.iface n d, p)) : ∃ te pe, cs[0]? = some (.iface te pe) := by
  cases fuel with
  | zero => simp [DataW.trod] at h
  | succ fuel =>
    simp only [DataW.trod, Tryz.underlying29] at h
    split at h <;> (try (rename_i heq; cases heq; done))
    all_goals first | exact ⟨_, _, rfl⟩ | (simp at h; done) | cases h
theorem mxInt {W : World} (h : W.ShapedOpen Tryz.prog) : ∃ m, W.cell? ⟨2, 0, none⟩ = some (.int .i64 m) :=
  Go.Proofs.cell_of_shapedOpen_int (zero := #[.int .i64 0]) (t := 3) h (of_decide_eq_true (by kernel_rfl)) (by kernel_rfl) rfl (by kernel_rfl) (by kernel_rfl) Tryz.underlying3
theorem es_of {W : World} {rest : List (String × DataW Unit)} (h : laidMet Tryz.prog (("strconv.ErrSyntax", Rows.laid_strconv_ErrSyntax) :: rest) W) : ∃ te pe, W.cell? ⟨6, 0, none⟩ = some (.iface te pe) := by
  obtain ⟨ps, ⟨g', t', cs, fuel, p, q, hg', ht', hvar, hd, _, _⟩, _⟩ := h
  obtain rfl := Option.some.inj (esNamed.symm.trans hg')
  obtain rfl := Option.some.inj (esType.symm.trans ht')
  obtain ⟨te, pe, e⟩ := iface_of hd
  have := World.var?_cell esNamed hvar 0
  rw [this]
  exact ⟨te, pe, by simpa using e⟩
theorem er_of {W : World} {rest : List (String × DataW Unit)} (h : laidMet Tryz.prog (("strconv.ErrRange", Rows.laid_strconv_ErrRange) :: rest) W) : ∃ te pe, W.cell? ⟨7, 0, none⟩ = some (.iface te pe) := by
  obtain ⟨ps, ⟨g', t', cs, fuel, p, q, hg', ht', hvar, hd, _, _⟩, _⟩ := h
  obtain rfl := Option.some.inj (erNamed.symm.trans hg')
  obtain rfl := Option.some.inj (erType.symm.trans ht')
  obtain ⟨te, pe, e⟩ := iface_of hd
  have := World.var?_cell erNamed hvar 0
  rw [this]
  exact ⟨te, pe, by simpa using e⟩
theorem t0_of {W : World} {rest : List (String × DataW Unit)} (h : laidMet Tryz.prog (("kinshape/schema.typeWords", Rows.laid_kinshape_schema_typeWords) :: rest) W) : W.cell? ⟨1, 0, none⟩ = some (.string ⟨#[]⟩) := by
  obtain ⟨ps, ⟨g', t', cs, fuel, p, q, hg', ht', hvar, hd, _, _⟩, _⟩ := h
  obtain rfl := Option.some.inj (twNamed.symm.trans hg')
  obtain rfl := Option.some.inj (twType.symm.trans ht')
  have hw := cells_words (ls := [[], [105, 110, 116], [98, 111, 111, 108], [116, 101, 120, 116]]) hd
  have := World.var?_cell twNamed hvar 0
  rw [this]; simpa [bs] using hw 0 _ (by omega) rfl
theorem etNamed : Tryz.prog.globalNamed "errors.errorType" = some 0 := by kernel_rfl
theorem rtNamed : (Tryz.prog.cutTypes.find? (·.1 == "internal/reflectlite.rtype")).map (·.2) = some 157 := by kernel_rfl
theorem oneRow : ((List.range 255).filter fun t => Tryz.prog.rowNamed t [101, 114, 114, 111, 114]) = [29] := by kernel_rfl
theorem typesSize : Tryz.prog.types.size = 255 := by kernel_rfl
theorem tell_laid {W : World} (h : laidMetH Tryz.prog Rows.schemaTellsUptoRow.laid W) (hs : W.ShapedOpen Tryz.prog) : EV W ∧ Hnd W := by
  have h1 : laidMet Tryz.prog [("math/bits.deBruijn32tab", Rows.laid_math_bits_deBruijn32tab), ("math/bits.deBruijn64tab", Rows.laid_math_bits_deBruijn64tab), ("internal/strconv.uint64pow10", Rows.laid_internal_strconv_uint64pow10), ("unicode/utf8.acceptRanges", Rows.laid_unicode_utf8_acceptRanges), ("strconv.ErrRange", Rows.laid_strconv_ErrRange), ("strconv.ErrSyntax", Rows.laid_strconv_ErrSyntax), ("kinshape/schema.typeWords", Rows.laid_kinshape_schema_typeWords), ("unicode/utf8.first", Rows.laid_unicode_utf8_first)] W := h.1
  have h2 := h1.tail.tail.tail.tail
  refine ⟨⟨tw_of h2.tail.tail, t0_of h2.tail.tail, mxInt hs, es_of h2.tail, er_of h2⟩, ?_⟩
  have h3 : handlesMet Tryz.prog [("errors.errorType", Rows.laid_errors_errorType)] W := h.2
  obtain ⟨name, u, ty, e1, e2, e3, e4, e5⟩ := h3 _ (List.mem_singleton.2 rfl)
  have en : name = [101, 114, 114, 111, 114] := (Option.some.inj e1).symm
  subst en
  obtain rfl := Option.some.inj (rtNamed.symm.trans e2)
  have hm : ty ∈ (List.range 255).filter fun t => Tryz.prog.rowNamed t [101, 114, 114, 111, 114] := List.mem_filter.2 ⟨List.mem_range.2 (by rw [← typesSize]; exact e3), e4⟩
  rw [oneRow] at hm
  obtain rfl := List.mem_singleton.1 hm
  have hh : typeHandle Tryz.prog 29 = .pointer (some ⟨10, 29, none⟩) := by kernel_rfl
  rw [hh] at e5
  have := World.var?_cell etNamed e5 0
  simpa using this
theorem bound {H : Type} {l : List (DataW H)} (hk : Rows.uptoSmall H l = true) : Rows.uptoBulkAll l ≤ 1048576 := of_decide_eq_true hk
theorem short {H : Type} {d c : DataW H} {s : List UInt8} (hk : Rows.uptoSmall H [d, .lit (.string s), c] = true) : s.length ≤ 10000000 := by
  have h := bound hk
  simp only [Rows.uptoBulkAll, Rows.uptoBulk] at h
  omega

set_option maxRecDepth 100000 in
theorem tell_lifted (os : Os) (started : os.Started) (H : Type) (enc : TypeId × Value → H) (F : Stop.Interp) :
    ReturnsInHanded {} Tryz.checked os 3 .any ((Rows.OpenSpec.upto Rows.schemaTellsSpec).preRow enc Tryz.prog Tryz.f3 Rows.schemaTellsUptoRow.domain false Rows.schemaTellsUptoRow.laid) (((Rows.OpenSpec.upto Rows.schemaTellsSpec).at F).post enc Tryz.prog Tryz.f3 false true false false) := by
  have hx : DataW.whole enc Tryz.prog (World.forCall ({ World.doorLaid Tryz.prog 400 os with heap := (World.doorLaid Tryz.prog 400 os).heap.modify 4 fun | .cells _ t frozen => .cells (Go.Pinned.utf8FirstZ.map fun (n : Nat) => Value.int .u8 (n : Int)).toArray t frozen | o => o }) (fun _ _ => 0) ⟨#[], #[.agg #[.slice none 0 0, .slice none 0 0], .string ⟨#[]⟩, .string ⟨#[]⟩], []⟩).memory Tryz.f3.params.toList Rows.schemaTellsSpec.vars false #[Value.agg #[.slice none 0 0, .slice none 0 0], .string ⟨#[]⟩, .string ⟨#[]⟩].toList 8 = some ([.agg [.nil, .nil], .lit (.string []), .lit (.string [])], [], []) := by kernel_rfl
  refine returnsInHanded_of_row (C := Tryz.checked) (s := Rows.OpenSpec.upto Rows.schemaTellsSpec) own started (by kernel_rfl) Tryz.func3
    (witness_row_atRef (enc := enc) (C := Tryz.checked) false ({ World.doorLaid Tryz.prog 400 os with heap := (World.doorLaid Tryz.prog 400 os).heap.modify 4 fun | .cells _ t frozen => .cells (Go.Pinned.utf8FirstZ.map fun (n : Nat) => Value.int .u8 (n : Int)).toArray t frozen | o => o }) #[.agg #[.slice none 0 0, .slice none 0 0], .string ⟨#[]⟩, .string ⟨#[]⟩] rfl (by kernel_rfl) (by kernel_rfl) (by kernel_rfl)
      (OpenSpec.preRow_of_cond 8 hx (by kernel_rfl) (fun k hk => by cases hk; kernel_rfl) (by kernel_rfl) (tell_met os _))) ?_
  intro W base args ds gs before hval0 hW _ hcond _ hL hSh _
  have hval : ∀ (j : Nat) t v, Tryz.f3.params[j]? = some t → args[j]? = some v → Value.okWide Tryz.prog W .any base t v := hval0
  have hW' := hW
  obtain ⟨p, q, hA0, hV, rfl, _, _⟩ := hW
  have hA : DataW.TrodAll enc Tryz.prog W 0 (fun _ => true) true Tryz.f3.params.toList args.toList ds p := hA0
  rw [Tryz.params3] at hA hval
  obtain ⟨v0, v1, v2, d0, d1, d2, p0, p1, p2, rfl, rfl, rfl, h0, h1, h2⟩ := trodAll_three hA
  obtain ⟨rfl, rfl⟩ := trodVars_none hV
  obtain ⟨vk, vb, L, B, rfl, hK, hP, hz, hb, hzb⟩ := open_schema (hval 0 25 v0 rfl rfl) h0
  obtain ⟨t, rfl, rfl, rfl, ht⟩ := open_string Tryz.underlying9 (hval 1 9 v1 rfl rfl) h1
  obtain ⟨s, rfl, rfl, rfl, hs⟩ := open_string Tryz.underlying9 (hval 2 9 v2 rfl rfl) h2
  obtain ⟨hEV, hHn⟩ := tell_laid hL hSh
  have hk := hcond _ rfl
  simp only [List.append_nil] at hW' hk
  have hlen := short hk
  clear hA0 hval0 hcond
  have hlt : ∀ x ∈ p0, x.block < W.heap.size := fun x hx => hW'.lt x (by simpa using hx)
  have hw := tells_any (s := s.data.toList) hK hP hz hb hzb hlen hEV hHn
  rw [show bs t.data.toList = t from rfl, show bs s.data.toList = s from rfl] at hw
  refine hw.mono fun e W' ⟨he, hnx⟩ => ?_
  subst he
  refine ⟨_, rfl, _, _, _, [], _, [], hW', ?_, trodAll_mk3 (Below.trod laidOut (by kernel_rfl) (of_decide_eq_true (by kernel_rfl)) h0 hnx (fun x hx => hlt x hx)) (shut_string Tryz.underlying9 ht) (shut_string Tryz.underlying9 hs), rfl, hnx.frame _, fun h => by cases h⟩
  exact trodAll_mk1 (shut_bool Tryz.underlying4 true)

theorem tell_row : Rows.SchemaTellsUptoSaid :=
  OpenClaim.holds_of_cond 3 Tryz.f3 rfl rfl rfl rfl rfl rfl rfl ⟨rfl, rfl, rfl, rfl, rfl⟩ rfl rfl rfl rfl rfl (by kernel_rfl) Tryz.func3 (by kernel_rfl)
    (of_decide_eq_true (by kernel_rfl)) (by unfold Func.isWrapper; first | (rw [if_pos (by decide +kernel)]; kernel_rfl) | (rw [if_neg (by decide +kernel)]; exact ⟨rfl, rfl⟩))
    (fun os started H enc _ F => by rw [OpenClaim.pre_eq_preRow]; exact tell_lifted os started H enc F)
theorem tell_plain (f : FuncId) (fn : Func) (hf : Tryz.pinned.checked.prog.funcNamed "kinshape/kinlaw1.SchemaTells" = some f) (hfn : Tryz.pinned.checked.prog.funcs[f]? = some fn) :
    true = Tryz.pinned.checked.prog.looks [] ∧ ∀ (j : Nat) t, fn.params[j]? = some t → Tryz.pinned.checked.prog.wantsStandIn t = false := by
  obtain rfl : f = 3 := Option.some.inj ((show Tryz.prog.funcNamed "kinshape/kinlaw1.SchemaTells" = some 3 by kernel_rfl).symm.trans hf) |>.symm
  obtain rfl : fn = Tryz.f3 := (Option.some.inj (Tryz.func3.symm.trans hfn)).symm
  refine ⟨by kernel_rfl, fun j t ht => ?_⟩
  rw [Tryz.params3] at ht
  have hm : t ∈ [25, 9, 9] := by simpa using Array.mem_of_getElem? ht
  have hall : ([25, 9, 9].all fun u => !Tryz.prog.wantsStandIn u) = true := by kernel_rfl
  have := List.all_eq_true.1 hall t hm
  exact (show Tryz.prog.wantsStandIn t = false by simpa using this)
theorem schemaTells_holds : Rows.SchemaTellsUptoCardSaid :=
  Claim7.holds_tied_plain_at .later [] _ _ _ _ tell_row (fun _ h => by cases h) (by kernel_rfl) (fun _ h => by cases h) schemaTellsUpto_row_tie rfl ⟨rfl, rfl⟩ (by kernel_rfl) rfl tell_plain (by kernel_rfl)
#print axioms schemaTells_holds
end Go.Proofs.YtgjlonilbhlneaaGreatDoor
