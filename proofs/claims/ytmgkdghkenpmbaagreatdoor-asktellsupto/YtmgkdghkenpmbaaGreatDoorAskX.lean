/-
  Parse and Print in the words of the law AskBack.
-/
import Derived.Test.YtmgkdghkenpmbaaGreatDoorAskW
import Derived.Test.YtmgkdghkenpmbaaGreatDoorAskU
namespace Go.Proofs.YtmgkdghkenpmbaaGreatDoor
open Go.RowKit
set_option linter.unusedVariables false
set_option linter.unusedSimpArgs false

theorem vErr_len {t n : Int} {l : Nm} (h : vErr t n l = 0) : l.length ≤ 20 := by
  rcases vErr_ok h with ⟨_, _, _, rfl⟩ | ⟨_, _, rfl⟩ | ⟨_, _, h, _⟩
  · simp
  · simp
  · exact h
theorem tstOk_len {x : Tst} (h : TstOk x) : x.nm.length ≤ 8 ∧ x.s.length ≤ 20 := by
  refine ⟨name_len h.1, ?_⟩
  rcases how_ok h.2 with ⟨_, _, _, e⟩ | ⟨_, hv⟩
  · rw [e]; simp
  · exact vErr_len hv
theorem stOk_sz {p : St} (h : StOk p) : SpSz p := by
  have h1 := name_len h.1
  have h2 := h.2.1
  have h3 := h.2.2.1
  refine ⟨by unfold maxLen; omega, by unfold maxLen; omega, by unfold maxLen; omega, fun x hx => ?_⟩
  have := tstOk_len (h.2.2.2 x hx)
  exact ⟨by unfold maxLen; omega, by unfold maxLen; omega⟩
theorem askE_sz {M : List Sp} (h : askE (M.map Sp.st) = 0) : (∀ p ∈ M, SpSz p.st) ∧ M.length ≤ maxLen ∧ M.length ≤ 1000 ∧ ∀ p ∈ M, p.st.ts.length ≤ 1000 := by
  obtain ⟨h0, h6, hs⟩ := askE_right h
  have hok := stsP_right hs
  rw [List.length_map] at h6
  refine ⟨fun p hp => stOk_sz (hok _ (List.mem_map_of_mem hp)), by unfold maxLen; omega, by omega, fun p hp => ?_⟩
  have := (hok _ (List.mem_map_of_mem (f := Sp.st) hp)).2.2.1
  omega
theorem askT_len {l : List St} (h : askE l = 0) : (askT l).length ≤ 100000 := by
  obtain ⟨h0, h6, hs⟩ := askE_right h
  have hm := wds_mem (stsP_right hs)
  have := join_le (wds l) 32 1000 hm
  have hl := wds_len l
  have e : (32 : Nat).toUInt8 = (32 : UInt8) := rfl
  rw [e] at this
  have h2 : (1000 + 1) * (wds l).length ≤ (1000 + 1) * 12 := Nat.mul_le_mul_left _ (by omega)
  unfold askT
  omega
/-- Parse, where it answers. -/
theorem parse_good (s : ByteArray) (w : World) (hs : s.size ≤ 140737488355328) (hS : Sg w) (h : paE s.data.toList = 0) :
    Calls Tryz.prog 5 #[.string s] w fun e w' => ∃ (v : Value) (M : List Sp), e = .returned (.tuple #[v, .int .i64 0, .nilIface]) ∧ OwnSp w' w.heap.size v M ∧ ((stepsR true s.data.toList).2 = some (M.map Sp.st) ∧ askE (M.map Sp.st) = 0) ∧ Below w.heap.size w w' := by
  refine (parseP_any s w hs hS).mono ?_
  rintro e w' ⟨⟨v, M, rfl, hO, hy, _⟩, hB⟩
  obtain ⟨l, hl, hM⟩ := hy h
  have h1 : askE (capL l) = 0 := by unfold paE at h; rw [hl] at h; exact h
  have h2 : askE l = 0 := by rw [← cap_err]; exact h1
  have h3 : paAt s.data.toList = 0 := by unfold paAt; rw [hl]
  rw [cap_same h2] at hM
  refine ⟨v, M, ?_, hO, ⟨by rw [hM]; exact hl, by rw [hM]; exact h2⟩, hB⟩
  rw [h, h3]; rfl
/-- Parse, where it does not. -/
theorem parse_wrong (s : ByteArray) (w : World) (hs : s.size ≤ 140737488355328) (hS : Sg w) (h : ¬ paE s.data.toList = 0) :
    Calls Tryz.prog 5 #[.string s] w fun e w' => ∃ v : Value, e = .returned (.tuple #[v, .int .i64 (paAt s.data.toList), .iface 48 (.int .i64 (paE s.data.toList))]) ∧ OwnSp w' w.heap.size v [] ∧ Below w.heap.size w w' := by
  refine (parseP_any s w hs hS).mono ?_
  rintro e w' ⟨⟨v, M, rfl, hO, _, hn⟩, hB⟩
  have hM := hn h
  subst hM
  rw [errV_ne h]; exact ⟨v, rfl, hO, hB⟩
theorem paE_print {l : List St} (h : askE l = 0) : paE (askT l) = 0 := by
  unfold paE; rw [read_print h]
  show askE (capL l) = 0
  rw [cap_err]; exact h
/-- What is printed is read as it was. -/
theorem parse_back {l : List St} (w : World) (hS : Sg w) (h : askE l = 0) :
    Calls Tryz.prog 5 #[.string (bs (askT l))] w fun e w' => ∃ (v : Value) (M : List Sp), e = .returned (.tuple #[v, .int .i64 0, .nilIface]) ∧ OwnSp w' w.heap.size v M ∧ M.map Sp.st = l ∧ Below w.heap.size w w' := by
  have := parse_good (bs (askT l)) w (by rw [bs_size]; have := askT_len h; omega) hS (by rw [bs_data]; exact paE_print h)
  refine this.mono ?_
  rintro e w' ⟨v, M, rfl, hO, ⟨h1, h2⟩, hB⟩
  rw [bs_data, read_print h] at h1
  simp only [Option.some.injEq] at h1
  exact ⟨v, M, rfl, hO, h1.symm, hB⟩
/-- What is read is printed as it was. -/
theorem print_back {s : ByteArray} {v : Value} {M : List Sp} {w : World} {base : Nat} (hO : OwnSp w base v M) (h1 : (stepsR true s.data.toList).2 = some (M.map Sp.st)) (h2 : askE (M.map Sp.st) = 0) (hT : Tab w) (hS : Sg w) :
    Calls Tryz.prog 6 #[v] w fun e w' => e = .returned (.tuple #[.string s, .nilIface]) ∧ Below w.heap.size w w' := by
  obtain ⟨q1, q2, _⟩ := askE_sz h2
  have := print_ok (own_isSp hO) q1 q2 h2 hT hS
  rw [← print_read h1] at this
  have e : bs s.data.toList = s := (list_eq rfl).symm
  rw [e] at this
  exact this
/-- The law's own fact. -/
def factL : List St := [⟨[], false, [97], [⟨[120], 3, 1, 3, []⟩, ⟨[121], 4, 0, 0, []⟩]⟩, ⟨[112], true, [98], []⟩]
theorem fact_ok : askE factL = 0 := by decide
theorem itoa3 : Lib.itoa 3 = [51] := by
  unfold Lib.itoa
  rw [if_neg (by decide), Lib.decDigits_one (by decide)]; rfl
theorem fact_text : askT factL = [97, 91, 120, 60, 51, 44, 121, 93, 32, 60, 45, 112, 45, 32, 98] := by
  have e : tstT ⟨[120], 3, 1, 3, []⟩ = [120, 60, 51] := by
    unfold tstT showL sg; simp [itoa3]
  have e2 : tsT [⟨[120], 3, 1, 3, []⟩, ⟨[121], 4, 0, 0, []⟩] = [91, 120, 60, 51, 44, 121, 93] := by
    rw [tsT_ne (by simp), List.map_cons, List.map_cons, List.map_nil, e, join_two, Lib.join_one]; rfl
  unfold factL
  rw [askT_cons]
  simp only [kdT, restT, e2]
  decide
theorem parse_fact (w : World) (hS : Sg w) :
    Calls Tryz.prog 5 #[.string ⟨#[97, 91, 120, 60, 51, 44, 121, 93, 32, 60, 45, 112, 45, 32, 98]⟩] w fun e w' => (∃ (g c h d : Nat), e = .returned (.tuple #[.slice (some ⟨g, 0, none⟩) 2 c, .int .i64 0, .nilIface]) ∧ w'.cell? ⟨g, 5, none⟩ = some (.bool true) ∧ w'.cell? ⟨g, 4, none⟩ = some (.string ⟨#[112]⟩) ∧ w'.cell? ⟨g, 3, none⟩ = some (.slice (some ⟨h, 0, none⟩) 2 d) ∧ w'.cell? ⟨h, 1, none⟩ = some (.int .i64 3)) ∧ Below w.heap.size w w' := by
  have := parse_back (l := factL) w hS fact_ok
  rw [fact_text] at this
  refine this.mono ?_
  rintro e w' ⟨v, M, rfl, hO, hM, hB⟩
  refine ⟨?_, hB⟩
  have hlen : M.length = 2 := by have := congrArg List.length hM; simpa [factL] using this
  obtain ⟨x, y, rfl⟩ : ∃ x y, M = [x, y] := by
    rcases M with _ | ⟨x, _ | ⟨y, _ | ⟨z, r⟩⟩⟩
    · simp at hlen
    · simp at hlen
    · exact ⟨x, y, rfl⟩
    · simp at hlen
  · simp only [List.map_cons, List.map_nil, factL, List.cons.injEq, and_true] at hM
    obtain ⟨hx, hy⟩ := hM
    have hcs : ∀ g, v.ownBlock = some g → ∀ j u, (cellsS [x, y])[j]? = some u → w'.cell? ((⟨g, 0, none⟩ : Addr).add j) = some u := fun g hg => hO.1.cells hg
    have hts := hO.2 x (by simp)
    rw [hx] at hts
    have hct : ∀ g, x.vt.ownBlock = some g → ∀ j u, (cellsT [⟨[120], 3, 1, 3, []⟩, ⟨[121], 4, 0, 0, []⟩])[j]? = some u → w'.cell? ((⟨g, 0, none⟩ : Addr).add j) = some u := fun g hg => hts.cells hg
    rcases hO.1.2 with ⟨_, h0⟩ | ⟨g, cap, cur, rfl, _⟩
    · simp at h0
    rcases hts.2 with ⟨_, h0⟩ | ⟨h, d, cur', hv, _⟩
    · simp at h0
    have a3 := hcs g rfl 3 x.vt rfl
    have a4 := hcs g rfl 4 (.string (bs y.st.bd)) rfl
    have a5 := hcs g rfl 5 (.bool y.st.back) rfl
    have b1 := hct h (by rw [hv]; rfl) 1 (.int .i64 3) rfl
    rw [Addr.add_lit] at a3 a4 a5 b1
    rw [hy] at a4 a5
    rw [hv] at a3
    exact ⟨g, cap, h, d, rfl, a5, a4, a3, b1⟩
end Go.Proofs.YtmgkdghkenpmbaaGreatDoor
