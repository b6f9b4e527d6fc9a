/-
  The walks of lines.Number and lines.Made.
-/
import Derived.Test.YteabdlandbmdaaaDoorM08
import Derived.Laws.Concat
import Derived.Test.YteabdlandbmdaaaDoorM02
namespace Go.Proofs.YteabdlandbmdaaaDoor
open Go.RowKit
set_option linter.unusedVariables false
set_option linter.unusedSimpArgs false
theorem join4 (a b c d : Nm) : Lib.join [a, b, c, d] [32] = j4 a b c d := by
  unfold Lib.join j4
  simp [List.intercalate_cons_cons]
def W4 (w : World) (g : Nat) (a b c d : Nm) : Prop := g < w.heap.size ∧ w.cell? ⟨g, 0, none⟩ = some (.string (bs a)) ∧ w.cell? ⟨g, 1, none⟩ = some (.string (bs b)) ∧ w.cell? ⟨g, 2, none⟩ = some (.string (bs c)) ∧ w.cell? ⟨g, 3, none⟩ = some (.string (bs d))
set_option maxHeartbeats 4000000 in
set_option maxRecDepth 100000 in
theorem made_any {w : World} {g : Nat} {a b c d : Nm} (h : W4 w g a b c d) (hl : (j4 a b c d).length ≤ 1000000) :
    Calls Tryd.prog 9 #[.slice (some ⟨g, 0, none⟩) 4 4] w fun e w' => e = .returned (.string (bs (j4 a b c d ++ [10]))) ∧ Below w.heap.size w w' := by
  obtain ⟨hg, c0, c1, c2, c3⟩ := h
  have cj := Tryd.strings_Join g 0 4 [bs a, bs b, bs c, bs d] ⟨#[32]⟩ w (fun j x hx => by
    rw [Nat.zero_add]
    match j, hx with
    | 0, hx => injection hx with hx; rw [← hx]; exact c0
    | 1, hx => injection hx with hx; rw [← hx]; exact c1
    | 2, hx => injection hx with hx; rw [← hx]; exact c2
    | 3, hx => injection hx with hx; rw [← hx]; exact c3) hg (by simp) (by simp) (by
      simp only [List.map_cons, List.map_nil, bs_data]
      show (Lib.join [a, b, c, d] [32]).length ≤ _
      rw [join4]; omega)
  simp only [List.map_cons, List.map_nil, bs_data] at cj
  rw [join4] at cj
  have cj2 : Calls Tryd.prog 17 #[.slice (some ⟨g, 0, none⟩) 4 4, .string ⟨#[32]⟩] w fun e w' => e = .returned (.string (bs (j4 a b c d))) ∧ Below w.heap.size w w' := cj
  have a1 : ∀ w, (Op.stringOp .add (bs (j4 a b c d)) ⟨#[10]⟩).run Tryd.prog w = .ok (.string (bs (j4 a b c d ++ [10]))) w := fun w => run_string_add_lists w (j4 a b c d) [10] (by omega) (by simp)
  generalize j4 a b c d = J at cj2 a1 ⊢
  clear cj c0 c1 c2 c3
  obtain ⟨J2, hJ2⟩ : ∃ x, x = J ++ [10] := ⟨_, rfl⟩
  rw [← hJ2] at a1 ⊢
  clear hJ2
  go_enter Tryd.func9, Tryd.ntmps9
  go_wp2_with (go_at_call 17; refine cj2.mono ?_; rintro e W1 ⟨rfl, hB1⟩)
  go_ret
  exact ⟨rfl, hB1⟩
end Go.Proofs.YteabdlandbmdaaaDoor


/-
  strings.Builder's WriteString; record.Print at any record; strconv.Itoa.
-/
namespace Go.Proofs.YteabdlandbmdaaaDoor
open Go.Shelf Go.RowKit
set_option linter.unusedVariables false
set_option linter.unusedSimpArgs false

set_option maxHeartbeats 2000000 in
set_option maxRecDepth 100000 in
theorem writeString_k (B b : Nat) (bs : List Value) (s : ByteArray) (w : World) (h : Lib.IsBuilderF 36 5 B b bs w) (hlen : bs.length + s.size ≤ 140737488355328) (hBw : B ≤ w.heap.size) :
    Calls Tryd.prog 8 #[.pointer (some ⟨b, 0, none⟩), .string s] w fun e w' => e = .returned (.tuple #[.int .i64 s.size, .nilIface]) ∧ (Lib.BuilderAtF 36 5 B b (.pointer (some ⟨b, 0, none⟩)) (bs ++ Lib.strCells s) w' ∧ Below B w w' ∧ Lib.OthersKept 5 (some b) w w') := by
  obtain ⟨i0, hi, hz0, hz1, hz2⟩ := info_parts Tryd.infoByte
  go_enter Tryd.func8, Tryd.ntmps8
  go_wp2_with (go_at_call 18; refine (copyCheck_k B b bs _ h).mono ?_)
  rintro e w1 ⟨rfl, h1, hb1, hk1⟩
  obtain ⟨hB, v, hbk, hown, hne⟩ := h1
  have c0 : w1.cell? ⟨b, 0, none⟩ = some (.pointer (some ⟨b, 0, none⟩)) := by rw [Lib.cell_of_heap hbk]; rfl
  have c1 : w1.cell? ⟨b, 1, none⟩ = some v := by rw [Lib.cell_of_heap hbk]; rfl
  go_wp2_with (at_builtin; refine Lib.wpList_append_own_stringF _ rfl _ _ 34 9 rfl B 5 i0 Tryd.underlying34 Tryd.underlying9 hi hz0 hz1 hz2 _ _ _ rfl hown s rfl ?c3 ?c4 ?c5 ?_)
  case c3 => unfold maxLen; omega
  case c4 => omega
  case c5 => have := hb1.size; omega
  intro v' w2 hown' hgrow _
  have hlt : b < w1.heap.size := by
    rcases Nat.lt_or_ge b w1.heap.size with h' | h'
    · exact h'
    · simp [Array.getElem?_eq_none h'] at hbk
  have hb2 : w2.heap[b]? = some (.cells #[.pointer (some ⟨b, 0, none⟩), v] 36 (0, 0)) := by
    rw [hgrow.block b hlt (fun e => hne e.symm)]
    exact hbk
  have d0 : w2.cell? ⟨b, 0, none⟩ = some (.pointer (some ⟨b, 0, none⟩)) := by rw [Lib.cell_of_heap hb2]; rfl
  have d1 : w2.cell? ⟨b, 1, none⟩ = some v := by rw [Lib.cell_of_heap hb2]; rfl
  have f1 : w2.frozen? ⟨b, 1, none⟩ = false := Lib.frozen_of_heap hb2 1
  obtain ⟨ao, n', cap, rfl⟩ : ∃ ao n' cap, v' = .slice ao n' cap := by
    rcases hown'.2 with ⟨hv, _⟩ | ⟨g, cap, cur, fz, hv, _⟩
    · exact ⟨_, _, _, hv⟩
    · exact ⟨_, _, _, hv⟩
  go_wp2
  go_ret2
  refine ⟨rfl, ?_, ?_, (hk1.grown hgrow (Lib.ownsRowF_kind hown)).setCell ⟨b, 1, none⟩ rfl _⟩
  · exact Lib.BuilderAtF.put (T := 36) (e := 5) hB hb2 (bs' := bs ++ Lib.strCells s) (by simpa [Lib.strCells_length] using hown') (by decide)
  · exact (hb1.grown hgrow (by have := hb1.size; omega) (fun k hk => (hown.lt k hk).1)).setCell (p := ⟨b, 1, none⟩) hB _

theorem bld_on {B b : Nat} {xs : List Value} {w w' : World} (h : Lib.IsBuilderF 36 5 B b xs w) (hB : Below w.heap.size w w') : Lib.IsBuilderF 36 5 B b xs w' := by
  have hg : w.grownBy w' none := ⟨hB.os, hB.tape, hB.output, hB.size, fun k hk _ => hB.block k hk⟩
  have step : ∀ {p}, Lib.BuilderAtF 36 5 B b p xs w → Lib.BuilderAtF 36 5 B b p xs w' := fun {p} h => by
    have hlt := h.lt
    obtain ⟨h1, v, h2, h3, h4⟩ := h
    exact ⟨h1, v, (hB.block b hlt).trans h2, h3.kept hg (Classical.em _), h4⟩
  rcases h with h | h
  · exact .inl (step h)
  · exact .inr (step h)
theorem bytes_app (a b : Nm) : Lib.byteCells (a ++ b) = Lib.byteCells a ++ Lib.strCells (bs b) := by
  rw [Lib.strCells_eq, bs_data]; simp [Lib.byteCells]
theorem rprint_r {v : Value} {L : List Pr} {w : World} (h : IsR w v L) (hs : Sz L) (he : rErr L = 0) (hT : Tab w) :
    Calls Tryd.prog 7 #[v] w fun e w' => e = .returned (.tuple #[.string (bs (showR L)), .nilIface]) ∧ Below w.heap.size w w' := by
  obtain ⟨ao, c, rfl, h0⟩ := h
  have c1 : L = [] → Calls Tryd.prog 15 #[.slice ao 0 c] w fun e w' => e = .returned .nilIface ∧ Below w.heap.size w w' := fun _ => rcheck_nil ao c w
  by_cases hne : L = []
  · subst hne; exact rprint_empty _ c w (c1 rfl)
  · rcases h0 with h0 | ⟨b, off, rfl, hb, hl⟩
    · exact absurd h0 hne
    · exact rprint_some b off c L w hb hl hs he hne hT
theorem itoa_any (v : Int) (w : World) (h1 : 0 ≤ v) (h2 : v ≤ 100000) (hT : Tab w) : Calls Tryd.prog 10 #[.int .i64 v] w fun e w' => e = .returned (.string (bs (Lib.itoa v))) ∧ Below w.heap.size w w' := by
  refine (Tryd.strconv_Itoa v (by omega) (by omega) w hT).mono ?_
  rintro e w' ⟨rfl, k, os, rfl⟩
  exact ⟨rfl, Lib.below_grow _ _ (Nat.le_refl _) k os⟩
end Go.Proofs.YteabdlandbmdaaaDoor
