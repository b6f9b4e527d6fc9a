/-
  What the walk of the law RecordBack asks of memory and of its calls.
-/
import Derived.Test.YtghlncdnnmpikaaGreatDoorLawM
import Derived.Test.YtghlncdnnmpikaaGreatDoorPrA
import Derived.Test.YtghlncdnnmpikaaGreatDoorParB
import Derived.Test.YtghlncdnnmpikaaGreatDoorUnB1
import Derived.Test.YtghlncdnnmpikaaGreatDoorTellsC
import Derived.Deep.DeepCutAuto
namespace Go.Proofs.YtghlncdnnmpikaaGreatDoor
open Go.RowKit
set_option linter.unusedVariables false
set_option linter.unusedSimpArgs false

/-- The property of the law's own. -/
def onePr : Pr := ⟨⟨#[97]⟩, 1, 3, ⟨#[]⟩⟩
theorem one_err : sErr onePr [] = 0 := by decide
theorem one_sz : Sz [onePr] := by
  intro p hp
  simp at hp; subst hp
  exact ⟨by show (1 : Nat) ≤ maxLen; decide, by show (0 : Nat) ≤ maxLen; decide⟩
/-- Both blocks of the law's own are as they were made. -/
theorem kept8 {w W : World} {a0 a1 a2 a3 b0 b1 b2 b3 : Value} {t u : TypeId} (hB : Below ((w.alloc (.cells #[a0, a1, a2, a3] t)).alloc (.cells #[b0, b1, b2, b3] u)).heap.size ((w.alloc (.cells #[a0, a1, a2, a3] t)).alloc (.cells #[b0, b1, b2, b3] u)) W) :
    (W.cell? ⟨w.heap.size, 0, none⟩ = some a0 ∧ W.cell? ⟨w.heap.size, 1, none⟩ = some a1 ∧ W.cell? ⟨w.heap.size, 2, none⟩ = some a2 ∧ W.cell? ⟨w.heap.size, 3, none⟩ = some a3) ∧
      (W.cell? ⟨w.heap.size + 1, 0, none⟩ = some b0 ∧ W.cell? ⟨w.heap.size + 1, 1, none⟩ = some b1 ∧ W.cell? ⟨w.heap.size + 1, 2, none⟩ = some b2 ∧ W.cell? ⟨w.heap.size + 1, 3, none⟩ = some b3) ∧ w.heap.size + 1 < W.heap.size := by
  have hs := hB.size
  simp at hs
  refine ⟨⟨?_, ?_, ?_, ?_⟩, ⟨?_, ?_, ?_, ?_⟩, by omega⟩
  · rw [hB.cell (p := ⟨w.heap.size, 0, none⟩) (by simp; omega)]; simp
  · rw [hB.cell (p := ⟨w.heap.size, 1, none⟩) (by simp; omega)]; simp
  · rw [hB.cell (p := ⟨w.heap.size, 2, none⟩) (by simp; omega)]; simp
  · rw [hB.cell (p := ⟨w.heap.size, 3, none⟩) (by simp; omega)]; simp
  · rw [hB.cell (p := ⟨w.heap.size + 1, 0, none⟩) (by simp)]; simp
  · rw [hB.cell (p := ⟨w.heap.size + 1, 1, none⟩) (by simp)]; simp
  · rw [hB.cell (p := ⟨w.heap.size + 1, 2, none⟩) (by simp)]; simp
  · rw [hB.cell (p := ⟨w.heap.size + 1, 3, none⟩) (by simp)]; simp
theorem hndOn {w w' : World} (hg : Hnd w) (hb : Below w.heap.size w w') : Hnd w' := by
  have hlt : 0 < w.heap.size := by
    rcases Nat.eq_zero_or_pos w.heap.size with h0 | h
    · have hg' : w.cell? ⟨0, 0, none⟩ = _ := hg
      simp [World.cell?, h0] at hg'
    · exact h
  exact (hb.cell (p := ⟨0, 0, none⟩) hlt).trans hg
theorem set_ok {v : Value} {L : List Pr} {w : World} (h : IsRec w v L) (hs : Sz L) (hm : L.length ≤ maxLen) (p : Pr) (hsp : Sz [p]) (he : sErr p L = 0) {n : Nat} (hn : (ins p L).length = n) :
    Calls Tryz.prog 11 #[v, p.one] w fun e w' => ∃ ao cp, e = .returned (.tuple #[.slice ao n cp, .nilIface]) ∧ IsRec w' (.slice ao n cp) (ins p L) ∧ Below w.heap.size w w' := by
  refine (set_any h hs hm p hsp).mono ?_
  rintro e w' ⟨v1, rfl, h1, h2, hB⟩
  have h3 := h1 he
  rw [he]
  subst hn
  obtain ⟨ao, cp, rfl⟩ := own_slice h3
  exact ⟨ao, cp, rfl, own_isRec h3, hB⟩
theorem set_no {v : Value} {L : List Pr} {w : World} (h : IsRec w v L) (hs : Sz L) (hm : L.length ≤ maxLen) (p : Pr) (hsp : Sz [p]) (he : ¬ sErr p L = 0) :
    Calls Tryz.prog 11 #[v, p.one] w fun e w' => e = .returned (.tuple #[.slice none 0 0, .iface 53 (.int .i64 (sErr p L))]) ∧ Below w.heap.size w w' := by
  refine (set_any h hs hm p hsp).mono ?_
  rintro e w' ⟨v1, rfl, h1, h2, hB⟩
  obtain rfl := h2 he
  rw [errV_ne he]
  exact ⟨rfl, hB⟩
/-- The fact that the law begins with. -/
theorem fact_one (w : World) : Calls Tryz.prog 11 #[.slice none 0 0, onePr.one] w fun e w' => ∃ b off cp, e = .returned (.tuple #[.slice (some ⟨b, off, none⟩) 1 cp, .nilIface]) ∧ b < w'.heap.size ∧ Lies w' b off [onePr] ∧ Below w.heap.size w w' := by
  refine (set_ok (.inl ⟨rfl, rfl⟩) (fun q hq => by simp at hq) (by simp) onePr one_sz one_err (n := 1) rfl).mono ?_
  rintro e w' ⟨ao, cp, rfl, h, hB⟩
  have h' : IsRec w' (.slice ao 1 cp) [onePr] := h
  rcases h' with ⟨h1, h2⟩ | ⟨b, off, cap, h1, h2, h3, h4⟩
  · cases h2
  · obtain ⟨rfl, _, rfl⟩ : ao = some ⟨b, off, none⟩ ∧ 1 = [onePr].length ∧ cp = cap := by simpa using h1
    exact ⟨b, off, cp, rfl, h3, h4, hB⟩
/-- What Print gives. -/
theorem rprint_all {v : Value} {L : List Pr} {w : World} (h : IsRec w v L) (hs : Sz L) (hm : L.length ≤ maxLen) (hT : Tab w) :
    Calls Tryz.prog 17 #[v] w fun e w' => ∃ S E, e = .returned (.tuple #[.string S, E]) ∧ Below w.heap.size w w' ∧ ((rErr L = 0 ∧ S = ⟨(showR L).toArray⟩ ∧ E = .nilIface) ∨ (¬ rErr L = 0 ∧ E = .iface 53 (.int .i64 (rErr L)))) := by
  by_cases he : rErr L = 0
  · refine (rprint_ok h hs he hT).mono ?_
    rintro e w' ⟨rfl, hB⟩
    exact ⟨_, _, rfl, hB, .inl ⟨he, rfl, rfl⟩⟩
  · refine (rprint_bad h hs hm he).mono ?_
    rintro e w' ⟨rfl, hB⟩
    exact ⟨_, _, rfl, hB, .inr ⟨he, rfl⟩⟩
/-- What Parse gives. -/
theorem rparse_all (s : ByteArray) (w : World) (hs : s.size ≤ 140737488355328) :
    Calls Tryz.prog 19 #[.string s] w fun e w' => ∃ V E, e = .returned (.tuple #[V, E]) ∧ Below w.heap.size w w' ∧ ((∃ M, readR s.data.toList = some M ∧ rErr M = 0 ∧ IsRec w' V M ∧ E = .nilIface) ∨ (∃ ee : Int, E = .iface 53 (.int .i64 ee))) := by
  refine (rparse_any s w hs).mono ?_
  rintro e w' ⟨hB, h1, h2⟩
  cases hr : readR s.data.toList with
  | none =>
    obtain ⟨ee, _, rfl⟩ := h2 (.inl hr)
    exact ⟨_, _, rfl, hB, .inr ⟨ee, rfl⟩⟩
  | some M =>
    by_cases he : rErr M = 0
    · obtain ⟨ao, cp, rfl, hI⟩ := h1 M hr he
      exact ⟨_, _, rfl, hB, .inl ⟨M, rfl, he, hI, rfl⟩⟩
    · obtain ⟨ee, _, rfl⟩ := h2 (.inr ⟨M, hr, he⟩)
      exact ⟨_, _, rfl, hB, .inr ⟨ee, rfl⟩⟩
/-- A record that was shown is read as it was. -/
theorem rparse_shown {L : List Pr} (h : rErr L = 0) (w : World) (hok : (showR L).length ≤ 140737488355328) :
    Calls Tryz.prog 19 #[.string ⟨(showR L).toArray⟩] w fun e w' => ∃ V, e = .returned (.tuple #[V, .nilIface]) ∧ IsRec w' V L ∧ Below w.heap.size w w' := by
  refine (rparse_any ⟨(showR L).toArray⟩ w (by rw [arr_size]; exact hok)).mono ?_
  rintro e w' ⟨hB, h1, h2⟩
  obtain ⟨ao, cp, rfl, hI⟩ := h1 L (by rw [arr_list]; exact read_show h) h
  exact ⟨_, rfl, hI, hB⟩
theorem showR_len {L : List Pr} (h : rErr L = 0) : (showR L).length ≤ 140737488355328 := by
  have hl := rErr_len h
  have hok := rErr_ok h
  unfold showR
  split
  · decide
  · have := joinW_len (L.map wordOf) (fun w hw => by
      obtain ⟨p, hp, rfl⟩ := List.mem_map.1 hw
      exact word_len (hok p hp))
    simp at this; omega
end Go.Proofs.YtghlncdnnmpikaaGreatDoor
