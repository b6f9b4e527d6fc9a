/-
  The walk of record.parseProp.
-/
import Derived.Test.YtghlncdnnmpikaaGreatDoorCutA
namespace Go.Proofs.YtghlncdnnmpikaaGreatDoor
open Go.RowKit
set_option linter.unusedVariables false
set_option linter.unusedSimpArgs false

/-- What parseProp gives. -/
def propV : Option Pr → Value
  | none => .tuple #[.agg #[.string ⟨#[]⟩, .int .i64 0, .int .i64 0, .string ⟨#[]⟩], .bool false]
  | some p => .tuple #[p.one, .bool true]

/-- The cells of a block that was made just ahead, behind a call. -/
theorem kept4 {w W1 : World} {v0 v1 v2 v3 : Value} {t : TypeId} (hB : Below (w.alloc (.cells #[v0, v1, v2, v3] t)).heap.size (w.alloc (.cells #[v0, v1, v2, v3] t)) W1) :
    w.heap.size < W1.heap.size ∧ (W1.cell? ⟨w.heap.size, 0, none⟩ = some v0 ∧ W1.cell? ⟨w.heap.size, 1, none⟩ = some v1 ∧ W1.cell? ⟨w.heap.size, 2, none⟩ = some v2 ∧ W1.cell? ⟨w.heap.size, 3, none⟩ = some v3) ∧
      (W1.frozen? ⟨w.heap.size, 0, none⟩ = false ∧ W1.frozen? ⟨w.heap.size, 1, none⟩ = false ∧ W1.frozen? ⟨w.heap.size, 2, none⟩ = false ∧ W1.frozen? ⟨w.heap.size, 3, none⟩ = false) := by
  refine ⟨Nat.lt_of_lt_of_le (by simp) hB.size, ⟨?_, ?_, ?_, ?_⟩, ⟨?_, ?_, ?_, ?_⟩⟩
  · rw [hB.cell (p := ⟨w.heap.size, 0, none⟩) (by simp)]; simp
  · rw [hB.cell (p := ⟨w.heap.size, 1, none⟩) (by simp)]; simp
  · rw [hB.cell (p := ⟨w.heap.size, 2, none⟩) (by simp)]; simp
  · rw [hB.cell (p := ⟨w.heap.size, 3, none⟩) (by simp)]; simp
  · rw [hB.frozen (p := ⟨w.heap.size, 0, none⟩) (by simp)]; simp
  · rw [hB.frozen (p := ⟨w.heap.size, 1, none⟩) (by simp)]; simp
  · rw [hB.frozen (p := ⟨w.heap.size, 2, none⟩) (by simp)]; simp
  · rw [hB.frozen (p := ⟨w.heap.size, 3, none⟩) (by simp)]; simp
theorem set4 {w W : World} (hB : Below w.heap.size w W) (a b c d : Value) : Below w.heap.size w ((((W.setCell ⟨w.heap.size, 0, none⟩ a).setCell ⟨w.heap.size, 1, none⟩ b).setCell ⟨w.heap.size, 2, none⟩ c).setCell ⟨w.heap.size, 3, none⟩ d) :=
  (((hB.setCell (by simp) _).setCell (by simp) _).setCell (by simp) _).setCell (by simp) _

set_option maxHeartbeats 4000000 in
set_option maxRecDepth 100000 in
theorem parseProp_any (s : ByteArray) (w : World) (hs : s.size ≤ 140737488355328) :
    Calls Tryz.prog 33 #[.string s] w fun e w' => e = .returned (propV (propL s.data.toList)) ∧ Below w.heap.size w w' := by
  have hB0 : Below w.heap.size w (w.alloc (.cells #[.string ⟨#[]⟩, .int .i64 0, .int .i64 0, .string ⟨#[]⟩] 27)) := b_alloc (Below.refl _ _) _
  cases hsp : splitEq s.data.toList with
  | none =>
    have H : Hid (propL s.data.toList = none) := by
      show _ = _
      unfold propL; rw [hsp]
    have c1 := scut_none s (w.alloc (.cells #[.string ⟨#[]⟩, .int .i64 0, .int .i64 0, .string ⟨#[]⟩] 27)) hsp
    clear hsp
    go_enter Tryz.func33, Tryz.ntmps33
    go_wp2_with (go_at_call 52; refine c1.mono ?_; rintro e W1 ⟨rfl, hB1⟩; obtain ⟨hz, ⟨g0, g1, g2, g3⟩, k0, k1, k2, k3⟩ := kept4 hB1)
    exact bodyPost_ret (v := .tuple #[.agg #[.string ⟨#[]⟩, .int .i64 0, .int .i64 0, .string ⟨#[]⟩], .bool false]) (by simp [results, Tryz.results33, go_sem, g0, g1, g2, g3, hz]) rfl ⟨ret_v (by rw [H.out]; rfl), set4 (on1 hB0 hB1) _ _ _ _⟩
  | some x =>
    obtain ⟨a, b⟩ := x
    have c1 := scut_some s (w.alloc (.cells #[.string ⟨#[]⟩, .int .i64 0, .int .i64 0, .string ⟨#[]⟩] 27)) a b hsp hs
    have hl := split_back _ a b hsp
    have hsz : a.length + (b.length + 1) ≤ 140737488355328 := by
      have := size_len s
      rw [hl] at this; simp at this; omega
    have cn := fun w => name_any ⟨a.toArray⟩ w (by show a.toArray.size ≤ maxLen; simp [maxLen]; omega)
    have cp := fun w => parse_any ⟨b.toArray⟩ w (by show b.toArray.size ≤ _; simp; omega)
    have ea : (⟨a.toArray⟩ : ByteArray).data.toList = a := by simp
    have eb : (⟨b.toArray⟩ : ByteArray).data.toList = b := by simp
    rw [ea] at cn
    rw [eb] at cp
    by_cases h1 : nErr a = 0
    · rw [h1, errV_0] at cn
      by_cases h2 : (parseL b).1 = 0
      · have H : Hid (propL s.data.toList = some (mkPr a b)) := by
          show _ = _
          unfold propL; rw [hsp]; simp only [h1, h2, and_self, if_true]
        rw [h2, resV_0] at cp
        obtain ⟨t, n, l, he⟩ : ∃ t n l, parseL b = (0, t, n, l) := ⟨(parseL b).2.1, (parseL b).2.2.1, (parseL b).2.2.2, by rw [← h2]⟩
        have HM : Hid ((mkPr a b).one = .agg #[.string ⟨a.toArray⟩, .int .i64 t, .int .i64 n, .string ⟨l.toArray⟩]) := by
          show _ = _
          unfold Pr.one mkPr; rw [he]
        rw [he] at cp
        clear hsp hl h1 h2 ea eb he hsz
        go_enter Tryz.func33, Tryz.ntmps33
        go_wp2_with (go_at_call 52; refine c1.mono ?_; rintro e W1 ⟨rfl, hB1⟩; refine Hid.out ?_)
        refine Lib.hid ?_
        go_wp2_with (go_at_call 22; refine (cn _).mono ?_; rintro e W1 ⟨rfl, rfl⟩; refine Hid.out ?_)
        refine Lib.hid ?_
        go_wp2_with (go_at_call 53; refine (cp _).mono ?_; rintro e W2 ⟨rfl, hB2⟩; refine Hid.out ?_)
        refine Lib.hid ?_
        have hB3 := hB1.trans (hB2.mono hB1.size)
        obtain ⟨hz, ⟨g0, g1, g2, g3⟩, k0, k1, k2, k3⟩ := kept4 hB3
        clear c1 cn cp
        go_wp2
        exact bodyPost_ret (v := .tuple #[.agg #[.string ⟨a.toArray⟩, .int .i64 t, .int .i64 n, .string ⟨l.toArray⟩], .bool true]) (by simp [results, Tryz.results33, go_sem, g0, g1, g2, g3, hz]) rfl ⟨ret_v (by rw [H.out]; show _ = Value.tuple #[(mkPr a b).one, .bool true]; rw [HM.out]), b_alloc (set4 (on1 hB0 hB3) _ _ _ _) _⟩
      · have H : Hid (propL s.data.toList = none) := by
          show _ = _
          unfold propL; rw [hsp]; simp only [h2, and_false, if_false]
        rw [resV_ne h2] at cp
        generalize (parseL b).1 = ee at cp
        clear hsp hl h1 h2 ea eb hsz
        go_enter Tryz.func33, Tryz.ntmps33
        go_wp2_with (go_at_call 52; refine c1.mono ?_; rintro e W1 ⟨rfl, hB1⟩; refine Hid.out ?_)
        refine Lib.hid ?_
        go_wp2_with (go_at_call 22; refine (cn _).mono ?_; rintro e W1 ⟨rfl, rfl⟩; refine Hid.out ?_)
        refine Lib.hid ?_
        go_wp2_with (go_at_call 53; refine (cp _).mono ?_; rintro e W2 ⟨rfl, hB2⟩; refine Hid.out ?_)
        refine Lib.hid ?_
        have hB3 := hB1.trans (hB2.mono hB1.size)
        obtain ⟨hz, ⟨g0, g1, g2, g3⟩, k0, k1, k2, k3⟩ := kept4 hB3
        clear c1 cn cp
        go_wp2
        exact bodyPost_ret (v := .tuple #[.agg #[.string ⟨#[]⟩, .int .i64 0, .int .i64 0, .string ⟨#[]⟩], .bool false]) (by simp [results, Tryz.results33, go_sem, g0, g1, g2, g3, hz]) rfl ⟨ret_v (by rw [H.out]; rfl), b_alloc (set4 (on1 hB0 hB3) _ _ _ _) _⟩
    · have H : Hid (propL s.data.toList = none) := by
        show _ = _
        unfold propL; rw [hsp]; simp only [h1, false_and, if_false]
      rw [errV_ne h1] at cn
      clear hsp hl h1 ea eb cp hsz
      go_enter Tryz.func33, Tryz.ntmps33
      go_wp2_with (go_at_call 52; refine c1.mono ?_; rintro e W1 ⟨rfl, hB1⟩; refine Hid.out ?_)
      refine Lib.hid ?_
      obtain ⟨hz, ⟨g0, g1, g2, g3⟩, k0, k1, k2, k3⟩ := kept4 hB1
      go_wp2_with (go_at_call 22; refine (cn _).mono ?_; rintro e W1 ⟨rfl, rfl⟩)
      exact bodyPost_ret (v := .tuple #[.agg #[.string ⟨#[]⟩, .int .i64 0, .int .i64 0, .string ⟨#[]⟩], .bool false]) (by simp [results, Tryz.results33, go_sem, g0, g1, g2, g3, hz]) rfl ⟨ret_v (by rw [H.out]; rfl), set4 (on1 hB0 hB1) _ _ _ _⟩
end Go.Proofs.YtghlncdnnmpikaaGreatDoor
