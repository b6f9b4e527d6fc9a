/-
  The walks of schema.printField, printBond and lineOf.
-/
import Derived.Test.YtgjlonilbhlneaaDoorSchB
import Derived.Test.YtgjlonilbhlneaaDoorBuild
import Derived.Laws.Concat
namespace Go.Proofs.YtgjlonilbhlneaaDoor
open Go.RowKit
set_option linter.unusedVariables false
set_option linter.unusedSimpArgs false

/-- The table of words lies there. -/
def TW (w : World) : Prop := w.cell? ⟨0, 1, none⟩ = some (.string ⟨#[105, 110, 116]⟩) ∧ w.cell? ⟨0, 2, none⟩ = some (.string ⟨#[98, 111, 111, 108]⟩) ∧ w.cell? ⟨0, 3, none⟩ = some (.string ⟨#[116, 101, 120, 116]⟩)
theorem TW.pos {w : World} (h : TW w) : 0 < w.heap.size := World.block_lt_of_cell? w _ h.1
theorem TW.on {w w' : World} (h : TW w) (hB : Below w.heap.size w w') : TW w' :=
  ⟨(hB.cell (p := ⟨0, 1, none⟩) h.pos).trans h.1, (hB.cell (p := ⟨0, 2, none⟩) h.pos).trans h.2.1, (hB.cell (p := ⟨0, 3, none⟩) h.pos).trans h.2.2⟩
theorem cat (x y : Nm) (hx : x.length ≤ 8388608) (hy : y.length ≤ 8388608) (w : World) : (Op.stringOp .add (bs x) (bs y)).run Tryd.prog w = .ok (.string (bs (x ++ y))) w := run_string_add_lists w x y (by omega) (by omega)
theorem name_len {l : Nm} (h : nErr l = 0) : l.length ≤ 8 := by
  unfold nErr at h
  split at h
  · exact absurd h (by decide)
  · split at h
    · exact absurd h (by decide)
    · omega
/-- The mark of a field. -/
def markW (f : Fd) : Nm := if f.key = true then [42] else if f.must = true then [33] else []

set_option maxHeartbeats 4000000 in
set_option maxRecDepth 100000 in
theorem printField_w (tw : Nm) (ti : Int) (f : Nm) (must key : Bool) (w : World) (h0 : 0 < w.heap.size) (hti : ti = 1 ∨ ti = 2 ∨ ti = 3) (htw : w.cell? ⟨0, ti.toNat, none⟩ = some (.string (bs tw))) (htl : tw.length ≤ 4) (hn : f.length ≤ 8) :
    Calls Tryd.prog 15 #[.agg #[.string (bs f), .int .i64 ti, .bool must, .bool key]] w fun e w' => e = .returned (.string (bs (f ++ [58] ++ tw ++ markW ⟨f, ti, must, key⟩))) ∧ Below w.heap.size w w' := by
  have a1 : ∀ w, (Op.stringOp .add (bs f) ⟨#[58]⟩).run Tryd.prog w = .ok (.string (bs (f ++ [58]))) w := fun w => cat f [58] (by omega) (by decide) w
  have a2 : ∀ w, (Op.stringOp .add (bs (f ++ [58])) (bs tw)).run Tryd.prog w = .ok (.string (bs (f ++ [58] ++ tw))) w := fun w => cat (f ++ [58]) tw (by simp; omega) (by omega) w
  have a3 : ∀ w, (Op.stringOp .add (bs (f ++ [58] ++ tw)) ⟨#[42]⟩).run Tryd.prog w = .ok (.string (bs (f ++ [58] ++ tw ++ [42]))) w := fun w => cat (f ++ [58] ++ tw) [42] (by simp; omega) (by decide) w
  have a4 : ∀ w, (Op.stringOp .add (bs (f ++ [58] ++ tw)) ⟨#[33]⟩).run Tryd.prog w = .ok (.string (bs (f ++ [58] ++ tw ++ [33]))) w := fun w => cat (f ++ [58] ++ tw) [33] (by simp; omega) (by decide) w
  have hne : ¬ 0 = w.heap.size := by omega
  obtain ⟨x1, hx1⟩ : ∃ x, x = f ++ [58] := ⟨_, rfl⟩
  rw [← hx1] at a1 a2 a3 a4 ⊢
  obtain ⟨x2, hx2⟩ : ∃ x, x = x1 ++ tw := ⟨_, rfl⟩
  rw [← hx2] at a2 a3 a4 ⊢
  obtain ⟨x3, hx3⟩ : ∃ x, x = x2 ++ [42] := ⟨_, rfl⟩
  rw [← hx3] at a3
  obtain ⟨x4, hx4⟩ : ∃ x, x = x2 ++ [33] := ⟨_, rfl⟩
  rw [← hx4] at a4
  have HX3 : Hid (x3 = x2 ++ [42]) := hx3
  have HX4 : Hid (x4 = x2 ++ [33]) := hx4
  have hB : Below w.heap.size w (w.alloc (.cells #[.string (bs f), .int .i64 ti, .bool must, .bool key] 52)) := b_alloc (Below.refl _ _) (Nat.le_refl _) _
  clear hx1 hx2 hx3 hx4
  rcases hti with rfl | rfl | rfl
  all_goals
    have ht1 := htw
    simp only [show (1 : Int).toNat = 1 from rfl, show (2 : Int).toNat = 2 from rfl, show (3 : Int).toNat = 3 from rfl] at ht1
    clear htw
    cases key
    · cases must
      · go_enter Tryd.func15, Tryd.ntmps15
        go_wp2_with fail
        go_quiet (fail)
        go_wp2
        go_ret
        exact ⟨ret_v (by simp [markW]), b_drewN hB _⟩
      · go_enter Tryd.func15, Tryd.ntmps15
        go_wp2_with fail
        go_quiet (fail)
        go_wp2
        go_ret
        exact ⟨ret_v (by simp [markW, HX4.out]), b_drewN hB _⟩
    · go_enter Tryd.func15, Tryd.ntmps15
      go_wp2_with fail
      go_quiet (fail)
      go_wp2
      go_ret
      exact ⟨ret_v (by simp [markW, HX3.out]), b_drewN hB _⟩
theorem printField_any (f : Fd) (w : World) (hT : TW w) (ht : f.t = 1 ∨ f.t = 2 ∨ f.t = 3) (hn : f.nm.length ≤ 8) :
    Calls Tryd.prog 15 #[f.one] w fun e w' => e = .returned (.string (bs (fText f))) ∧ Below w.heap.size w w' := by
  obtain ⟨nm, t, must, key⟩ := f
  have ht' : t = 1 ∨ t = 2 ∨ t = 3 := ht
  rcases ht' with rfl | rfl | rfl
  · exact printField_w [105, 110, 116] 1 nm must key w hT.pos (.inl rfl) hT.1 (by decide) hn
  · exact printField_w [98, 111, 111, 108] 2 nm must key w hT.pos (.inr (.inl rfl)) hT.2.1 (by decide) hn
  · exact printField_w [116, 101, 120, 116] 3 nm must key w hT.pos (.inr (.inr rfl)) hT.2.2 (by decide) hn

set_option maxHeartbeats 2000000 in
theorem lineOf_any {v : Value} {ws : List Nm} {w : World} (h : IsS w v ws) (h0 : 0 < ws.length) (hl : ws.length ≤ 1000) (hj : (Lib.join ws [32]).length ≤ 8388608) :
    Calls Tryd.prog 7 #[v] w fun e w' => e = .returned (.string (bs (lineL ws))) ∧ Below w.heap.size w w' := by
  rcases h with ⟨_, _, _, rfl, _⟩ | ⟨b, off, cap, rfl, hc, hm, hb, hL⟩
  · simp at h0
  · have e1 : (ws.map bs).map (·.data.toList) = ws := by
      rw [List.map_map]
      have : ((fun x : ByteArray => x.data.toList) ∘ bs) = id := by funext l; simp
      rw [this, List.map_id]
    have cj := Tryd.strings_Join b off cap (ws.map bs) ⟨#[32]⟩ w (fun j x hx => by
        rw [List.getElem?_map] at hx
        obtain ⟨n, h1, rfl⟩ := Option.map_eq_some_iff.1 hx
        exact hL j n h1) hb (by simp; omega) (by simpa using hc) (by rw [e1]; show (Lib.join ws [32]).length ≤ _; omega)
    rw [e1, List.length_map] at cj
    have a1 : ∀ w, (Op.stringOp .add (bs (Lib.join ws [32])) ⟨#[10]⟩).run Tryd.prog w = .ok (.string (bs (Lib.join ws [32] ++ [10]))) w := fun w => cat (Lib.join ws [32]) [10] hj (by decide) w
    have HL : Hid (Lib.join ws [32] ++ [10] = lineL ws) := rfl
    have cj2 : Calls Tryd.prog 14 #[.slice (some ⟨b, off, none⟩) ws.length cap, .string ⟨#[32]⟩] w fun e w' => e = .returned (.string (bs (Lib.join ws [32]))) ∧ Below w.heap.size w w' := cj
    generalize Lib.join ws [32] = J at cj2 a1 HL
    clear cj e1 hL
    obtain ⟨J2, hJ2⟩ : ∃ x, x = J ++ [10] := ⟨_, rfl⟩
    rw [← hJ2] at a1 HL
    clear hJ2
    go_enter Tryd.func7, Tryd.ntmps7
    go_wp2_with (go_at_call 14; refine cj2.mono ?_; rintro e W1 ⟨rfl, hB1⟩)
    go_ret
    exact ⟨ret_v (by rw [← HL.out]; rfl), hB1⟩
end Go.Proofs.YtgjlonilbhlneaaDoor
