/-
  The walk of the reader: a test.
-/
import Derived.Test.YtmgkdghkenpmbaaGreatDoorAskD
import Derived.Laws.ResultCell
namespace Go.Proofs.YtmgkdghkenpmbaaGreatDoor
open Go.RowKit
set_option linter.unusedVariables false
set_option linter.unusedSimpArgs false

abbrev Tst.one (x : Tst) : Value := .agg #[.string (bs x.nm), .int .i64 x.hw, .int .i64 x.t, .int .i64 x.n, .string (bs x.s)]
/-- The five cells of a test of the call's own. -/
structure Own5 (w : World) (g : Nat) (a b c d e : Value) : Prop where
  c0 : w.cell? ⟨g, 0, none⟩ = some a
  c1 : w.cell? ⟨g, 1, none⟩ = some b
  c2 : w.cell? ⟨g, 2, none⟩ = some c
  c3 : w.cell? ⟨g, 3, none⟩ = some d
  c4 : w.cell? ⟨g, 4, none⟩ = some e
  f0 : w.frozen? ⟨g, 0, none⟩ = false
  f1 : w.frozen? ⟨g, 1, none⟩ = false
  f2 : w.frozen? ⟨g, 2, none⟩ = false
  f3 : w.frozen? ⟨g, 3, none⟩ = false
  f4 : w.frozen? ⟨g, 4, none⟩ = false
theorem own5 {w : World} {g : Nat} {a b c d e : Value} {t : TypeId} (h : w.heap[g]? = some (.cells #[a, b, c, d, e] t (0, 0))) : Own5 w g a b c d e :=
  ⟨cell_at h rfl, cell_at h rfl, cell_at h rfl, cell_at h rfl, cell_at h rfl, frz_at h, frz_at h, frz_at h, frz_at h, frz_at h⟩
theorem Gw.blk {b : Nat} {w w' : World} (h : Gw b w w') {g : Nat} (hg : g ≠ b) {o : Obj} (ho : w.heap[g]? = some o) : w'.heap[g]? = some o :=
  (h.block g (Array.getElem?_eq_some_iff.1 ho).1 (fun e => hg (by injection e))).trans ho
theorem Gw.trans {b : Nat} {a w w' : World} (h : Gw b a w) (k : Gw b w w') : Gw b a w' := grown_trans h k
theorem Sg.set {w : World} (h : Sg w) {g : Nat} (hg : g ≠ 0) (i : Nat) (v : Value) : Sg (w.setCell ⟨g, i, none⟩ v) := by
  have e : (w.setCell ⟨g, i, none⟩ v).heap[0]? = w.heap[0]? := heap_setCell_other w ⟨g, i, none⟩ 0 v (Ne.symm hg)
  have k : ∀ i', (w.setCell ⟨g, i, none⟩ v).cell? ⟨0, i', none⟩ = w.cell? ⟨0, i', none⟩ := fun i' => by simp only [World.cell?, e]
  unfold Sg; rw [k, k, k]; exact h
theorem nameD_nil {r : Nm} (h : nameT r = []) : nameD r = r := by
  have := name_cat r; rw [h] at this; simpa using this
theorem neB_t {l : Nm} (h : ¬ l = []) : neB l = true := by cases l with
  | nil => exact absurd rfl h
  | cons a b => rfl
theorem pTest_a {r : Nm} (h : nameT r = []) : pTest r = (r, none) := by unfold pTest; rw [if_pos h]
theorem pTest_b {r : Nm} (h : ¬ nameT r = []) (h4 : (howR (nameD r)).2 = 4) : pTest r = (nameD r, some ⟨nameT r, 4, 0, 0, []⟩) := by unfold pTest; rw [if_neg h, if_pos h4]
theorem pTest_c {r : Nm} (h : ¬ nameT r = []) (h4 : ¬ (howR (nameD r)).2 = 4) : pTest r = ((pVal (howR (nameD r)).1).1, (pVal (howR (nameD r)).1).2.map fun v => ⟨nameT r, (howR (nameD r)).2, v.1, v.2.1, v.2.2⟩) := by unfold pTest; rw [if_neg h, if_neg h4]
theorem howR_id {r : Nm} (h4 : (howR r).2 = 4) : (howR r).1 = r := by
  cases r with
  | nil => rfl
  | cons c q =>
    simp only [howR] at h4 ⊢
    by_cases h1 : c = 61
    · rw [if_pos h1] at h4; simp at h4
    · rw [if_neg h1] at h4 ⊢
      by_cases h2 : c = 33
      · rw [if_pos h2] at h4; simp at h4
      · rw [if_neg h2] at h4 ⊢
        by_cases h3 : c = 60
        · rw [if_pos h3] at h4; simp at h4
        · rw [if_neg h3]
/-- What test gives: the test, and whether there is one. -/
def TstAns (e : Ending) (o : Option Tst) : Prop := ∃ x : Tst, e = .returned (.tuple #[x.one, .bool o.isSome]) ∧ ∀ y, o = some y → x = y
theorem set5_0 {w : World} {g : Nat} {a b c d e : Value} (h : w.heap[g]? = some (.cells #[a, b, c, d, e] 33 (0, 0))) (v : Value) : (w.setCell ⟨g, 0, none⟩ v).heap[g]? = some (.cells #[v, b, c, d, e] 33 (0, 0)) := heap_setCell_same w g 0 _ 33 v h
theorem set5_1 {w : World} {g : Nat} {a b c d e : Value} (h : w.heap[g]? = some (.cells #[a, b, c, d, e] 33 (0, 0))) (v : Value) : (w.setCell ⟨g, 1, none⟩ v).heap[g]? = some (.cells #[a, v, c, d, e] 33 (0, 0)) := heap_setCell_same w g 1 _ 33 v h

theorem set5_2 {w : World} {g : Nat} {a b c d e : Value} (h : w.heap[g]? = some (.cells #[a, b, c, d, e] 33 (0, 0))) (v : Value) : (w.setCell ⟨g, 2, none⟩ v).heap[g]? = some (.cells #[a, b, v, d, e] 33 (0, 0)) := heap_setCell_same w g 2 _ 33 v h
theorem set5_3 {w : World} {g : Nat} {a b c d e : Value} (h : w.heap[g]? = some (.cells #[a, b, c, d, e] 33 (0, 0))) (v : Value) : (w.setCell ⟨g, 3, none⟩ v).heap[g]? = some (.cells #[a, b, c, v, e] 33 (0, 0)) := heap_setCell_same w g 3 _ 33 v h
theorem set5_4 {w : World} {g : Nat} {a b c d e : Value} (h : w.heap[g]? = some (.cells #[a, b, c, d, e] 33 (0, 0))) (v : Value) : (w.setCell ⟨g, 4, none⟩ v).heap[g]? = some (.cells #[a, b, c, d, v] 33 (0, 0)) := heap_setCell_same w g 4 _ 33 v h
/-- The result of test, as it lies. -/
theorem res5 {w : World} {g : Nat} {a b c d e : Value} {tmps : Array Value} {v : Value} (h2 : tmps.getD 2 undef = .pointer (some ⟨g, 0, none⟩)) (h3 : tmps.getD 3 undef = v) (hb : w.heap[g]? = some (.cells #[a, b, c, d, e] 33 (0, 0))) :
    (results Tryz.f60 tmps).run Tryz.prog w = .ok (.tuple #[.agg #[a, b, c, d, e], v]) w := by
  obtain ⟨c0, c1, c2, c3, c4, _, _, _, _, _⟩ := own5 hb
  rw [results_cell_tmp (p := 2) (u := 3) (ty := 33) rfl, h2, h3]
  simp [go_sem, c0, c1, c2, c3, c4, Result.andThen]

set_option maxHeartbeats 4000000 in
set_option maxRecDepth 100000 in
theorem test_any {b : Nat} {s : ByteArray} {r : Nm} {w : World} (h : Rd b s r w) (hs : s.size ≤ 140737488355328) (hS : Sg w) (hb : b ≠ 0) :
    Calls Tryz.prog 60 #[rp b] w fun e w' => TstAns e (pTest r).2 ∧ Rd b s (pTest r).1 w' ∧ Gw b w w' := by
  have hbl := h.lt
  have hne : b ≠ w.heap.size := by omega
  have hs' : s.size ≤ maxLen := by unfold maxLen; omega
  have hR0 := h.alloc (.cells #[.string ⟨#[]⟩, .int .i64 0, .int .i64 0, .int .i64 0, .string ⟨#[]⟩] 33)
  have hG0 : Gw b w (w.alloc (.cells #[.string ⟨#[]⟩, .int .i64 0, .int .i64 0, .int .i64 0, .string ⟨#[]⟩] 33)) := (Gw.refl b w).alloc _
  have hS0 : Sg (w.alloc (.cells #[.string ⟨#[]⟩, .int .i64 0, .int .i64 0, .int .i64 0, .string ⟨#[]⟩] 33)) := hS.on ((Below.refl _ w).alloc (Nat.le_refl _) _)
  have c1 := rname_read hR0 hs'
  have hp0 := new_block w #[.string ⟨#[]⟩, .int .i64 0, .int .i64 0, .int .i64 0, .string ⟨#[]⟩] 33
  have HP0 := Lib.hid hp0
  have HG0 := Lib.hid hG0
  have HS0 := Lib.hid hS0
  clear hp0 hG0 hR0 h hS hS0
  by_cases h1 : nameT r = []
  · rw [pTest_a h1]
    rw [h1, nameD_nil h1, show neB [] = false from rfl] at c1
    clear h1
    go_enter Tryz.func60, Tryz.ntmps60
    go_wp2_with (go_at_call 42; refine c1.mono ?_; rintro e W1 ⟨rfl, hR1, hG1⟩; obtain ⟨a0, a1, a2, a3, a4, f0, f1, f2, f3, f4⟩ := own5 (hG1.blk (Ne.symm hne) HP0.out); have HR1 := Lib.hid hR1; have HG1 := Lib.hid (HG0.out.trans hG1); clear hR1 hG1)
    refine bodyPost_ret (v := .tuple #[(⟨[], 0, 0, 0, []⟩ : Tst).one, .bool false]) ?_ rfl ⟨⟨_, rfl, fun y hy => by cases hy⟩, ?_, ?_⟩
    · simp [results, Tryz.results60, go_sem, a0, a1, a2, a3, a4]; rfl
    · exact (((((HR1.out.setO hne 0 _).setO hne 0 _).setO hne 1 _).setO hne 2 _).setO hne 3 _).setO hne 4 _
    · exact (((((HG1.out.setO (Nat.le_refl _) 0 _).setO (Nat.le_refl _) 0 _).setO (Nat.le_refl _) 1 _).setO (Nat.le_refl _) 2 _).setO (Nat.le_refl _) 3 _).setO (Nat.le_refl _) 4 _
  · rw [neB_t h1] at c1
    have cH := fun (W : World) (hR : Rd b s (nameD r) W) (hS : Sg W) => how_any hR hs' hS hb
    have hz : w.heap.size ≠ 0 := by omega
    by_cases h4 : (howR (nameD r)).2 = 4
    · rw [pTest_b h1 h4]
      rw [h4, howR_id h4] at cH
      generalize nameT r = nm at c1 ⊢
      generalize nameD r = q at c1 cH ⊢
      clear h1 h4
      go_enter Tryz.func60, Tryz.ntmps60
      go_wp2_with (first | (go_at_call 42; refine c1.mono ?_; rintro e W1 ⟨rfl, hR1, hG1⟩; have hp1 := hG1.blk (Ne.symm hne) HP0.out; obtain ⟨a0, a1, a2, a3, a4, f0, f1, f2, f3, f4⟩ := own5 hp1; have HR1 := Lib.hid (hR1.setO hne 0 (.string (bs nm))); have HS1 := Lib.hid ((HS0.out.gw hG1 hb).set hz 0 (.string (bs nm))); have HG1 := Lib.hid ((HG0.out.trans hG1).setO (Nat.le_refl _) 0 (.string (bs nm))); have HP1 := Lib.hid (set5_0 hp1 (.string (bs nm))); clear hR1 hG1 hp1) | (go_at_call 74; refine (cH _ HR1.out HS1.out).mono ?_; rintro e W2 ⟨rfl, hR2, hG2⟩; have hp2 := hG2.blk (Ne.symm hne) HP1.out; obtain ⟨b0, b1, b2, b3, b4, g0, g1, g2, g3, g4⟩ := own5 hp2; have HR2 := Lib.hid (hR2.setO hne 1 (.int .i64 4)); have HG2 := Lib.hid ((HG1.out.trans hG2).setO (Nat.le_refl _) 1 (.int .i64 4)); have HP2 := Lib.hid (set5_1 hp2 (.int .i64 4)); clear hR2 hG2 hp2))
      refine bodyPost_ret (v := .tuple #[(⟨nm, 4, 0, 0, []⟩ : Tst).one, .bool true]) ?_ rfl ⟨⟨_, rfl, fun y hy => by injection hy⟩, ?_, ?_⟩
      · simp [results, Tryz.results60, go_sem, b0, b1, b2, b3, b4]; rfl
      · exact ((((HR2.out.setO hne 0 _).setO hne 1 _).setO hne 2 _).setO hne 3 _).setO hne 4 _
      · exact ((((HG2.out.setO (Nat.le_refl _) 0 _).setO (Nat.le_refl _) 1 _).setO (Nat.le_refl _) 2 _).setO (Nat.le_refl _) 3 _).setO (Nat.le_refl _) 4 _
    · rw [pTest_c h1 h4]
      have hb4 : ((howR (nameD r)).2 == 4) = false := by simpa using h4
      generalize nameT r = nm at c1 ⊢
      generalize nameD r = q at c1 cH hb4 ⊢
      have cV := fun (W : World) (hR : Rd b s (howR q).1 W) => value_any hR hs
      generalize (howR q).1 = q1 at cH cV ⊢
      generalize (howR q).2 = hw at cH hb4 ⊢
      clear h1 h4
      rcases hv : (pVal q1).2 with _ | ⟨t, n, l⟩
      · rw [hv] at cV
        simp only [valO, Option.isSome_none, Option.map_none] at cV ⊢
        clear hv
        go_enter Tryz.func60, Tryz.ntmps60
        go_wp2_with (first | (go_at_call 42; refine c1.mono ?_; rintro e W1 ⟨rfl, hR1, hG1⟩; have hp1 := hG1.blk (Ne.symm hne) HP0.out; obtain ⟨a0, a1, a2, a3, a4, f0, f1, f2, f3, f4⟩ := own5 hp1; have HR1 := Lib.hid (hR1.setO hne 0 (.string (bs nm))); have HS1 := Lib.hid ((HS0.out.gw hG1 hb).set hz 0 (.string (bs nm))); have HG1 := Lib.hid ((HG0.out.trans hG1).setO (Nat.le_refl _) 0 (.string (bs nm))); have HP1 := Lib.hid (set5_0 hp1 (.string (bs nm))); clear hR1 hG1 hp1) | (go_at_call 74; refine (cH _ HR1.out HS1.out).mono ?_; rintro e W2 ⟨rfl, hR2, hG2⟩; have hp2 := hG2.blk (Ne.symm hne) HP1.out; obtain ⟨b0, b1, b2, b3, b4, g0, g1, g2, g3, g4⟩ := own5 hp2; have HR2 := Lib.hid (hR2.setO hne 1 (.int .i64 hw)); have HG2 := Lib.hid ((HG1.out.trans hG2).setO (Nat.le_refl _) 1 (.int .i64 hw)); have HP2 := Lib.hid (set5_1 hp2 (.int .i64 hw)); clear hR2 hG2 hp2) | (go_at_call 75; refine (cV _ HR2.out).mono ?_; rintro e W3 ⟨rfl, hR3, hG3⟩; have hp3 := hG3.blk (Ne.symm hne) HP2.out; obtain ⟨d0, d1, d2, d3, d4, m0, m1, m2, m3, m4⟩ := own5 hp3; have HP3 := Lib.hid hp3; have HR3 := Lib.hid hR3; have HG3 := Lib.hid (HG2.out.trans hG3); clear hR3 hG3 hp3; clear b0 b1 b2 b3 b4 g0 g1 g2 g3 g4 a0 a1 a2 a3 a4 f0 f1 f2 f3 f4))
        refine bodyPost_ret (v := .tuple #[.agg #[.string (bs nm), .int .i64 hw, .int .i64 0, .int .i64 0, .string ⟨#[]⟩], .bool false]) (res5 rfl rfl (set5_4 (set5_3 (set5_2 (set5_1 (set5_0 (set5_4 (set5_3 (set5_2 HP3.out _) _) _) _) _) _) _) _)) rfl ⟨⟨⟨nm, hw, 0, 0, []⟩, rfl, fun y hy => by cases hy⟩, ?_, ?_⟩
        · with_reducible exact (((((((HR3.out.setO hne 2 _).setO hne 3 _).setO hne 4 _).setO hne 0 _).setO hne 1 _).setO hne 2 _).setO hne 3 _).setO hne 4 _
        · with_reducible exact (((((((HG3.out.setO (Nat.le_refl _) 2 _).setO (Nat.le_refl _) 3 _).setO (Nat.le_refl _) 4 _).setO (Nat.le_refl _) 0 _).setO (Nat.le_refl _) 1 _).setO (Nat.le_refl _) 2 _).setO (Nat.le_refl _) 3 _).setO (Nat.le_refl _) 4 _
      · rw [hv] at cV
        simp only [valO, Option.isSome_some, Option.map_some] at cV ⊢
        clear hv
        go_enter Tryz.func60, Tryz.ntmps60
        go_wp2_with (first | (go_at_call 42; refine c1.mono ?_; rintro e W1 ⟨rfl, hR1, hG1⟩; have hp1 := hG1.blk (Ne.symm hne) HP0.out; obtain ⟨a0, a1, a2, a3, a4, f0, f1, f2, f3, f4⟩ := own5 hp1; have HR1 := Lib.hid (hR1.setO hne 0 (.string (bs nm))); have HS1 := Lib.hid ((HS0.out.gw hG1 hb).set hz 0 (.string (bs nm))); have HG1 := Lib.hid ((HG0.out.trans hG1).setO (Nat.le_refl _) 0 (.string (bs nm))); have HP1 := Lib.hid (set5_0 hp1 (.string (bs nm))); clear hR1 hG1 hp1) | (go_at_call 74; refine (cH _ HR1.out HS1.out).mono ?_; rintro e W2 ⟨rfl, hR2, hG2⟩; have hp2 := hG2.blk (Ne.symm hne) HP1.out; obtain ⟨b0, b1, b2, b3, b4, g0, g1, g2, g3, g4⟩ := own5 hp2; have HR2 := Lib.hid (hR2.setO hne 1 (.int .i64 hw)); have HG2 := Lib.hid ((HG1.out.trans hG2).setO (Nat.le_refl _) 1 (.int .i64 hw)); have HP2 := Lib.hid (set5_1 hp2 (.int .i64 hw)); clear hR2 hG2 hp2) | (go_at_call 75; refine (cV _ HR2.out).mono ?_; rintro e W3 ⟨rfl, hR3, hG3⟩; have hp3 := hG3.blk (Ne.symm hne) HP2.out; obtain ⟨d0, d1, d2, d3, d4, m0, m1, m2, m3, m4⟩ := own5 hp3; have HP3 := Lib.hid hp3; have HR3 := Lib.hid hR3; have HG3 := Lib.hid (HG2.out.trans hG3); clear hR3 hG3 hp3; clear b0 b1 b2 b3 b4 g0 g1 g2 g3 g4 a0 a1 a2 a3 a4 f0 f1 f2 f3 f4))
        refine bodyPost_ret (v := .tuple #[.agg #[.string (bs nm), .int .i64 hw, .int .i64 t, .int .i64 n, .string (bs l)], .bool true]) (res5 rfl rfl (set5_4 (set5_3 (set5_2 (set5_1 (set5_0 (set5_4 (set5_3 (set5_2 HP3.out _) _) _) _) _) _) _) _)) rfl ⟨⟨⟨nm, hw, t, n, l⟩, rfl, fun y hy => by injection hy⟩, ?_, ?_⟩
        · with_reducible exact (((((((HR3.out.setO hne 2 _).setO hne 3 _).setO hne 4 _).setO hne 0 _).setO hne 1 _).setO hne 2 _).setO hne 3 _).setO hne 4 _
        · with_reducible exact (((((((HG3.out.setO (Nat.le_refl _) 2 _).setO (Nat.le_refl _) 3 _).setO (Nat.le_refl _) 4 _).setO (Nat.le_refl _) 0 _).setO (Nat.le_refl _) 1 _).setO (Nat.le_refl _) 2 _).setO (Nat.le_refl _) 3 _).setO (Nat.le_refl _) 4 _
end Go.Proofs.YtmgkdghkenpmbaaGreatDoor
