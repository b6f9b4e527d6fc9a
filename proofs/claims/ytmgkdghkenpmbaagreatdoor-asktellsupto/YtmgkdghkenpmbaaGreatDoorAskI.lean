/-
  The walk of the reader: a step.
-/
import Derived.Test.YtmgkdghkenpmbaaGreatDoorAskH
namespace Go.Proofs.YtmgkdghkenpmbaaGreatDoor
open Go.RowKit
set_option linter.unusedVariables false
set_option linter.unusedSimpArgs false

/-- The four cells of a step of the call's own. -/
structure Own4 (w : World) (g : Nat) (a b c d : Value) : Prop where
  c0 : w.cell? ⟨g, 0, none⟩ = some a
  c1 : w.cell? ⟨g, 1, none⟩ = some b
  c2 : w.cell? ⟨g, 2, none⟩ = some c
  c3 : w.cell? ⟨g, 3, none⟩ = some d
  f0 : w.frozen? ⟨g, 0, none⟩ = false
  f1 : w.frozen? ⟨g, 1, none⟩ = false
  f2 : w.frozen? ⟨g, 2, none⟩ = false
  f3 : w.frozen? ⟨g, 3, none⟩ = false
theorem own4 {w : World} {g : Nat} {a b c d : Value} {t : TypeId} (h : w.heap[g]? = some (.cells #[a, b, c, d] t (0, 0))) : Own4 w g a b c d :=
  ⟨cell_at h rfl, cell_at h rfl, cell_at h rfl, cell_at h rfl, frz_at h, frz_at h, frz_at h, frz_at h⟩
theorem set4_0 {w : World} {g : Nat} {a b c d : Value} (h : w.heap[g]? = some (.cells #[a, b, c, d] 29 (0, 0))) (v : Value) : (w.setCell ⟨g, 0, none⟩ v).heap[g]? = some (.cells #[v, b, c, d] 29 (0, 0)) := heap_setCell_same w g 0 _ 29 v h
theorem set4_1 {w : World} {g : Nat} {a b c d : Value} (h : w.heap[g]? = some (.cells #[a, b, c, d] 29 (0, 0))) (v : Value) : (w.setCell ⟨g, 1, none⟩ v).heap[g]? = some (.cells #[a, v, c, d] 29 (0, 0)) := heap_setCell_same w g 1 _ 29 v h
theorem set4_2 {w : World} {g : Nat} {a b c d : Value} (h : w.heap[g]? = some (.cells #[a, b, c, d] 29 (0, 0))) (v : Value) : (w.setCell ⟨g, 2, none⟩ v).heap[g]? = some (.cells #[a, b, v, d] 29 (0, 0)) := heap_setCell_same w g 2 _ 29 v h
theorem set4_3 {w : World} {g : Nat} {a b c d : Value} (h : w.heap[g]? = some (.cells #[a, b, c, d] 29 (0, 0))) (v : Value) : (w.setCell ⟨g, 3, none⟩ v).heap[g]? = some (.cells #[a, b, c, v] 29 (0, 0)) := heap_setCell_same w g 3 _ 29 v h
/-- The result of step, as it lies. -/
theorem res4 {w : World} {g : Nat} {a b c d : Value} {tmps : Array Value} {v : Value} (h2 : tmps.getD 4 undef = .pointer (some ⟨g, 0, none⟩)) (h3 : tmps.getD 5 undef = v) (hb : w.heap[g]? = some (.cells #[a, b, c, d] 29 (0, 0))) :
    (results Tryz.f23 tmps).run Tryz.prog w = .ok (.tuple #[.agg #[a, b, c, d], v]) w := by
  obtain ⟨c0, c1, c2, c3, _, _, _, _⟩ := own4 hb
  rw [results_cell_tmp (p := 4) (u := 5) (ty := 29) rfl, h2, h3]
  simp [go_sem, c0, c1, c2, c3, Result.andThen]
/-- With no more than nine tests. -/
def cap9 (p : St) : St := ⟨p.bd, p.back, p.kd, p.ts.take 9⟩
/-- What step gives. -/
def SpAns (w w' : World) (e : Ending) (o : Option St) : Prop :=
  ∃ x : Sp, (∃ a n c, x.vt = .slice a n c) ∧ e = .returned (.tuple #[x.one, .bool o.isSome]) ∧ ∀ p, o = some p → x.st = cap9 p ∧ w'.ownsRow w.heap.size 33 5 x.vt x.st.ts.length (cellsT x.st.ts)
theorem four_set {b : Nat} {s : ByteArray} {r : Nm} {a w : World} {g : Nat} (hR : Rd b s r w) (hG : Gw b a w) (hne : b ≠ g) (hg : a.heap.size ≤ g) (x0 x1 x2 x3 : Value) :
    Rd b s r ((((w.setCell ⟨g, 0, none⟩ x0).setCell ⟨g, 1, none⟩ x1).setCell ⟨g, 2, none⟩ x2).setCell ⟨g, 3, none⟩ x3) ∧ Gw b a ((((w.setCell ⟨g, 0, none⟩ x0).setCell ⟨g, 1, none⟩ x1).setCell ⟨g, 2, none⟩ x2).setCell ⟨g, 3, none⟩ x3) :=
  ⟨(((hR.setO hne 0 _).setO hne 1 _).setO hne 2 _).setO hne 3 _, (((hG.setO hg 0 _).setO hg 1 _).setO hg 2 _).setO hg 3 _⟩
theorem four_blk {w : World} {g : Nat} {a b c d : Value} (h : w.heap[g]? = some (.cells #[a, b, c, d] 29 (0, 0))) (x0 x1 x2 x3 : Value) :
    ((((w.setCell ⟨g, 0, none⟩ x0).setCell ⟨g, 1, none⟩ x1).setCell ⟨g, 2, none⟩ x2).setCell ⟨g, 3, none⟩ x3).heap[g]? = some (.cells #[x0, x1, x2, x3] 29 (0, 0)) := set4_3 (set4_2 (set4_1 (set4_0 h _) _) _) _
theorem four_kt {w : World} {g : Nat} {a b c d : Value} (h : w.heap[g]? = some (.cells #[a, b, c, d] 29 (0, 0))) (x0 x1 x2 x3 : Value) :
    Kt 33 w ((((w.setCell ⟨g, 0, none⟩ x0).setCell ⟨g, 1, none⟩ x1).setCell ⟨g, 2, none⟩ x2).setCell ⟨g, 3, none⟩ x3) :=
  ((((Kt.refl 33 w).set h (by decide) 0 x0).set (set4_0 h x0) (by decide) 1 x1).set (set4_1 (set4_0 h x0) x1) (by decide) 2 x2).set (set4_2 (set4_1 (set4_0 h x0) x1) x2) (by decide) 3 x3
abbrev W29 (w : World) : World := w.alloc (.cells #[.string ⟨#[]⟩, .bool false, .string ⟨#[]⟩, .slice none 0 0] 29)
theorem pKind_no {n : Nm} {bk : Bool} {r : Nm} (h : nameT r = []) : pKind n bk r = (r, none) := by unfold pKind; rw [if_pos h]
theorem pKind_yes {n : Nm} {bk : Bool} {r : Nm} (h : ¬ nameT r = []) : pKind n bk r = ((pTests (nameD r)).1, (pTests (nameD r)).2.map fun ts => ⟨n, bk, nameT r, ts⟩) := by unfold pKind; rw [if_neg h]
theorem Sg.alloc {w : World} (h : Sg w) (o : Obj) : Sg (w.alloc o) := h.on ((Below.refl _ w).alloc (Nat.le_refl _) o)

set_option maxHeartbeats 4000000 in
set_option maxRecDepth 100000 in
theorem step_first {b : Nat} {s : ByteArray} {r : Nm} {w : World} (h : Rd b s r w) (hs : s.size ≤ 140737488355328) (hS : Sg w) (hb : b ≠ 0) :
    Calls Tryz.prog 23 #[rp b, .bool true] w fun e w' => SpAns w w' e (pStep true r).2 ∧ Rd b s (pStep true r).1 w' ∧ Gw b w w' := by
  have hbl := h.lt
  have hne : b ≠ w.heap.size := by omega
  have hz : w.heap.size ≠ 0 := by omega
  have hs' : s.size ≤ maxLen := by unfold maxLen; omega
  have cN := rname_read (h.alloc (.cells #[.string ⟨#[]⟩, .bool false, .string ⟨#[]⟩, .slice none 0 0] 29)) hs'
  have HP0 := Lib.hid (new_block w #[.string ⟨#[]⟩, .bool false, .string ⟨#[]⟩, .slice none 0 0] 29)
  have HG0 : Hid (Gw b w (W29 w)) := (Gw.refl b w).alloc _
  have HS0 : Hid (Sg (W29 w)) := hS.alloc _
  have hp : pStep true r = pKind [] false r := by unfold pStep; rw [if_pos rfl]
  rw [hp]
  clear hp h hS
  by_cases hn : nameT r = []
  · rw [pKind_no hn]
    rw [hn, nameD_nil hn, show neB [] = false from rfl] at cN
    clear hn
    go_enter Tryz.func23, Tryz.ntmps23
    go_wp2_with (go_at_call 42; refine cN.mono ?_; rintro e W1 ⟨rfl, hR1, hG1⟩; have hp1 := hG1.blk (Ne.symm hne) HP0.out; obtain ⟨a0, a1, a2, a3, f0, f1, f2, f3⟩ := own4 hp1; have HR1 := Lib.hid (hR1.setO hne 2 (.string (bs []))); have HG1 := Lib.hid ((HG0.out.trans hG1).setO (Nat.le_refl _) 2 (.string (bs []))); have HP1 := Lib.hid (set4_2 hp1 (.string (bs []))); clear hR1 hG1 hp1)
    obtain ⟨q1, q2⟩ := four_set HR1.out HG1.out hne (Nat.le_refl _) (.string ⟨#[]⟩) (.bool false) (.string ⟨#[]⟩) (.slice none 0 0)
    refine bodyPost_ret (v := .tuple #[.agg #[.string ⟨#[]⟩, .bool false, .string ⟨#[]⟩, .slice none 0 0], .bool false]) (res4 rfl rfl (four_blk HP1.out _ _ _ _)) rfl ⟨⟨⟨⟨[], false, [], []⟩, .slice none 0 0⟩, ⟨_, _, _, rfl⟩, rfl, fun p hp => by cases hp⟩, q1, q2⟩
  · rw [pKind_yes hn]
    rw [neB_t hn] at cN
    have cT := fun (W : World) (hR : Rd b s (nameD r) W) (hS : Sg W) => tests_any hR hs hS hb
    generalize nameT r = nm at cN ⊢
    generalize pTests (nameD r) = pt at cT ⊢
    obtain ⟨z, o⟩ := pt
    generalize nameD r = q at cN cT
    clear hn
    simp only at cT ⊢
    go_enter Tryz.func23, Tryz.ntmps23
    go_wp2_with (first | (go_at_call 42; refine cN.mono ?_; rintro e W1 ⟨rfl, hR1, hG1⟩; have hp1 := hG1.blk (Ne.symm hne) HP0.out; obtain ⟨a0, a1, a2, a3, f0, f1, f2, f3⟩ := own4 hp1; have HR1 := Lib.hid (hR1.setO hne 2 (.string (bs nm))); have HG1 := Lib.hid ((HG0.out.trans hG1).setO (Nat.le_refl _) 2 (.string (bs nm))); have HP1 := Lib.hid (set4_2 hp1 (.string (bs nm))); have HS1 := Lib.hid ((HS0.out.gw hG1 hb).set hz 2 (.string (bs nm))); clear hR1 hG1 hp1) | (go_at_call 43; refine (cT _ HR1.out HS1.out).mono ?_; rintro e W2 ⟨⟨av, nv, cv, rfl, hts⟩, hR2, hG2⟩; have hp2 := hG2.blk (Ne.symm hne) HP1.out; clear a0 a1 a2 a3 f0 f1 f2 f3; obtain ⟨a0, a1, a2, a3, f0, f1, f2, f3⟩ := own4 hp2; have HR2 := Lib.hid (hR2.setO hne 3 (.slice av nv cv)); have HG2 := Lib.hid ((HG1.out.trans hG2).setO (Nat.le_refl _) 3 (.slice av nv cv)); have HK2 := Lib.hid (((Kt.refl 33 W2).set hp2 (by decide) 3 (.slice av nv cv))); have HP2 := Lib.hid (set4_3 hp2 (.slice av nv cv)); have HT2 := Lib.hid hts; clear hR2 hG2 hp2 hts))
    obtain ⟨q1, q2⟩ := four_set HR2.out HG2.out hne (Nat.le_refl _) (.string ⟨#[]⟩) (.bool false) (.string (bs nm)) (.slice av nv cv)
    refine bodyPost_ret (v := .tuple #[.agg #[.string ⟨#[]⟩, .bool false, .string (bs nm), .slice av nv cv], .bool o.isSome]) (res4 rfl rfl (four_blk HP2.out _ _ _ _)) rfl ⟨⟨⟨⟨[], false, nm, (o.getD []).take 9⟩, .slice av nv cv⟩, ⟨_, _, _, rfl⟩, by cases o <;> rfl, fun p hp => ?_⟩, q1, q2⟩
    cases o with
    | none => cases hp
    | some ts =>
      simp only [Option.map_some, Option.some.injEq] at hp
      subst hp
      refine ⟨rfl, ?_⟩
      have hsz : w.heap.size ≤ (W1.setCell ⟨w.heap.size, 2, none⟩ (.string (bs nm))).heap.size := HG1.out.size
      exact own_kt (own_base (HT2.out ts rfl) hsz) (HK2.out.trans (four_kt HP2.out _ _ _ _))
end Go.Proofs.YtmgkdghkenpmbaaGreatDoor
