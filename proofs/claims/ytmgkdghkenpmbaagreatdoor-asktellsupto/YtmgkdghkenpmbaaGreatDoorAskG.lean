/-
  The walk of the reader: the tests of a step.
-/
import Derived.Test.YtmgkdghkenpmbaaGreatDoorAskF
namespace Go.Proofs.YtmgkdghkenpmbaaGreatDoor
open Go.RowKit
set_option linter.unusedVariables false
set_option linter.unusedSimpArgs false

theorem oneMore_take {α : Type} (c : Nat) (l : List α) (x : α) : oneMore c (l.take (c + 1)) x = (l ++ [x]).take (c + 1) := by
  unfold oneMore
  by_cases h : c < l.length
  · rw [if_pos (by rw [List.length_take]; omega), List.take_append_of_le_length (by omega)]
  · rw [if_neg (by rw [List.length_take]; omega), List.take_of_length_le (by omega), List.take_of_length_le (by simp; omega)]
theorem Rd.own {b : Nat} {s : ByteArray} {r : Nm} {w w' : World} {o : Option Nat} (h : Rd b s r w) (hg : w.grownBy w' o) (hne : o ≠ some b) : Rd b s r w' := by
  obtain ⟨k, h1, h2, h3⟩ := h
  exact ⟨k, h1, h2, (hg.block b (Array.getElem?_eq_some_iff.1 h3).1 (Ne.symm hne)).trans h3⟩
theorem Gw.own {b : Nat} {a w w' : World} {o : Option Nat} (h : Gw b a w) (hg : w.grownBy w' o) (ho : ∀ k, o = some k → a.heap.size ≤ k) : Gw b a w' :=
  ⟨hg.os.trans h.os, hg.tape.trans h.tape, hg.output.trans h.output, Nat.le_trans h.size hg.size, fun k hk hne => (hg.block k (Nat.lt_of_lt_of_le hk h.size) (fun e => by have := ho k e.symm; omega)).trans (h.block k hk hne)⟩
theorem Rd.kt {b : Nat} {s : ByteArray} {r : Nm} {w w' : World} {t : TypeId} (h : Rd b s r w) (hg : Gw b w w') (ht : (45 : TypeId) ≠ t) : Kt t w w' := by
  obtain ⟨k, h1, h2, h3⟩ := h
  exact Kt.of_grown h3 ht hg
theorem Rd.atOf {b : Nat} {s : ByteArray} {r : Nm} {w : World} (h : Rd b s r w) : atOf b w = s.size - r.length ∧ r.length ≤ s.size := by
  obtain ⟨k, h1, h2, h3⟩ := h
  rw [atOf_eq (cell_at h3 rfl), ← h2, List.length_drop, ← size_len]
  omega
theorem own_ge {w : World} {base : Nat} {e : TypeId} {size : Nat} {v : Value} {n : Nat} {xs : List Value} (h : w.ownsRow base e size v n xs) : ∀ k, v.ownBlock = some k → base ≤ k := fun k hk => (h.lt k hk).1
/-- What tests gives. -/
def TsAns (w w' : World) (e : Ending) (o : Option (List Tst)) : Prop :=
  ∃ a n c, e = .returned (.tuple #[.slice a n c, .bool o.isSome]) ∧ ∀ ts, o = some ts → w'.ownsRow w.heap.size 33 5 (.slice a n c) (ts.take 9).length (cellsT (ts.take 9))
/-- The tests that are read so far. -/
structure TsI (b : Nat) (s : ByteArray) (r0 : Nm) (w : World) (v : Value) (acc : List Tst) (q : Nm) (wr : World) : Prop where
  own : wr.ownsRow w.heap.size 33 5 v (acc.take 9).length (cellsT (acc.take 9))
  eq : testsR r0 = ((testsR q).1, (testsR q).2.map (acc ++ ·))
  rd : Rd b s q wr
  gw : Gw b w wr
  sg : Sg wr
theorem tsI_on {b : Nat} {s : ByteArray} {r0 : Nm} {w : World} {v : Value} {acc : List Tst} {q : Nm} {wr : World} (h : TsI b s r0 w v acc q wr) {x : Tst} (hx : (pTest q).2 = some x) (h44 : seesB (pTest q).1 44 = true) :
    testsR r0 = ((testsR (pTest q).1.tail).1, (testsR (pTest q).1.tail).2.map ((acc ++ [x]) ++ ·)) := by
  rw [h.eq, testsR_on hx h44]
  simp only [Option.map_map]
  congr 2; funext l; simp
theorem tail_lt {q : Nm} {x : Tst} (hx : (pTest q).2 = some x) : (pTest q).1.tail.length < q.length := by
  have := pTest_len (r := q) (by rw [hx]; rfl)
  have := List.length_tail (l := (pTest q).1)
  omega
/-- What lies behind one round, up to the word between. -/
theorem tsI_step {b : Nat} {s : ByteArray} {r0 : Nm} {w wr W1 W2 : World} {v v' : Value} {acc : List Tst} {q q1 : Nm} {x : Tst} {o : Obj} (h : TsI b s r0 w v acc q wr) (hbl : b < w.heap.size) (hb : b ≠ 0) (hR1 : Rd b s q1 W1) (hG1 : Gw b wr W1)
    (hO2 : W2.ownsRow w.heap.size 33 5 v' (oneMore 8 (acc.take 9) x).length (cellsT (oneMore 8 (acc.take 9) x))) (hg2 : (W1.alloc o).grownBy W2 v.ownBlock) :
    W2.ownsRow w.heap.size 33 5 v' ((acc ++ [x]).take 9).length (cellsT ((acc ++ [x]).take 9)) ∧ Rd b s q1 W2 ∧ Gw b w W2 ∧ Sg W2 := by
  rw [oneMore_take] at hO2
  have hge := own_ge h.own
  have hne : v.ownBlock ≠ some b := fun e => by have := hge b e; omega
  have hR2 := (hR1.alloc o).own hg2 hne
  have hGa : Gw b w (W1.alloc o) := (h.gw.trans hG1).alloc o
  have hS1 := (h.sg.gw hG1 hb).gw ((Gw.refl b W1).alloc o) hb
  have hGs : Gw b w W2 := hGa.own hg2 hge
  refine ⟨hO2, hR2, hGs, ?_⟩
  have e : W2.heap[0]? = (W1.alloc o).heap[0]? := hg2.block 0 hS1.lt (fun e => by have := hge 0 e.symm; omega)
  have k : ∀ i, W2.cell? ⟨0, i, none⟩ = (W1.alloc o).cell? ⟨0, i, none⟩ := fun i => by simp only [World.cell?, e]
  unfold Sg; rw [k, k, k]; exact hS1

set_option maxHeartbeats 4000000 in
set_option maxRecDepth 100000 in
theorem tests_any {b : Nat} {s : ByteArray} {r : Nm} {w : World} (h : Rd b s r w) (hs : s.size ≤ 140737488355328) (hS : Sg w) (hb : b ≠ 0) :
    Calls Tryz.prog 43 #[rp b] w fun e w' => TsAns w w' e (pTests r).2 ∧ Rd b s (pTests r).1 w' ∧ Gw b w w' := by
  have hbl := h.lt
  have hs' : s.size ≤ maxLen := by unfold maxLen; omega
  by_cases h91 : seesB r 91 = true
  · have cT := take1_yes h hs' h91
    have HE : Hid (pTests r = testsR r.tail) := by show _ = _; unfold pTests; rw [if_pos h91]
    rw [HE.out]
    clear h91 HE h
    generalize r.tail = r0 at cT ⊢
    go_enter Tryz.func43, Tryz.ntmps43
    go_wp2_with (go_at_call 58; refine cT.mono ?_; rintro e W0 ⟨rfl, hR0, hG0⟩)
    have hI0 : TsI b s r0 w (.slice none 0 0) [] r0 W0 := ⟨World.ownsRow_nil _ _ _ _, by simp, hR0, hG0, hS.gw hG0 hb⟩
    clear cT hR0 hG0 hS
    go_loopw [2] (fun v wr => ∃ (acc : List Tst) (q : Nm), TsI b s r0 w v acc q wr) (fun v wr => s.size - atOf b wr)
    case atStart => exact ⟨[], r0, hI0⟩
    case round =>
      obtain ⟨acc, q, hI⟩ := hrel
      clear hI0
      have cX := test_any hI.rd hs hI.sg hb
      rcases hx : (pTest q).2 with _ | x
      · rw [hx] at cX
        have HE : Hid (testsR r0 = ((pTest q).1, none)) := by show _ = _; rw [hI.eq, testsR_no hx]; rfl
        have HI := Lib.hid hI
        clear hI hx
        go_wp2_with (go_at_call 60; refine cX.mono ?_; rintro e W1 ⟨⟨x, rfl, _⟩, hR1, hG1⟩)
        go_ret2
        rw [HE.out]
        exact ⟨⟨none, 0, 0, rfl, fun ts h => by cases h⟩, hR1.alloc _, (HI.out.gw.trans hG1).alloc _⟩
      · rw [hx] at cX
        have hlen : (acc.take 9).length ≤ 9 := by rw [List.length_take]; omega
        have HL := Lib.hid hlen
        have HI := Lib.hid hI
        have HX := Lib.hid hx
        have HA := Lib.hid hI.rd.atOf
        clear hI hx hlen
        go_wp2_with (first | (go_at_call 60; refine cX.mono ?_; rintro e W1 ⟨⟨x', rfl, hx'⟩, hR1, hG1⟩; obtain rfl := hx' _ rfl; have HR1 := Lib.hid hR1; have HG1 := Lib.hid hG1; have HO1 := Lib.hid ((own_kt HI.out.own (HI.out.rd.kt hG1 (by decide))).alloc (boxT x')); have HZ := Lib.hid (Nat.le_trans (HI.out.gw.trans hG1).size (Nat.le_of_lt (by simp) : W1.heap.size ≤ (W1.alloc (boxT x')).heap.size)); clear hR1 hG1 hx') | (go_at_call 61; refine (withOneT_any _ _ _ _ _ HO1.out HZ.out HL.out).mono ?_; rintro e W2 ⟨v', rfl, hO2, hg2⟩; refine Hid.out ?_))
        refine Lib.hid ?_
        obtain ⟨hO3, hR3, hG3, hS3⟩ := tsI_step HI.out hbl hb HR1.out HG1.out hO2 hg2
        clear hO2 hg2
        by_cases h44 : seesB (pTest q).1 44 = true
        · have cC := take1_yes hR3 hs' h44
          have HE := Lib.hid (tsI_on HI.out HX.out h44)
          have HT := Lib.hid (tail_lt HX.out)
          have HK := Lib.hid (⟨hO3, hR3, hG3, hS3⟩ : _ ∧ _ ∧ _ ∧ _)
          clear hO3 hR3 hG3 hS3 h44
          go_wp2_with (go_at_call 58; refine cC.mono ?_; rintro e W3 ⟨rfl, hR4, hG4⟩)
          go_roundw
          case rel => exact ⟨_, _, ⟨own_kt HK.out.1 (HK.out.2.1.kt hG4 (by decide)), HE.out, hR4, HK.out.2.2.1.trans hG4, HK.out.2.2.2.gw hG4 hb⟩⟩
          case measure =>
            have h1 := HA.out
            have h2 := hR4.atOf
            have h3 := HT.out
            omega
        · have h44' : seesB (pTest q).1 44 = false := by simpa using h44
          have cC := take1_no hR3 hs' h44'
          have HK := Lib.hid (⟨hO3, hR3, hG3, hS3⟩ : _ ∧ _ ∧ _ ∧ _)
          clear hO3 hR3 hG3 hS3 h44
          go_wp2_with (go_at_call 58; refine cC.mono ?_; rintro e W3 ⟨rfl, hR4, hG4⟩; refine Hid.out ?_)
          refine Lib.hid ?_
          have HO4 := Lib.hid (own_kt HK.out.1 (HK.out.2.1.kt hG4 (by decide)))
          obtain ⟨av, nv, ev⟩ := own_slice HO4.out
          have HV := Lib.hid ev
          clear ev
          by_cases h93 : seesB (pTest q).1 93 = true
          · have cD := take1_yes hR4 hs' h93
            have HE : Hid (testsR r0 = ((pTest q).1.tail, some (acc ++ [x']))) := by show _ = _; rw [HI.out.eq, testsR_shut HX.out h44' h93]; rfl
            have HR4 := Lib.hid hR4
            have HG4 := Lib.hid (HK.out.2.2.1.trans hG4)
            clear hR4 hG4 h93 h44'
            go_wp2_with (go_at_call 58; refine cD.mono ?_; rintro e W4 ⟨rfl, hR5, hG5⟩)
            go_ret2
            rw [HE.out]
            refine ⟨⟨av, _, nv, by rw [← HV.out]; rfl, fun ts h => ?_⟩, hR5, HG4.out.trans hG5⟩
            injection h with h
            subst h
            rw [← HV.out]
            exact own_kt HO4.out (HR4.out.kt hG5 (by decide))
          · have h93' : seesB (pTest q).1 93 = false := by simpa using h93
            have cD := take1_no hR4 hs' h93'
            have HE : Hid (testsR r0 = ((pTest q).1, none)) := by show _ = _; rw [HI.out.eq, testsR_bad HX.out h44' h93']; rfl
            have HG4 := Lib.hid (HK.out.2.2.1.trans hG4)
            clear hR4 hG4 h93 h93' h44'
            go_wp2_with (go_at_call 58; refine cD.mono ?_; rintro e W4 ⟨rfl, hR5, hG5⟩)
            go_ret2
            rw [HE.out]
            exact ⟨⟨av, _, nv, by rw [← HV.out]; rfl, fun ts h => by cases h⟩, hR5, HG4.out.trans hG5⟩
  · have h91' : seesB r 91 = false := by simpa using h91
    have cT := take1_no h hs' h91'
    have HE : Hid (pTests r = (r, some [])) := by show _ = _; unfold pTests; rw [if_neg h91]
    rw [HE.out]
    clear h91 HE h91' h hS
    go_enter Tryz.func43, Tryz.ntmps43
    go_wp2_with (go_at_call 58; refine cT.mono ?_; rintro e W0 ⟨rfl, hR0, hG0⟩)
    go_ret2
    refine ⟨⟨none, 0, 0, rfl, fun ts h => ?_⟩, hR0, hG0⟩
    injection h with h
    subst h
    exact World.ownsRow_nil _ _ _ _
end Go.Proofs.YtmgkdghkenpmbaaGreatDoor
