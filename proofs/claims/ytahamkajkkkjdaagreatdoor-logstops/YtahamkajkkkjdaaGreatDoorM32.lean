import Derived.Test.YtahamkajkkkjdaaGreatDoorM03
import Derived.Test.YtahamkajkkkjdaaGreatDoorM24
import Derived.Test.YtahamkajkkkjdaaGreatDoorM29
import Derived.Test.YtahamkajkkkjdaaGreatDoorM31
import Derived.Test.YtahamkajkkkjdaaGreatDoorM30
import Derived.Deep.DeepCutAuto
import Derived.Test.YtahamkajkkkjdaaGreatDoorM02
namespace Go.Proofs.YtahamkajkkkjdaaGreatDoor
open Go.RowKit
set_option linter.unusedVariables false
set_option linter.unusedSimpArgs false
def putE (L : List Kd) (B : List Bd) (O : List Opx) (N : List Nd) (T : List Te) : Int :=
  if opS.err O N T = 0 then (if confB L B (opS.res O N T).1 (opS.res O N T).2 = true then 0 else 9) else opS.err O N T
abbrev zS : Value := .agg #[.slice none 0 0, .slice none 0 0, .slice none 0 0, .slice none 0 0]
def PutP (w : World) (vk vb : Value) (L : List Kd) (B : List Bd) (O : List Opx) (N : List Nd) (T : List Te) (e : Ending) (w' : World) : Prop :=
  Below w.heap.size w w' ∧ (putE L B O N T = 0 → ∃ un ut M, e = .returned (.tuple #[.agg #[vk, vb, un, ut], .nilIface]) ∧ cN M = (opS.res O N T).1 ∧ OwnNs w' w.heap.size un M ∧ OwnTs w' w.heap.size ut (opS.res O N T).2 ∧ gErr M (opS.res O N T).2 = 0) ∧
    (putE L B O N T ≠ 0 → e = .returned (.tuple #[zS, .iface 76 (.int .i64 (putE L B O N T))]))
theorem ownNs_b {w : World} {base base' : Nat} {v : Value} {N : List Nd} (h : OwnNs w base v N) (hb : base' ≤ base) : OwnNs w base' v N := ⟨own_base h.1 hb, fun n hn => own_base (h.2 n hn) hb⟩
theorem info69 : (Tryz.prog.info? 69).map (fun i => i.size) = some 4 := by kernel_rfl
theorem isG_own {w : World} {base : Nat} {un ut : Value} {M : List Nd} {U : List Te} (h1 : OwnNs w base un M) (h2 : OwnTs w base ut U) (h : gErr M U = 0) : IsG w (.agg #[un, ut]) M U := by
  obtain ⟨z1, z2⟩ := gErr_sz h
  obtain ⟨l60, l120, _, _⟩ := gErr_lens h
  exact ⟨un, ut, rfl, h1.isN, h2.isT, z1, z2, by unfold maxLen; omega, by unfold maxLen; omega⟩
set_option maxHeartbeats 8000000 in
set_option maxRecDepth 100000 in
theorem lput_any {w : World} {vk vb vn vt vl : Value} {L : List Kd} {B : List Bd} {N : List Nd} {T : List Te} {O : List Opx} (hs : IsSc w (.agg #[vk, vb]) L B) (hg : IsG w (.agg #[vn, vt]) N T) (hO : IsO w vl O) (zO : ∀ o ∈ O, OpSz o) (lO : O.length ≤ 40) (he : gErr N T = 0) (hse : (sErr L B).2 = 0) :
    Calls Tryz.prog 30 #[.agg #[vk, vb, vn, vt], vl] w (PutP w vk vb L B O (cN N) T) := by
  obtain ⟨vn', vt', e0, hN, hT, zN, zT, _, _⟩ := id hg
  injection e0 with e0
  simp only [Array.mk.injEq, List.cons.injEq, and_true] at e0
  obtain ⟨rfl, rfl⟩ := e0
  obtain ⟨an, cn, rfl, _⟩ := id hN
  obtain ⟨at', ct, rfl, _⟩ := id hT
  obtain ⟨vk', vb', e1, hK, _, _, hb, _⟩ := id hs
  injection e1 with e1
  simp only [Array.mk.injEq, List.cons.injEq, and_true] at e1
  obtain ⟨rfl, rfl⟩ := e1
  obtain ⟨ak, ck, rfl, _⟩ := hK.sln
  obtain ⟨ab, cb, rfl, _⟩ := hb.sln
  obtain ⟨w2, hw2⟩ : ∃ w2, w2 = (w.alloc (.cells #[.slice ak L.length ck, .slice ab B.length cb, .slice an N.length cn, .slice at' T.length ct] 69)).alloc (.cells #[.slice none 0 0, .slice none 0 0, .slice none 0 0, .slice none 0 0] 69) := ⟨_, rfl⟩
  have hB2 : Below w.heap.size w w2 := by rw [hw2]; exact bA (bA (Below.refl _ _) (Nat.le_refl _) _) (Nat.le_refl _) _
  have hz2 : w2.heap.size = w.heap.size + 2 := by rw [hw2]; simp
  have k0 : w2.heap[w.heap.size]? = some (.cells #[.slice ak L.length ck, .slice ab B.length cb, .slice an N.length cn, .slice at' T.length ct] 69 (0, 0)) := by
    rw [hw2, Below.heap_alloc _ _ _ (by simp)]; exact heap_alloc_new w _
  have k1 : w2.heap[w.heap.size + 1]? = some (.cells #[.slice none 0 0, .slice none 0 0, .slice none 0 0, .slice none 0 0] 69 (0, 0)) := by
    rw [hw2]
    have := heap_alloc_new (w.alloc (.cells #[.slice ak L.length ck, .slice ab B.length cb, .slice an N.length cn, .slice at' T.length ct] 69)) (.cells #[.slice none 0 0, .slice none 0 0, .slice none 0 0, .slice none 0 0] 69)
    rwa [World.size_alloc] at this
  have cA := all_in opS (hN.on hB2) (hT.on hB2) zN zT he (hO.on hB2) lO zO (fun o _ => apply_all o) (fun o _ => keeps_all o)
  have HC : Hid (∀ W, Below w2.heap.size w2 W → W.cell? ⟨w.heap.size, 0, none⟩ = some (.slice ak L.length ck) ∧ W.cell? ⟨w.heap.size, 1, none⟩ = some (.slice ab B.length cb) ∧ W.heap[w.heap.size + 1]? = some (.cells #[.slice none 0 0, .slice none 0 0, .slice none 0 0, .slice none 0 0] 69 (0, 0)) ∧ Below w.heap.size w W) := fun W hB => by
    have q0 := (hB.block w.heap.size (by omega)).trans k0
    exact ⟨cell_at q0 rfl, cell_at q0 rfl, (hB.block _ (by omega)).trans k1, on1K hB2 hB (Nat.le_refl _)⟩
  have HS := Lib.hid (And.intro hs (And.intro hse hB2))
  have HZ := Lib.hid hz2
  by_cases h0 : opS.err O (cN N) T = 0
  · have cY : Calls Tryz.prog 52 #[.agg #[.slice an N.length cn, .slice at' T.length ct], vl] w2 fun e w' => ∃ a1 n1 c1 a2 n2 c2 M, e = .returned (.tuple #[.agg #[.slice a1 n1 c1, .slice a2 n2 c2], .int .i64 0, .nilIface]) ∧ cN M = (opS.res O (cN N) T).1 ∧ OwnNs w' w2.heap.size (.slice a1 n1 c1) M ∧ OwnTs w' w2.heap.size (.slice a2 n2 c2) (opS.res O (cN N) T).2 ∧ gErr M (opS.res O (cN N) T).2 = 0 ∧ Below w2.heap.size w2 w' := by
      refine cA.mono ?_
      rintro e w' ⟨hB, ⟨_, un, ut, M, rfl, q1, q2, q3, q4⟩ | ⟨h, _⟩⟩
      · obtain ⟨a1, c1, rfl⟩ := own_slice q2.1
        obtain ⟨a2, c2, rfl⟩ := own_slice q3
        exact ⟨a1, _, c1, a2, _, c2, M, rfl, q1, q2, q3, q4, hB⟩
      · exact absurd h0 h
    have hE : putE L B O (cN N) T = if confB L B (opS.res O (cN N) T).1 (opS.res O (cN N) T).2 = true then 0 else 9 := by unfold putE; rw [if_pos h0]
    have HCf : Hid (∀ W a1 n1 c1 a2 n2 c2 M, cN M = (opS.res O (cN N) T).1 → OwnNs W w2.heap.size (.slice a1 n1 c1) M → OwnTs W w2.heap.size (.slice a2 n2 c2) (opS.res O (cN N) T).2 → gErr M (opS.res O (cN N) T).2 = 0 → Below w2.heap.size w2 W → Calls Tryz.prog 53 #[.agg #[.slice ak L.length ck, .slice ab B.length cb], .agg #[.slice a1 n1 c1, .slice a2 n2 c2]] (W.alloc (.cells #[.slice a1 n1 c1, .slice a2 n2 c2] 67)) fun e w' => e = .returned (.tuple #[.bool (confB L B (opS.res O (cN N) T).1 (opS.res O (cN N) T).2), .nilIface]) ∧ w'.cell? ⟨W.heap.size, 0, none⟩ = some (.slice a1 n1 c1) ∧ w'.cell? ⟨W.heap.size, 1, none⟩ = some (.slice a2 n2 c2) ∧ OwnNs w' w.heap.size (.slice a1 n1 c1) M ∧ OwnTs w' w.heap.size (.slice a2 n2 c2) (opS.res O (cN N) T).2 ∧ Below w2.heap.size w2 w') := fun W a1 n1 c1 a2 n2 c2 M q1 q2 q3 q4 hB => by
      have hBa := bA (Below.refl W.heap.size W) (Nat.le_refl _) (.cells #[.slice a1 n1 c1, .slice a2 n2 c2] 67)
      have hB3 := on1K hB hBa (Nat.le_refl _)
      have hnew := heap_alloc_new W (.cells #[.slice a1 n1 c1, .slice a2 n2 c2] 67)
      have kk : ∀ t, Kt t W (W.alloc (.cells #[.slice a1 n1 c1, .slice a2 n2 c2] 67)) := fun t => .of_below hBa
      obtain ⟨hs, hse, hB2⟩ := HS.out
      refine (conforms_any (hs.on (on1K hB2 hB3 (Nat.le_refl _))) (isG_own (q2.kt (kk _) (kk _)) (q3.kt (kk _)) q4)).mono ?_
      rintro e w' ⟨rfl, hB4⟩
      have hi : inE L B M (opS.res O (cN N) T).2 = 0 := by unfold inE; rw [if_pos hse]; exact q4
      have k4 : ∀ t, Kt t W w' := fun t => (kk t).trans (.of_below hB4)
      have hn4 := (hB4.block _ (Array.getElem?_eq_some_iff.1 hnew).1).trans hnew
      refine ⟨?_, cell_at hn4 rfl, cell_at hn4 rfl, ownNs_b (q2.kt (k4 _) (k4 _)) hB2.size, own_base (q3.kt (k4 _)) hB2.size, on1K hB3 hB4 (Nat.le_refl _)⟩
      rw [hi, ← q1, confB_c]
      rfl
    clear hs hg hN hT hK hb zN zT hO cA hB2 k0 k1 he hse zO lO hz2
    generalize hRS : opS.res O (cN N) T = RS at *
    have HRS := Lib.hid hRS
    clear hRS
    cases hc : confB L B RS.1 RS.2 with
    | true =>
      rw [hc] at hE
      simp only [if_true] at hE
      rw [hc] at HCf
      subst hw2
      go_enter Tryz.func30, Tryz.ntmps30
      go_wp2_with (first
        | (go_at_call 52; refine cY.mono ?_; rintro e W1 ⟨a1, n1, c1, a2, n2, c2, M, rfl, q1, q2, q3, q4, hB1⟩; obtain ⟨y0, y1, y2, y3⟩ := HC.out W1 hB1; have u0 := cellOld y0 (.cells #[.slice a1 n1 c1, .slice a2 n2 c2] 67); have u1 := cellOld y1 (.cells #[.slice a1 n1 c1, .slice a2 n2 c2] 67); have HW1 := Lib.hid (And.intro q1 (And.intro q2 (And.intro q3 (And.intro q4 hB1)))); clear q1 q2 q3 q4 hB1)
        | (go_at_call 53; refine (HCf.out _ _ _ _ _ _ _ _ HW1.out.1 HW1.out.2.1 HW1.out.2.2.1 HW1.out.2.2.2.1 HW1.out.2.2.2.2).mono ?_; rintro e W2 ⟨rfl, c0, c1', hN2, hT2, hB2⟩; obtain ⟨z0, z1, z2, z3⟩ := HC.out W2 hB2; have x0 : W2.cell? ⟨w.heap.size + 1, 0, none⟩ = some (.slice none 0 0) := cell_at z2 rfl; have f0 : W2.frozen? ⟨w.heap.size + 1, 0, none⟩ = false := frz_at z2; have x1 : W2.cell? ⟨w.heap.size + 1, 1, none⟩ = some (.slice none 0 0) := cell_at z2 rfl; have f1 : W2.frozen? ⟨w.heap.size + 1, 1, none⟩ = false := frz_at z2; have x2 : W2.cell? ⟨w.heap.size + 1, 2, none⟩ = some (.slice none 0 0) := cell_at z2 rfl; have f2 : W2.frozen? ⟨w.heap.size + 1, 2, none⟩ = false := frz_at z2; have x3 : W2.cell? ⟨w.heap.size + 1, 3, none⟩ = some (.slice none 0 0) := cell_at z2 rfl; have f3 : W2.frozen? ⟨w.heap.size + 1, 3, none⟩ = false := frz_at z2; have HW2 := Lib.hid (And.intro hN2 (And.intro hT2 hB2)); clear hN2 hT2 hB2)
        | fail)
      refine bodyPost_ret (v := .tuple #[.agg #[.slice ak L.length ck, .slice ab B.length cb, .slice a1 n1 c1, .slice a2 n2 c2], .nilIface]) (results_cell2 (p := 4) (u := 5) (ty := 69) rfl _ _ (w.heap.size + 1) 69 _ (0, 0) _ rfl (lset4_heap z2) Tryz.underlying69 rfl info69) rfl ?_
      have kk : ∀ t, t ≠ 69 → Kt t W2 (lset4 W2 (w.heap.size + 1) (.slice ak L.length ck) (.slice ab B.length cb) (.slice a1 n1 c1) (.slice a2 n2 c2)) := fun t ht => lset4_kt z2 (Ne.symm ht)
      obtain ⟨q2, q3, _⟩ := HW2.out
      unfold PutP
      rw [HRS.out]
      refine ⟨(lset4_bx (l := []) (Bx.of_below z3 (Nat.le_refl _)) (.inr (Nat.le_succ _)) _ _ _ _).below (Nat.le_refl _) (fun _ h => by cases h), fun _ => ⟨.slice a1 n1 c1, .slice a2 n2 c2, M, rfl, HW1.out.1, q2.kt (kk _ (by decide)) (kk _ (by decide)), q3.kt (kk _ (by decide)), HW1.out.2.2.2.1⟩, fun h => absurd hE h⟩
    | false =>
      rw [hc] at hE
      rw [hc] at HCf
      subst hw2
      go_enter Tryz.func30, Tryz.ntmps30
      go_wp2_with (first
        | (go_at_call 52; refine cY.mono ?_; rintro e W1 ⟨a1, n1, c1, a2, n2, c2, M, rfl, q1, q2, q3, q4, hB1⟩; obtain ⟨y0, y1, y2, y3⟩ := HC.out W1 hB1; have u0 := cellOld y0 (.cells #[.slice a1 n1 c1, .slice a2 n2 c2] 67); have u1 := cellOld y1 (.cells #[.slice a1 n1 c1, .slice a2 n2 c2] 67); have HW1 := Lib.hid (And.intro q1 (And.intro q2 (And.intro q3 (And.intro q4 hB1)))); clear q1 q2 q3 q4 hB1)
        | (go_at_call 53; refine (HCf.out _ _ _ _ _ _ _ _ HW1.out.1 HW1.out.2.1 HW1.out.2.2.1 HW1.out.2.2.2.1 HW1.out.2.2.2.2).mono ?_; rintro e W2 ⟨rfl, c0, c1', hN2, hT2, hB2⟩; obtain ⟨z0, z1, z2, z3⟩ := HC.out W2 hB2; have x0 : W2.cell? ⟨w.heap.size + 1, 0, none⟩ = some (.slice none 0 0) := cell_at z2 rfl; have f0 : W2.frozen? ⟨w.heap.size + 1, 0, none⟩ = false := frz_at z2; have x1 : W2.cell? ⟨w.heap.size + 1, 1, none⟩ = some (.slice none 0 0) := cell_at z2 rfl; have f1 : W2.frozen? ⟨w.heap.size + 1, 1, none⟩ = false := frz_at z2; have x2 : W2.cell? ⟨w.heap.size + 1, 2, none⟩ = some (.slice none 0 0) := cell_at z2 rfl; have f2 : W2.frozen? ⟨w.heap.size + 1, 2, none⟩ = false := frz_at z2; have x3 : W2.cell? ⟨w.heap.size + 1, 3, none⟩ = some (.slice none 0 0) := cell_at z2 rfl; have f3 : W2.frozen? ⟨w.heap.size + 1, 3, none⟩ = false := frz_at z2; have HW2 := Lib.hid (And.intro hN2 (And.intro hT2 hB2)); clear hN2 hT2 hB2)
        | fail)
      rw [if_neg (by decide)] at hE
      refine bodyPost_ret (v := .tuple #[zS, .iface 76 (.int .i64 9)]) (results_cell2 (p := 4) (u := 5) (ty := 69) rfl _ _ (w.heap.size + 1) 69 _ (0, 0) _ rfl (lset4_heap z2) Tryz.underlying69 rfl info69) rfl ?_
      refine ⟨(lset4_bx (l := []) (Bx.of_below z3 (Nat.le_refl _)) (.inr (Nat.le_succ _)) _ _ _ _).below (Nat.le_refl _) (fun _ h => by cases h), fun h => absurd (hE.symm.trans h) (by decide), fun _ => by rw [hE]⟩
  · have hE : putE L B O (cN N) T = opS.err O (cN N) T := by unfold putE; rw [if_neg h0]
    obtain ⟨ev, hev⟩ : ∃ ev, ev = opS.err O (cN N) T := ⟨_, rfl⟩
    have cE : Calls Tryz.prog 52 #[.agg #[.slice an N.length cn, .slice at' T.length ct], vl] w2 fun e w' => (∃ k, e = .returned (.tuple #[.agg #[.slice none 0 0, .slice none 0 0], .int .i64 k, .iface 76 (.int .i64 ev)])) ∧ Below w2.heap.size w2 w' := by
      refine cA.mono ?_
      rintro e w' ⟨hB, ⟨h, _⟩ | ⟨h, rfl⟩⟩
      · exact absurd h h0
      · exact ⟨⟨_, by rw [errV_ne h, hev]⟩, hB⟩
    have HE := Lib.hid (And.intro hE (And.intro hev h0))
    clear hs hg hN hT hK hb zN zT hO cA hB2 k0 k1 he hse zO lO hz2 hE hev h0
    subst hw2
    go_enter Tryz.func30, Tryz.ntmps30
    go_wp2_with (first
      | (go_at_call 52; refine cE.mono ?_; rintro e W1 ⟨⟨k, rfl⟩, hB1⟩; obtain ⟨y0, y1, y2, y3⟩ := HC.out W1 hB1; have hb' := bA (Below.refl W1.heap.size W1) (Nat.le_refl _) (.cells #[.slice none 0 0, .slice none 0 0] 67); have y2' := (hb'.block _ (Array.getElem?_eq_some_iff.1 y2).1).trans y2; have x0 : (W1.alloc (.cells #[.slice none 0 0, .slice none 0 0] 67)).cell? ⟨w.heap.size + 1, 0, none⟩ = some (.slice none 0 0) := cell_at y2' rfl; have f0 : (W1.alloc (.cells #[.slice none 0 0, .slice none 0 0] 67)).frozen? ⟨w.heap.size + 1, 0, none⟩ = false := frz_at y2'; have x1 : (W1.alloc (.cells #[.slice none 0 0, .slice none 0 0] 67)).cell? ⟨w.heap.size + 1, 1, none⟩ = some (.slice none 0 0) := cell_at y2' rfl; have f1 : (W1.alloc (.cells #[.slice none 0 0, .slice none 0 0] 67)).frozen? ⟨w.heap.size + 1, 1, none⟩ = false := frz_at y2'; have x2 : (W1.alloc (.cells #[.slice none 0 0, .slice none 0 0] 67)).cell? ⟨w.heap.size + 1, 2, none⟩ = some (.slice none 0 0) := cell_at y2' rfl; have f2 : (W1.alloc (.cells #[.slice none 0 0, .slice none 0 0] 67)).frozen? ⟨w.heap.size + 1, 2, none⟩ = false := frz_at y2'; have x3 : (W1.alloc (.cells #[.slice none 0 0, .slice none 0 0] 67)).cell? ⟨w.heap.size + 1, 3, none⟩ = some (.slice none 0 0) := cell_at y2' rfl; have f3 : (W1.alloc (.cells #[.slice none 0 0, .slice none 0 0] 67)).frozen? ⟨w.heap.size + 1, 3, none⟩ = false := frz_at y2'; have HY := Lib.hid (And.intro y2' (y3.trans (hb'.mono y3.size))); clear hB1 hb' y3 y2 y2')
      | fail)
    obtain ⟨hE, hev, h0⟩ := HE.out
    refine bodyPost_ret (v := .tuple #[zS, .iface 76 (.int .i64 ev)]) (results_cell2 (p := 4) (u := 5) (ty := 69) rfl _ _ (w.heap.size + 1) 69 _ (0, 0) _ rfl (lset4_heap HY.out.1) Tryz.underlying69 rfl info69) rfl ?_
    refine ⟨(lset4_bx (l := []) (Bx.of_below HY.out.2 (Nat.le_refl _)) (.inr (Nat.le_succ _)) _ _ _ _).below (Nat.le_refl _) (fun _ h => by cases h), fun h => absurd (hE.symm.trans h) h0, fun _ => by rw [hE, hev]⟩
theorem Wf.alloc {B b : Nat} {w : World} (hB : B ≤ w.heap.size) (o : Obj) : Wf B b w (w.alloc o) := .of_below (bA (Below.refl _ w) (Nat.le_refl _) o) hB
theorem Wr.alloc {w : World} {B b : Nat} {l : List UInt8} (h : Wr w B b l) (o : Obj) : Wr (w.alloc o) B b l := h.on (bA (Below.refl _ w) (Nat.le_refl _) o)
set_option maxHeartbeats 4000000 in
set_option maxRecDepth 100000 in
theorem wtru_any {w : World} {B b : Nat} {l : List UInt8} (h : Wr w B b l) {a : Addr} {t : Bool} (ht : w.cell? a = some (.bool t)) (hl : l.length ≤ 1099511627776) :
    Calls Tryz.prog 280 #[.pointer (some ⟨b, 0, none⟩), .pointer (some a)] w fun e w' => e = .returned (.tuple #[]) ∧ Wr w' B b (l ++ encB t) ∧ Wf B b w w' := by
  have d1 := cellOld ht (.cells #[.int .i64 0] 3)
  have cN : Hid (∀ k : Int, 0 ≤ k → k ≤ 1 → Calls Tryz.prog 57 #[.pointer (some ⟨b, 0, none⟩), .pointer (some ⟨w.heap.size, 0, none⟩)] (w.alloc (.cells #[.int .i64 k] 3)) fun e w' => e = .returned (.tuple #[]) ∧ Wr w' B b (l ++ encN k) ∧ Wf B b w w') := fun k h0 h1 =>
    (wnum_any (h.alloc _) (a := ⟨w.heap.size, 0, none⟩) (n := k) (cell_at (heap_alloc_new w _) rfl) (by omega) (by omega) hl).mono fun e w' q => ⟨q.1, q.2.1, (Wf.alloc h.hB _).trans q.2.2⟩
  clear h
  cases t with
  | true =>
    have c := cN.out 1 (by omega) (by omega)
    have e : encB true = encN 1 := rfl
    rw [e]
    go_enter Tryz.func280, Tryz.ntmps280
    go_wp2_with (go_at_call 57; refine c.mono ?_; rintro e w' ⟨rfl, q⟩)
    go_end0
    exact ⟨rfl, q⟩
  | false =>
    have c := cN.out 0 (by omega) (by omega)
    have e : encB false = encN 0 := rfl
    rw [e]
    go_enter Tryz.func280, Tryz.ntmps280
    go_wp2_with (go_at_call 57; refine c.mono ?_; rintro e w' ⟨rfl, q⟩)
    go_end0
    exact ⟨rfl, q⟩
set_option maxHeartbeats 8000000 in
set_option maxRecDepth 100000 in
theorem wtext_any {w : World} {B b : Nat} {l : List UInt8} (h : Wr w B b l) {a : Addr} {x : ByteArray} (hs : ∀ w', Wf B b w w' → w'.cell? a = some (.string x)) (hl : l.length + x.data.toList.length ≤ 1099511627776) :
    Calls Tryz.prog 32 #[.pointer (some ⟨b, 0, none⟩), .pointer (some a)] w fun e w' => e = .returned (.tuple #[]) ∧ Wr w' B b (l ++ encT x.data.toList) ∧ Wf B b w w' := by
  have hz : x.size = x.data.toList.length := by rw [Array.length_toList]; rfl
  have c0 := hs w (Wf.refl _ _ _)
  have cN := (wnum_any (h.alloc (.cells #[.int .i64 (x.size : Int)] 3)) (a := ⟨w.heap.size, 0, none⟩) (n := (x.size : Int)) (cell_at (heap_alloc_new w _) rfl) (by omega) (by omega) (by omega)).mono fun e w' q => (⟨q.1, q.2.1, (Wf.alloc h.hB _).trans q.2.2⟩ : e = .returned (.tuple #[]) ∧ Wr w' B b (l ++ encN (x.size : Int)) ∧ Wf B b w w')
  have hnl : (encN (x.size : Int)).length ≤ 22 := by
    unfold encN
    have := Lib.itoa_length_le (x.size : Int) (by omega) (by omega)
    simp; omega
  have HX : Hid ((l ++ encN (x.size : Int)) ++ x.data.toList = l ++ encT x.data.toList) := by
    show _ = _
    unfold encT
    rw [List.append_assoc, hz]
  have HS := Lib.hid hs
  have HZ := Lib.hid hz
  have HL : Hid (((l ++ encN (x.size : Int)) ++ x.data.toList).length ≤ 4398046511104) := by
    show _ ≤ _
    rw [List.length_append, List.length_append]; omega
  have hB := Lib.hid h.hB
  clear hs hz hnl hl h
  go_enter Tryz.func32, Tryz.ntmps32
  go_wp2_with (first | (go_at_call 57; refine cN.mono ?_; rintro e W1 ⟨rfl, hW, hF⟩; refine Hid.out ?_))
  refine Lib.hid ?_
  obtain ⟨sv, hb, hown⟩ := hW.row
  have hlen : (l ++ encN (x.size : Int)).length ≤ 4398046511104 := by have := HL.out; rw [List.length_append] at this; omega
  have k0 : W1.cell? ⟨b, 0, none⟩ = some sv := cell_at hb rfl
  have k1 : W1.frozen? ⟨b, 0, none⟩ = false := frz_at hb
  have k2 := HS.out W1 hF
  obtain ⟨ao, cp, rfl⟩ := own_slice hown
  have HP : Hid (∃ v' w', (Builtin.append_ #[70, 9] 70 #[.slice ao (l ++ encN (x.size : Int)).length cp, .string x]).run Tryz.prog W1.drew = .ok v' w' ∧ ((∃ a2 n2 d2, v' = .slice a2 n2 d2) ∧ w'.heap[b]? = some (.cells #[.slice ao (l ++ encN (x.size : Int)).length cp] 98 (0, 0)) ∧ (Wr (w'.setCell ⟨b, 0, none⟩ v') B b (l ++ encT x.data.toList) ∧ Wf B b w (w'.setCell ⟨b, 0, none⟩ v')))) := by
    obtain ⟨v', w', r1, v2, e2, r2, r3, _⟩ := ap_str W1.drew B 70 (d := x.data.toList) hown (Nat.le_trans hW.le (Nat.le_of_lt hW.lt)) HL.out
    injection e2 with e2
    subst e2
    have hk : ∀ t, t ≠ 5 → Kt t W1 w' := fun t ht => Kt.of_row5 (w := W1.drew) hown r3 ht
    have hf : Wf B b W1 w' := ⟨(Below.refl B W1).grown (w' := w') (⟨r3.os, r3.tape, r3.output, r3.size, r3.block⟩) hW.hB (fun k hk => (hown.lt k hk).1), fun t h5 _ => hk t h5, fun k cs _ e => (hk 98 (by decide)).2 k cs e⟩
    obtain ⟨q1, q2⟩ := wr_put hW hb hf (hk _ (by decide)) r2
    rw [HX.out] at q1
    refine ⟨v', w', ?_, (own_slice r2).imp fun a h => ⟨_, h⟩, (hk 98 (by decide)).2 b _ hb, q1, hF.trans q2⟩
    have ex : (⟨x.data.toList.toArray⟩ : ByteArray) = x := by cases x; simp
    rw [ex] at r1
    exact r1
  clear hW hF hb hown HS
  generalize (l ++ encN (x.size : Int)).length = nn at *
  go_upto_region 2 with fail
  go_region_law (refine step_append_T rfl (.tmp 15) (.tmp 18) 70 9 rfl (.slice ao nn cp) (.string x) (by simp [Act.eval, Act.put]) (by simp [Act.eval, Act.put]) HP.out ?_; rintro v2 w2 ⟨⟨a2, n2, d2, rfl⟩, hb2, hq⟩; have m0 : w2.cell? ⟨b, 0, none⟩ = some (.slice ao nn cp) := cell_at hb2 rfl; have m1 : w2.frozen? ⟨b, 0, none⟩ = false := frz_at hb2; have HQ := Lib.hid hq; clear hq hb2)
  all_goals
    go_end0
    exact ⟨rfl, HQ.out⟩
section
variable {T : TypeId} {fn ft fb : FuncId}
set_option maxHeartbeats 8000000 in
set_option maxRecDepth 100000 in
theorem op1_walk (F : Fm T fn ft fb) {p : Addr} {w : World} {g off : Nat} {P0 P1 P2 : World → Prop} (h0 : P0 w)
    (c1 : ∀ W, P0 W → Calls Tryz.prog fn #[.pointer (some p), .pointer (some ⟨g, off, none⟩)] W.drew (Ret P1))
    (c2 : ∀ W, P1 W → Calls Tryz.prog 83 #[.iface T (.pointer (some p)), .pointer (some ⟨g, off + 1, none⟩)] W (Ret P2))
    (hk : ∀ W, P1 W → W.cell? ⟨g, off, none⟩ = some (.int .i64 1)) :
    Calls Tryz.prog 56 #[.iface T (.pointer (some p)), .pointer (some ⟨g, off, none⟩)] w (Ret P2) := by
  have xn := F.mn
  have yn := F.nn
  have zn := F.en
  go_enter Tryz.func56, Tryz.ntmps56
  go_upto_region 0 with fail
  go_region_law (go_simp; go_at_fn fn; refine (c1 _ h0).mono ?_; rintro e W1 ⟨rfl, h1⟩)
  have q1 := hk _ h1
  go_wp2_with (first | (go_at_call 83; refine (c2 _ h1).mono ?_; rintro e W2 ⟨rfl, h2⟩; refine Hid.out ?_))
  refine Lib.hid ?_
  go_wp2
  go_end0
  exact ⟨rfl, h2⟩
set_option maxHeartbeats 8000000 in
set_option maxRecDepth 100000 in
theorem op2_walk (F : Fm T fn ft fb) {p : Addr} {w : World} {g off : Nat} {P0 P1 P2 : World → Prop} (h0 : P0 w)
    (c1 : ∀ W, P0 W → Calls Tryz.prog fn #[.pointer (some p), .pointer (some ⟨g, off, none⟩)] W.drew (Ret P1))
    (c2 : ∀ W, P1 W → Calls Tryz.prog fn #[.pointer (some p), .pointer (some ⟨g, off + 1, none⟩)] W.drew (Ret P2))
    (hk : ∀ W, P1 W → W.cell? ⟨g, off, none⟩ = some (.int .i64 2)) :
    Calls Tryz.prog 56 #[.iface T (.pointer (some p)), .pointer (some ⟨g, off, none⟩)] w (Ret P2) := by
  have xn := F.mn
  have yn := F.nn
  have zn := F.en
  go_enter Tryz.func56, Tryz.ntmps56
  go_upto_region 0 with fail
  go_region_law (go_simp; go_at_fn fn; refine (c1 _ h0).mono ?_; rintro e W1 ⟨rfl, h1⟩)
  have q1 := hk _ h1
  go_upto_region 5 with fail
  go_region_law (go_simp; go_at_fn fn; refine (c2 _ h1).mono ?_; rintro e W2 ⟨rfl, h2⟩)
  go_wp2
  go_end0
  exact ⟨rfl, h2⟩
set_option maxHeartbeats 8000000 in
set_option maxRecDepth 100000 in
theorem op3_walk (F : Fm T fn ft fb) {p : Addr} {w : World} {g off : Nat} {P0 P1 P2 P3 : World → Prop} (h0 : P0 w)
    (c1 : ∀ W, P0 W → Calls Tryz.prog fn #[.pointer (some p), .pointer (some ⟨g, off, none⟩)] W.drew (Ret P1))
    (c2 : ∀ W, P1 W → Calls Tryz.prog fn #[.pointer (some p), .pointer (some ⟨g, off + 1, none⟩)] W.drew (Ret P2))
    (c3 : ∀ W, P2 W → Calls Tryz.prog 84 #[.iface T (.pointer (some p)), .pointer (some ⟨g, off + 4, none⟩)] W (Ret P3))
    (hk : ∀ W, P1 W → W.cell? ⟨g, off, none⟩ = some (.int .i64 3)) :
    Calls Tryz.prog 56 #[.iface T (.pointer (some p)), .pointer (some ⟨g, off, none⟩)] w (Ret P3) := by
  have xn := F.mn
  have yn := F.nn
  have zn := F.en
  go_enter Tryz.func56, Tryz.ntmps56
  go_upto_region 0 with fail
  go_region_law (go_simp; go_at_fn fn; refine (c1 _ h0).mono ?_; rintro e W1 ⟨rfl, h1⟩)
  have q1 := hk _ h1
  go_upto_region 7 with fail
  go_region_law (go_simp; go_at_fn fn; refine (c2 _ h1).mono ?_; rintro e W2 ⟨rfl, h2⟩)
  go_wp2_with (first | (go_at_call 84; refine (c3 _ h2).mono ?_; rintro e W3 ⟨rfl, h3⟩; refine Hid.out ?_))
  refine Lib.hid ?_
  go_wp2
  go_end0
  exact ⟨rfl, h3⟩
set_option maxHeartbeats 8000000 in
set_option maxRecDepth 100000 in
theorem op4_walk (F : Fm T fn ft fb) {p : Addr} {w : World} {g off : Nat} {P0 P1 P2 P3 : World → Prop} (h0 : P0 w)
    (c1 : ∀ W, P0 W → Calls Tryz.prog fn #[.pointer (some p), .pointer (some ⟨g, off, none⟩)] W.drew (Ret P1))
    (c2 : ∀ W, P1 W → Calls Tryz.prog fn #[.pointer (some p), .pointer (some ⟨g, off + 1, none⟩)] W.drew (Ret P2))
    (c3 : ∀ W, P2 W → Calls Tryz.prog ft #[.pointer (some p), .pointer (some ⟨g, off + 4, none⟩)] W.drew (Ret P3))
    (hk : ∀ W, P1 W → W.cell? ⟨g, off, none⟩ = some (.int .i64 4)) :
    Calls Tryz.prog 56 #[.iface T (.pointer (some p)), .pointer (some ⟨g, off, none⟩)] w (Ret P3) := by
  have xn := F.mn
  have yn := F.nn
  have zn := F.en
  have xt := F.mt
  have yt := F.nt
  have zt := F.et
  go_enter Tryz.func56, Tryz.ntmps56
  go_upto_region 0 with fail
  go_region_law (go_simp; go_at_fn fn; refine (c1 _ h0).mono ?_; rintro e W1 ⟨rfl, h1⟩)
  have q1 := hk _ h1
  go_upto_region 10 with fail
  go_region_law (go_simp; go_at_fn fn; refine (c2 _ h1).mono ?_; rintro e W2 ⟨rfl, h2⟩)
  go_upto_region 11 with fail
  go_region_law (go_simp; go_at_fn ft; refine (c3 _ h2).mono ?_; rintro e W3 ⟨rfl, h3⟩)
  go_wp2
  go_end0
  exact ⟨rfl, h3⟩
set_option maxHeartbeats 8000000 in
set_option maxRecDepth 100000 in
theorem op5_walk (F : Fm T fn ft fb) {p : Addr} {w : World} {g off : Nat} {P0 P1 P2 : World → Prop} (h0 : P0 w)
    (c1 : ∀ W, P0 W → Calls Tryz.prog fn #[.pointer (some p), .pointer (some ⟨g, off, none⟩)] W.drew (Ret P1))
    (c2 : ∀ W, P1 W → Calls Tryz.prog 85 #[.iface T (.pointer (some p)), .pointer (some ⟨g, off + 8, none⟩)] W (Ret P2))
    (hk : ∀ W, P1 W → W.cell? ⟨g, off, none⟩ = some (.int .i64 5)) :
    Calls Tryz.prog 56 #[.iface T (.pointer (some p)), .pointer (some ⟨g, off, none⟩)] w (Ret P2) := by
  have xn := F.mn
  have yn := F.nn
  have zn := F.en
  go_enter Tryz.func56, Tryz.ntmps56
  go_upto_region 0 with fail
  go_region_law (go_simp; go_at_fn fn; refine (c1 _ h0).mono ?_; rintro e W1 ⟨rfl, h1⟩)
  have q1 := hk _ h1
  go_wp2_with (first | (go_at_call 85; refine (c2 _ h1).mono ?_; rintro e W2 ⟨rfl, h2⟩; refine Hid.out ?_))
  refine Lib.hid ?_
  go_wp2
  go_end0
  exact ⟨rfl, h2⟩
set_option maxHeartbeats 8000000 in
set_option maxRecDepth 100000 in
theorem op6_walk (F : Fm T fn ft fb) {p : Addr} {w : World} {g off : Nat} {P0 P1 P2 : World → Prop} (h0 : P0 w)
    (c1 : ∀ W, P0 W → Calls Tryz.prog fn #[.pointer (some p), .pointer (some ⟨g, off, none⟩)] W.drew (Ret P1))
    (c2 : ∀ W, P1 W → Calls Tryz.prog 85 #[.iface T (.pointer (some p)), .pointer (some ⟨g, off + 8, none⟩)] W (Ret P2))
    (hk : ∀ W, P1 W → W.cell? ⟨g, off, none⟩ = some (.int .i64 6)) :
    Calls Tryz.prog 56 #[.iface T (.pointer (some p)), .pointer (some ⟨g, off, none⟩)] w (Ret P2) := by
  have xn := F.mn
  have yn := F.nn
  have zn := F.en
  go_enter Tryz.func56, Tryz.ntmps56
  go_upto_region 0 with fail
  go_region_law (go_simp; go_at_fn fn; refine (c1 _ h0).mono ?_; rintro e W1 ⟨rfl, h1⟩)
  have q1 := hk _ h1
  go_wp2_with (first | (go_at_call 85; refine (c2 _ h1).mono ?_; rintro e W2 ⟨rfl, h2⟩; refine Hid.out ?_))
  refine Lib.hid ?_
  go_wp2
  go_end0
  exact ⟨rfl, h2⟩
set_option maxHeartbeats 8000000 in
set_option maxRecDepth 100000 in
theorem ent0_walk (F : Fm T fn ft fb) {p : Addr} {w : World} {g off : Nat} {P0 P1 P2 : World → Prop} (h0 : P0 w)
    (c1 : ∀ W, P0 W → Calls Tryz.prog fb #[.pointer (some p), .pointer (some ⟨g, off, none⟩)] W.drew (Ret P1))
    (c2 : ∀ W, P1 W → Calls Tryz.prog 55 #[.iface T (.pointer (some p)), .pointer (some ⟨g, off + 1, none⟩), .func (.func 56) #[] #[]] W (Ret P2))
    (hk : ∀ W, P1 W → W.cell? ⟨g, off, none⟩ = some (.bool false)) :
    Calls Tryz.prog 31 #[.pointer (some ⟨g, off, none⟩), .iface T (.pointer (some p))] w (Ret P2) := by
  have xb := F.mb
  have yb := F.nb
  have zb := F.eb
  go_enter Tryz.func31, Tryz.ntmps31
  go_upto_region 0 with fail
  go_region_law (go_simp; go_at_fn fb; refine (c1 _ h0).mono ?_; rintro e W1 ⟨rfl, h1⟩)
  have q1 := hk _ h1
  go_wp2_with (first | (go_at_call 55; refine (c2 _ h1).mono ?_; rintro e W2 ⟨rfl, h2⟩; refine Hid.out ?_))
  refine Lib.hid ?_
  go_wp2
  go_end0
  exact ⟨rfl, h2⟩
end
end Go.Proofs.YtahamkajkkkjdaaGreatDoor
