/-
  The walk of text.Print.
-/
import Derived.Test.YteabdlandbmdaaaDoorM09
import Derived.Test.YteabdlandbmdaaaDoorM05
import Derived.Deep.RegionHeld3
import Derived.Deep.DeepCutAuto
namespace Go.Proofs.YteabdlandbmdaaaDoor
open Go.RowKit
set_option linter.unusedVariables false
set_option linter.unusedSimpArgs false

def P1 (w1 : World) (N : List Nd) (s : Value) (wr : World) : Prop :=
  ∃ m : Nat, m ≤ N.length ∧ s = .int .i64 m ∧ Lib.IsBuilderF 36 5 w1.heap.size w1.heap.size (Lib.byteCells (gText (N.take m) [])) wr ∧ Below w1.heap.size w1 wr
def P2 (w1 : World) (N : List Nd) (T : List Te) (s : Value) (wr : World) : Prop :=
  ∃ m : Nat, m ≤ T.length ∧ s = .int .i64 m ∧ Lib.IsBuilderF 36 5 w1.heap.size w1.heap.size (Lib.byteCells (gText N (T.take m))) wr ∧ Below w1.heap.size w1 wr
theorem take_s {α : Type} {L : List α} {m : Nat} {x : α} (h : L[m]? = some x) : L.take (m + 1) = L.take m ++ [x] := by rw [List.take_add_one, h]; rfl
theorem gText_n {N : List Nd} {m : Nat} {n : Nd} (h : N[m]? = some n) : gText (N.take (m + 1)) [] = gText (N.take m) [] ++ (ndL n ++ [10]) := by
  unfold gText; rw [take_s h]; simp
theorem gText_t {N : List Nd} {T : List Te} {m : Nat} {t : Te} (h : T[m]? = some t) : gText N (T.take (m + 1)) = gText N (T.take m) ++ (teL t ++ [10]) := by
  unfold gText; rw [take_s h]; simp
theorem gText_le2 {N : List Nd} {T : List Te} (h : gErr N T = 0) (i j : Nat) : (gText (N.take i) (T.take j)).length ≤ 36000 := by
  obtain ⟨h1, h2, hn, ht⟩ := gErr_zero h
  have a := lines_le ndL 460 (N.take i) (fun n hm => ndL_le (hn n (List.mem_of_mem_take hm)))
  have b := lines_le teL 60 (T.take j) (fun n hm => teL_le (ht n (List.mem_of_mem_take hm)))
  have c : 461 * (N.take i).length ≤ 461 * 60 := Nat.mul_le_mul_left _ (by rw [List.length_take]; omega)
  have d : 61 * (T.take j).length ≤ 61 * 120 := Nat.mul_le_mul_left _ (by rw [List.length_take]; omega)
  unfold gText
  rw [List.length_append]
  omega
theorem bld_lt {B b : Nat} {xs : List Value} {w : World} (h : Lib.IsBuilderF 36 5 B b xs w) : b < w.heap.size := by
  rcases h with h | h
  · exact h.lt
  · exact h.lt
theorem words_new (w : World) (a b c d : ByteArray) : W4 (w.alloc (.cells #[.string a, .string b, .string c, .string d] 9)) w.heap.size a.data.toList b.data.toList c.data.toList d.data.toList := by
  have h := heap_alloc_new w (.cells #[.string a, .string b, .string c, .string d] 9)
  exact ⟨by simp, cellB h rfl, cellB h rfl, cellB h rfl, cellB h rfl⟩
theorem made_node (n : Nd) (h : NOk n) (w : World) : Calls Tryd.prog 9 #[.slice (some ⟨w.heap.size, 0, none⟩) 4 4] (w.alloc (.cells #[.string ⟨#[110, 111, 100, 101]⟩, .string (bs (Lib.itoa n.id)), .string n.kd, .string (bs (showR n.rc))] 9)) fun e w' =>
    e = .returned (.string (bs (ndL n ++ [10]))) ∧ Below w.heap.size w w' := by
  have hW := words_new w ⟨#[110, 111, 100, 101]⟩ (bs (Lib.itoa n.id)) n.kd (bs (showR n.rc))
  rw [bs_data, bs_data] at hW
  have hl := ndL_le h
  refine (made_any hW (by unfold ndL at hl; exact Nat.le_trans hl (by decide))).mono ?_
  rintro e w' ⟨rfl, hB⟩
  exact ⟨rfl, below_one hB⟩
theorem made_tie (t : Te) (h : TOk t) (w : World) : Calls Tryd.prog 9 #[.slice (some ⟨w.heap.size, 0, none⟩) 4 4] (w.alloc (.cells #[.string ⟨#[116, 105, 101]⟩, .string t.bd, .string (bs (Lib.itoa t.fr)), .string (bs (Lib.itoa t.tt))] 9)) fun e w' =>
    e = .returned (.string (bs (teL t ++ [10]))) ∧ Below w.heap.size w w' := by
  have hW := words_new w ⟨#[116, 105, 101]⟩ t.bd (bs (Lib.itoa t.fr)) (bs (Lib.itoa t.tt))
  rw [bs_data, bs_data] at hW
  have hl := teL_le h
  refine (made_any hW (by unfold teL at hl; exact Nat.le_trans hl (by decide))).mono ?_
  rintro e w' ⟨rfl, hB⟩
  exact ⟨rfl, below_one hB⟩

set_option maxHeartbeats 8000000 in
set_option maxRecDepth 100000 in
theorem tprint_ok {vn vt : Value} {N : List Nd} {T : List Te} {w : World} (hN : IsN w vn N) (hT : IsT w vt T) (zN : SzN N) (zT : SzT T) (hE : Tab w) (he : gErr N T = 0) :
    Calls Tryd.prog 4 #[.agg #[vn, vt]] w fun e w' => e = .returned (.tuple #[.string (bs (gText N T)), .nilIface]) ∧ Below w.heap.size w w' := by
  obtain ⟨hl1, hl2, hnk, htk⟩ := gErr_zero he
  obtain ⟨W0, hW0⟩ : ∃ W0, W0 = w.alloc (.cells #[vn, vt] 25) := ⟨_, rfl⟩
  have hB0 : Below w.heap.size w W0 := by rw [hW0]; exact b_alloc (Below.refl _ _) _
  have cs := gcheck_any (hN.on hB0) (hT.on hB0) zN zT (by unfold maxLen; omega) (by unfold maxLen; omega)
  rw [he, errV_0, hW0] at cs
  obtain ⟨an, cn, rfl, hcn, hn⟩ := hN
  obtain ⟨am, cm, rfl, hcm, hm⟩ := hT
  have HB0 : Hid (Below w.heap.size w (w.alloc (.cells #[.slice an N.length cn, .slice am T.length cm] 25))) := by rw [← hW0]; exact hB0
  have HH : Hid ((∀ n ∈ N, NOk n) ∧ (∀ t ∈ T, TOk t) ∧ Tab w ∧ SzN N ∧ (∀ (j : Nat) g, N[j]? = some g → ∃ b o, an = some ⟨b, o, none⟩ ∧ b < w.heap.size ∧ LiesN w b o N) ∧ (∀ (j : Nat) g, T[j]? = some g → ∃ b o, am = some ⟨b, o, none⟩ ∧ b < w.heap.size ∧ LiesT w b o T)) :=
    ⟨hnk, htk, hE, zN, fun j g hg => by
      rcases hn with rfl | ⟨b, o, h1, h2, h3⟩
      · simp at hg
      · exact ⟨b, o, h1, h2, h3⟩, fun j g hg => by
      rcases hm with rfl | ⟨b, o, h1, h2, h3⟩
      · simp at hg
      · exact ⟨b, o, h1, h2, h3⟩⟩
  have HL : Hid (∀ i j, (gText (N.take i) (T.take j)).length ≤ 36000) := gText_le2 he
  clear hn hm zN zT hE he hnk htk hB0 hW0 hcn hcm
  go_enter Tryd.func4, Tryd.ntmps4
  go_wp2_with (go_at_call 6; refine cs.mono ?_; rintro e W1 ⟨rfl, hB1⟩; refine Hid.out ?_)
  refine Lib.hid ?_
  have g0 := hB1.cell (p := ⟨w.heap.size, 0, none⟩) (by simp)
  have g1 := hB1.cell (p := ⟨w.heap.size, 1, none⟩) (by simp)
  simp at g0 g1
  have hsz1 : w.heap.size < W1.heap.size := Nat.lt_of_lt_of_le (by simp) hB1.size
  have HBw1 : Hid (Below w.heap.size w W1) := on1 HB0.out hB1
  have HST : Hid (P1 W1 N (.int .i64 0) (W1.alloc (.cells #[.pointer none, .slice none 0 0] 36))) := ⟨0, Nat.zero_le _, rfl, .of (Lib.fresh_isBuilder 36 5 W1), b_alloc (Below.refl _ _) _⟩
  have hsn : ¬ w.heap.size = W1.heap.size := by omega
  clear cs hB1
  go_wp2
  go_loopw [20] (fun s wr => P1 W1 N s wr) (fun s _ => N.length - (intOf s).toNat)
  case atStart => exact HST.out
  case round =>
    obtain ⟨m, hm, rfl, hbu, hB⟩ := hrel
    have hBw := on1 HBw1.out hB
    have HBU : Hid (Lib.IsBuilderF 36 5 W1.heap.size W1.heap.size (Lib.byteCells (gText (N.take m) [])) wr ∧ Below W1.heap.size W1 wr) := ⟨hbu, hB⟩
    have r1 := (hB.cell (p := ⟨w.heap.size, 1, none⟩) hsz1).trans g1
    clear hbu
    by_cases hlt : m < N.length
    · obtain ⟨p, hp⟩ : ∃ p, N[m]? = some p := ⟨N[m], by simp [hlt]⟩
      obtain ⟨hnk, _, hTb, hz, hvn, _⟩ := HH.out
      obtain ⟨bk, ok, rfl, hbk, hlk⟩ := hvn m p hp
      have hpm : p ∈ N := List.mem_of_getElem? hp
      have HOK : Hid (NOk p) := hnk p hpm
      obtain ⟨c0, c1, c2, cr⟩ := hlk m p hp
      have x0 := (hBw.cell (p := ⟨bk, ok + m * 3, none⟩) hbk).trans c0
      have x1 := (hBw.cell (p := ⟨bk, ok + m * 3 + 1, none⟩) hbk).trans c1
      have x2 := (hBw.cell (p := ⟨bk, ok + m * 3 + 2, none⟩) hbk).trans c2
      obtain ⟨WA, hWA⟩ : ∃ WA, WA = wr.alloc (.cells #[.int .i64 p.id, .string p.kd, p.rv] 40) := ⟨_, rfl⟩
      have hBA : Below wr.heap.size wr WA := by rw [hWA]; exact b_alloc (Below.refl _ _) _
      have cp := rprint_r (cr.on (on1 hBw hBA)) (hz p hpm).2.1 HOK.out.rc (Lib.tabBelow_of_tabIs hTb WA (on1 hBw hBA))
      rw [hWA] at cp
      obtain ⟨ar, crr, erv, _⟩ := cr
      rw [erv] at cp x2
      have HWA : Hid (Below wr.heap.size wr (wr.alloc (.cells #[.int .i64 p.id, .string p.kd, .slice ar p.rc.length crr] 40))) := by rw [← erv, ← hWA]; exact hBA
      have HX : Hid (gText (N.take (m + 1)) [] = gText (N.take m) [] ++ (ndL p ++ [10])) := gText_n hp
      have hmi : (m : Int) < (N.length : Int) := by omega
      clear hnk hz hvn hlk c0 c1 c2 erv hp hpm hTb hWA hBA
      go_wp2_with (go_at_call 7; refine cp.mono ?_; rintro e W3 ⟨rfl, hB3⟩; refine Hid.out ?_)
      refine Lib.hid ?_
      have y0 := hB3.cell (p := ⟨wr.heap.size, 0, none⟩) (by simp)
      have y1 := hB3.cell (p := ⟨wr.heap.size, 1, none⟩) (by simp)
      simp at y0 y1
      have hyb := (hB3.block wr.heap.size (by simp)).trans (heap_alloc_new wr _)
      have hblt : W1.heap.size < wr.heap.size := bld_lt HBU.out.1
      have hz3 : wr.heap.size < W3.heap.size := Nat.lt_of_lt_of_le (by simp) hB3.size
      have HB3 : Hid (Below wr.heap.size wr W3) := on1 HWA.out hB3
      have ci := itoa_any p.id W3.drew (by have := HOK.out.id1; omega) (by have := HOK.out.id2; omega) (Lib.tabBelow_of_tabIs HH.out.2.2.1 W3.drew (b_drew (on1 hBw HB3.out)))
      have HY : Hid (∀ W4, Below W3.drew.heap.size W3.drew W4 → W4.cell? ⟨wr.heap.size, 0, none⟩ = some (.int .i64 p.id) ∧ W4.cell? ⟨wr.heap.size, 1, none⟩ = some (.string p.kd)) := fun W4 h => ⟨(h.cell (p := ⟨wr.heap.size, 0, none⟩) hz3).trans y0, (h.cell (p := ⟨wr.heap.size, 1, none⟩) hz3).trans y1⟩
      have HM : Hid (∀ W, Calls Tryd.prog 9 #[.slice (some ⟨W.heap.size, 0, none⟩) 4 4] (W.alloc (.cells #[.string ⟨#[110, 111, 100, 101]⟩, .string (bs (Lib.itoa p.id)), .string p.kd, .string (bs (showR p.rc))] 9)) fun e w' => e = .returned (.string (bs (ndL p ++ [10]))) ∧ Below W.heap.size W w') := made_node p HOK.out
      have HC : Hid (∀ W4 W5, Below W3.drew.heap.size W3.drew W4 → Below W4.heap.size W4 W5 → Calls Tryd.prog 8 #[.pointer (some ⟨W1.heap.size, 0, none⟩), .string (bs (ndL p ++ [10]))] W5 fun e W6 => e = .returned (.tuple #[.int .i64 (bs (ndL p ++ [10])).size, .nilIface]) ∧ (W6.cell? ⟨wr.heap.size, 0, none⟩ = some (.int .i64 p.id) ∧ W6.cell? ⟨wr.heap.size, 1, none⟩ = some (.string p.kd)) ∧ P1 W1 N (.int .i64 ((m : Int) + 1)) W6) := fun W4 W5 h4 h5 => by
        have hk : Below wr.heap.size wr W5 := on1 (on1 (b_drew HB3.out) h4) h5
        have hk1 : Below W1.heap.size W1 W5 := on1 HBU.out.2 hk
        refine (writeString_k W1.heap.size W1.heap.size _ (bs (ndL p ++ [10])) W5 (bld_on HBU.out.1 hk) (by
          rw [Lib.byteCells_length, bs_size]
          have h1 := HL.out m 0
          rw [List.take_zero] at h1
          have h2 := ndL_le HOK.out
          simp only [List.length_append, List.length_cons, List.length_nil]
          omega) hk1.size).mono ?_
        rintro e W6 ⟨rfl, hb6, hB6, hk6⟩
        have hyb5 := ((on1 h4 h5).block wr.heap.size hz3).trans hyb
        have hyb6 := hk6 _ _ hyb5 (fun e => by injection e with e; omega) (fun c fz e => by injection e with _ e _; exact absurd e (by decide))
        refine ⟨rfl, ⟨cellB hyb6 rfl, cellB hyb6 rfl⟩, m + 1, by omega, by simp, ?_, hk1.trans hB6⟩
        rw [HX.out, bytes_app]
        exact .inr hb6
      clear cp hB3 x0 x1 x2 hyb
      generalize bs (Lib.itoa p.id) = sid at ci HM
      generalize bs (showR p.rc) = srec at HM ⊢
      generalize bs (ndL p ++ [10]) = line at HM HC
      go_upto_region 11 with fail
      go_region_held3 (fun w' => w'.cell? ⟨wr.heap.size, 0, none⟩ = some (.int .i64 p.id) ∧ w'.cell? ⟨wr.heap.size, 1, none⟩ = some (.string p.kd)) (go_keep) (first | (go_at_call 10; refine ci.mono ?_; rintro e W4 ⟨rfl, hB4⟩; obtain ⟨z0, z1⟩ := HY.out W4 hB4) | (go_at_call 9; refine (HM.out W4).mono ?_; rintro e W5 ⟨rfl, hB5⟩; obtain ⟨z2, z3⟩ := HY.out W5 (on1 hB4 hB5)) | (go_at_call 8; refine (HC.out W4 W5 hB4 hB5).mono ?_; rintro e W6 ⟨rfl, ⟨u0, u1⟩, hP6⟩; have HRR := Lib.hid hP6; clear hP6))
      all_goals
        go_wp2
        refine ⟨?_, ?_⟩
        · first | exact HRR.out | ((repeat apply Exists.intro); refine ⟨?_, rfl⟩; exact HRR.out)
        · simp [intOf]
          try omega
    · have hme : N.take m = N := List.take_of_length_le (by omega)
      have HS2 : Hid (P2 W1 N T (.int .i64 0) wr) := by
        refine ⟨0, Nat.zero_le _, rfl, ?_, HBU.out.2⟩
        have := HBU.out.1
        rw [hme] at this
        exact this
      clear hme HBU hB
      go_wp2
      go_loopw [46] (fun s wr => P2 W1 N T s wr) (fun s _ => T.length - (intOf s).toNat)
      case atStart => exact HS2.out
      case round =>
        obtain ⟨q, hq, rfl, hbu, hB⟩ := hrel
        have hBw := on1 HBw1.out hB
        have HBU : Hid (Lib.IsBuilderF 36 5 W1.heap.size W1.heap.size (Lib.byteCells (gText N (T.take q))) wr ∧ Below W1.heap.size W1 wr) := ⟨hbu, hB⟩
        clear hbu
        by_cases hltq : q < T.length
        · obtain ⟨p, hp⟩ : ∃ p, T[q]? = some p := ⟨T[q], by simp [hltq]⟩
          obtain ⟨_, htk, hTb, _, _, hvt⟩ := HH.out
          obtain ⟨bk, ok, rfl, hbk, hlk⟩ := hvt q p hp
          have HOK : Hid (TOk p) := htk p (List.mem_of_getElem? hp)
          obtain ⟨c0, c1, c2⟩ := hlk q p hp
          have x0 := (hBw.cell (p := ⟨bk, ok + q * 3, none⟩) hbk).trans c0
          have x1 := (hBw.cell (p := ⟨bk, ok + q * 3 + 1, none⟩) hbk).trans c1
          have x2 := (hBw.cell (p := ⟨bk, ok + q * 3 + 2, none⟩) hbk).trans c2
          have HX : Hid (gText N (T.take (q + 1)) = gText N (T.take q) ++ (teL p ++ [10])) := gText_t hp
          have hmi : (q : Int) < (T.length : Int) := by omega
          obtain ⟨W3, hW3⟩ : ∃ W3, W3 = wr.alloc (.cells #[.string p.bd, .int .i64 p.fr, .int .i64 p.tt] 47) := ⟨_, rfl⟩
          have HB3 : Hid (Below wr.heap.size wr W3) := by rw [hW3]; exact b_alloc (Below.refl _ _) _
          have hyb : W3.heap[wr.heap.size]? = some (.cells #[.string p.bd, .int .i64 p.fr, .int .i64 p.tt] 47 (0, 0)) := by rw [hW3]; exact heap_alloc_new wr _
          have hblt : W1.heap.size < wr.heap.size := bld_lt HBU.out.1
          have hz3 : wr.heap.size < W3.heap.size := by rw [hW3]; simp
          have y0 : W3.cell? ⟨wr.heap.size, 0, none⟩ = some (.string p.bd) := cellB hyb rfl
          have y1 : W3.cell? ⟨wr.heap.size, 1, none⟩ = some (.int .i64 p.fr) := cellB hyb rfl
          have y2 : W3.cell? ⟨wr.heap.size, 2, none⟩ = some (.int .i64 p.tt) := cellB hyb rfl
          have ci := itoa_any p.fr W3.drew (by have := HOK.out.f1; omega) (by have := HOK.out.f2; omega) (Lib.tabBelow_of_tabIs hTb W3.drew (b_drew (on1 hBw HB3.out)))
          have HI : Hid (∀ W4, Below W3.drew.heap.size W3.drew W4 → Calls Tryd.prog 10 #[.int .i64 p.tt] W4 fun e w' => e = .returned (.string (bs (Lib.itoa p.tt))) ∧ Below W4.heap.size W4 w') := fun W4 h => itoa_any p.tt W4 (by have := HOK.out.t1; omega) (by have := HOK.out.t2; omega) (Lib.tabBelow_of_tabIs hTb W4 (on1 (b_drew (on1 hBw HB3.out)) h))
          have HY : Hid (∀ W4, Below W3.drew.heap.size W3.drew W4 → W4.cell? ⟨wr.heap.size, 0, none⟩ = some (.string p.bd) ∧ W4.cell? ⟨wr.heap.size, 1, none⟩ = some (.int .i64 p.fr) ∧ W4.cell? ⟨wr.heap.size, 2, none⟩ = some (.int .i64 p.tt)) := fun W4 h => ⟨(h.cell (p := ⟨wr.heap.size, 0, none⟩) hz3).trans y0, (h.cell (p := ⟨wr.heap.size, 1, none⟩) hz3).trans y1, (h.cell (p := ⟨wr.heap.size, 2, none⟩) hz3).trans y2⟩
          have HM : Hid (∀ W, Calls Tryd.prog 9 #[.slice (some ⟨W.heap.size, 0, none⟩) 4 4] (W.alloc (.cells #[.string ⟨#[116, 105, 101]⟩, .string p.bd, .string (bs (Lib.itoa p.fr)), .string (bs (Lib.itoa p.tt))] 9)) fun e w' => e = .returned (.string (bs (teL p ++ [10]))) ∧ Below W.heap.size W w') := made_tie p HOK.out
          have HC : Hid (∀ W4 W5, Below W3.drew.heap.size W3.drew W4 → Below W4.heap.size W4 W5 → Calls Tryd.prog 8 #[.pointer (some ⟨W1.heap.size, 0, none⟩), .string (bs (teL p ++ [10]))] W5 fun e W6 => e = .returned (.tuple #[.int .i64 (bs (teL p ++ [10])).size, .nilIface]) ∧ (W6.cell? ⟨wr.heap.size, 0, none⟩ = some (.string p.bd) ∧ W6.cell? ⟨wr.heap.size, 1, none⟩ = some (.int .i64 p.fr) ∧ W6.cell? ⟨wr.heap.size, 2, none⟩ = some (.int .i64 p.tt)) ∧ P2 W1 N T (.int .i64 ((q : Int) + 1)) W6) := fun W4 W5 h4 h5 => by
            have hk : Below wr.heap.size wr W5 := on1 (on1 (b_drew HB3.out) h4) h5
            have hk1 : Below W1.heap.size W1 W5 := on1 HBU.out.2 hk
            refine (writeString_k W1.heap.size W1.heap.size _ (bs (teL p ++ [10])) W5 (bld_on HBU.out.1 hk) (by
              rw [Lib.byteCells_length, bs_size]
              have h1 := HL.out N.length q
              rw [List.take_length] at h1
              have h2 := teL_le HOK.out
              simp only [List.length_append, List.length_cons, List.length_nil]
              omega) hk1.size).mono ?_
            rintro e W6 ⟨rfl, hb6, hB6, hk6⟩
            have hyb5 := ((on1 h4 h5).block wr.heap.size hz3).trans hyb
            have hyb6 := hk6 _ _ hyb5 (fun e => by injection e with e; omega) (fun c fz e => by injection e with _ e _; exact absurd e (by decide))
            refine ⟨rfl, ⟨cellB hyb6 rfl, cellB hyb6 rfl, cellB hyb6 rfl⟩, q + 1, by omega, by simp, ?_, hk1.trans hB6⟩
            rw [HX.out, bytes_app]
            exact .inr hb6
          clear htk hvt hlk c0 c1 c2 hp hTb hyb
          generalize bs (Lib.itoa p.fr) = sfr at ci HM
          generalize bs (Lib.itoa p.tt) = stt at HI HM
          generalize bs (teL p ++ [10]) = line at HM HC
          go_upto_region 16 with fail
          rw [← hW3]
          clear hW3 x0 x1 x2
          go_region_held3 (fun w' => w'.cell? ⟨wr.heap.size, 0, none⟩ = some (.string p.bd) ∧ w'.cell? ⟨wr.heap.size, 1, none⟩ = some (.int .i64 p.fr) ∧ w'.cell? ⟨wr.heap.size, 2, none⟩ = some (.int .i64 p.tt)) (go_keep) (first | (have hq4 := hB4; go_at_call 10; refine (HI.out W4 hB4).mono ?_; rintro e W5 ⟨rfl, hB5⟩; obtain ⟨v0, v1, v2⟩ := HY.out W5 (on1 hB4 hB5)) | (go_at_call 10; refine ci.mono ?_; rintro e W4 ⟨rfl, hB4⟩; obtain ⟨z0, z1, z2⟩ := HY.out W4 hB4) | (go_at_call 9; refine (HM.out W5).mono ?_; rintro e W7 ⟨rfl, hB7⟩; obtain ⟨n0, n1, n2⟩ := HY.out W7 (on1 (on1 hB4 hB5) hB7)) | (go_at_call 8; refine (HC.out W5 W7 (on1 hB4 hB5) hB7).mono ?_; rintro e W6 ⟨rfl, ⟨u0, u1, u2⟩, hP6⟩; have HRR := Lib.hid hP6; clear hP6))
          all_goals
            go_wp2
            refine ⟨?_, ?_⟩
            · first | exact HRR.out | ((repeat apply Exists.intro); refine ⟨?_, rfl⟩; exact HRR.out)
            · simp [intOf]
              try omega
        · have hqe : T.take q = T := List.take_of_length_le (by omega)
          have cS := Tryd.Builder_String_any_k W1.heap.size W1.heap.size (gText N T) wr (by
            have := HBU.out.1
            rw [hqe] at this
            exact this) hB.size
          clear hqe HBU
          go_wp2_with (go_at_call 11; refine cS.mono ?_; rintro e W6 ⟨rfl, _, hB6, _⟩)
          go_ret2
          exact ⟨rfl, HBw1.out.trans ((hB.trans hB6).mono HBw1.out.size)⟩
set_option maxHeartbeats 4000000 in
theorem tprint_bad {vn vt : Value} {N : List Nd} {T : List Te} {w : World} (hN : IsN w vn N) (hT : IsT w vt T) (zN : SzN N) (zT : SzT T) (lN : N.length ≤ maxLen) (lT : T.length ≤ maxLen) (he : ¬ gErr N T = 0) :
    Calls Tryd.prog 4 #[.agg #[vn, vt]] w fun e w' => e = .returned (.tuple #[.string ⟨#[]⟩, .iface 54 (.int .i64 (gErr N T))]) ∧ Below w.heap.size w w' := by
  have hB0 : Below w.heap.size w (w.alloc (.cells #[vn, vt] 25)) := b_alloc (Below.refl _ _) _
  have cs := gcheck_any (hN.on hB0) (hT.on hB0) zN zT lN lT
  obtain ⟨an, cn, rfl, hcn, hn⟩ := hN
  obtain ⟨am, cm, rfl, hcm, hm⟩ := hT
  rw [errV_ne he] at cs
  generalize gErr N T = x at cs ⊢
  clear hn hm zN zT he hcn hcm
  go_enter Tryd.func4, Tryd.ntmps4
  go_wp2_with (go_at_call 6; refine cs.mono ?_; rintro e W1 ⟨rfl, hB1⟩)
  go_ret2
  exact ⟨rfl, below_one hB1⟩
end Go.Proofs.YteabdlandbmdaaaDoor
