/-
  The walk of guard.Touched.
-/
import Derived.Test.YtikjmingkadjcaaGreatDoorA35
import Derived.Test.YtikjmingkadjcaaGreatDoorA34
import Derived.Test.YtikjmingkadjcaaGreatDoorA21
import Derived.Test.YtikjmingkadjcaaGreatDoorA24
import Derived.Test.YtikjmingkadjcaaGreatDoorA14
namespace Go.Proofs.YtikjmingkadjcaaGreatDoor
open Go.RowKit Go.Maps
set_option linter.unusedVariables false
set_option linter.unusedSimpArgs false

set_option maxHeartbeats 2000000 in
set_option maxRecDepth 100000 in
theorem touched_no {vn vt vl : Value} {N : List Nd} {T : List Te} {O : List Opx} {w : World} (hN : IsN w vn N) (hT : IsT w vt T) (zN : SzN N) (zT : SzT T) (lN : N.length ≤ maxLen) (lT : T.length ≤ maxLen) (hL : IsO w vl O) (zL : ∀ o ∈ O, OpSz o) (lL : O.length ≤ maxLen) (h0 : ¬ AllOk N T O) :
    Calls Tryz.prog 10 #[.agg #[vn, vt], vl] w fun e w' => ∃ z, z ≠ 0 ∧ e = .returned (.tuple #[.slice none 0 0, .iface 79 (.int .i64 z)]) ∧ Below w.heap.size w w' := by
  have hN' := hN
  have hT' := hT
  have hL' := hL
  obtain ⟨an, cn, rfl, _, _⟩ := hN'
  obtain ⟨am, cm, rfl, _, _⟩ := hT'
  obtain ⟨ao, co, rfl, _, _⟩ := hL'
  have hB : Below w.heap.size w (w.alloc (.cells #[.slice an N.length cn, .slice am T.length cm] 29)) := b_alloc (Below.refl _ _) _
  have cA := all_no (hN.on hB) (hT.on hB) zN zT lN lT (hL.on hB) zL lL h0
  unfold noG at cA
  have HB := Lib.hid hB
  clear hB hN hT hL zN zT lN lT zL h0
  go_enter Tryz.func10, Tryz.ntmps10
  go_wp2_with (first | (go_at_call 27; refine cA.mono ?_; rintro e W2 ⟨k, z, hz, rfl, hB2⟩; have HZ := Lib.hid hz; clear hz))
  go_ret2
  exact ⟨z, HZ.out, rfl, b_alloc (on1K HB.out hB2 (Nat.le_refl _)) _⟩

theorem keys_nodup {D : DataW Unit} (h : IntK D) (ht : Tidy D) : (intKeys D).Nodup := by
  obtain ⟨es, rfl, he⟩ := h
  obtain ⟨es', e, hp⟩ := ht
  injection e with e
  subst e
  unfold intKeys
  refine List.pairwise_map.2 (hp.imp_of_mem fun {p q} hp' hq' hne e => hne ?_)
  obtain ⟨a, ha⟩ := he p hp'
  obtain ⟨b, hb⟩ := he q hq'
  rw [ha, hb] at e ⊢
  exact congrArg _ e
theorem sort_lt {l : List Int} (h : l.Nodup) : (l.mergeSort fun x y => decide (x ≤ y)).Pairwise (· < ·) := by
  have h1 : (l.mergeSort fun x y => decide (x ≤ y)).Pairwise fun a b => decide (a ≤ b) = true := List.pairwise_mergeSort (fun a b c h1 h2 => by simp only [decide_eq_true_eq] at *; exact Int.le_trans h1 h2) (fun a b => by simp only [Bool.or_eq_true, decide_eq_true_eq]; exact Int.le_total a b) l
  have h2 : (l.mergeSort fun x y => decide (x ≤ y)).Nodup := (List.mergeSort_perm l _).nodup_iff.2 h
  refine (h1.and h2).imp fun {a b} ⟨p, q⟩ => ?_
  have p' : a ≤ b := of_decide_eq_true p
  have q' : a ≠ b := q
  omega

def TuO (T : List Te) (O : List Opx) (W1 : World) (i : Value) (wr : World) : Prop :=
  ∃ k n : Nat, k ≤ O.length ∧ i = .int .i64 k ∧ n ≤ k * 121 ∧ SetI wr (W1.heap.size + 1) n (touA T (O.take k)) ∧ Below W1.heap.size W1 wr
def TuI (X L : List Int) (b n : Nat) (W2 : World) (i : Value) (wr : World) : Prop :=
  ∃ m : Nat, m ≤ L.length ∧ i = .int .i64 m ∧ SetI wr b (n + m) (X ++ L.take m) ∧ W2.grownBy wr (some b)

set_option maxHeartbeats 8000000 in
set_option maxRecDepth 100000 in
theorem touched_yes {vn vt vl : Value} {N : List Nd} {T : List Te} {O : List Opx} {w : World} (hN : IsN w vn N) (hT : IsT w vt T) (zN : SzN N) (zT : SzT T) (hL : IsO w vl O) (zL : ∀ o ∈ O, OpSz o) (h0 : AllOk N T O) :
    Calls Tryz.prog 10 #[.agg #[vn, vt], vl] w fun e w' => ∃ v L', e = .returned (.tuple #[v, .nilIface]) ∧ IsI w' v L' ∧ (∀ x, x ∈ L' ↔ x ∈ touA T O) ∧ L'.length ≤ 5000 ∧ L'.Pairwise (· < ·) ∧ Below w.heap.size w w' := by
  obtain ⟨h40, hge, herr⟩ := id h0
  obtain ⟨_, ⟨l120, _, ht0⟩⟩ := (gErr_iff N T).1 hge
  have HID : Hid (∀ o ∈ O, ∀ x ∈ touB T o, in64 x) := fun o ho x hx => idOk_64 (tou_ids ht0 O (cN N) T (by rw [gErr_c]; exact hge) herr o ho x hx)
  have hN' := hN
  have hT' := hT
  have hL' := hL
  obtain ⟨an, cn, rfl, _, _⟩ := hN'
  obtain ⟨am, cm, rfl, _, _⟩ := hT'
  obtain ⟨ao, co, rfl, _, hlo⟩ := hL'
  have hB : Below w.heap.size w (w.alloc (.cells #[.slice an N.length cn, .slice am T.length cm] 29)) := b_alloc (Below.refl _ _) _
  have cA := all_yes (hN.on hB) (hT.on hB) zN zT (hL.on hB) zL h0
  have hg1 : (w.alloc (.cells #[.slice an N.length cn, .slice am T.length cm] 29)).cell? ⟨w.heap.size, 1, none⟩ = some (.slice am T.length cm) := by simp
  have HC : Hid (∀ W, Below (w.alloc (.cells #[.slice an N.length cn, .slice am T.length cm] 29)).heap.size (w.alloc (.cells #[.slice an N.length cn, .slice am T.length cm] 29)) W → W.cell? ⟨w.heap.size, 1, none⟩ = some (.slice am T.length cm) ∧ Below w.heap.size w W ∧ w.heap.size < W.heap.size) := fun W hW => ⟨(hW.cell (by simp)).trans hg1, on1 hB hW, by have := hW.size; simp at this; omega⟩
  have HO : Hid (O = [] ∨ ∃ b off, ao = some ⟨b, off, none⟩ ∧ b < w.heap.size ∧ LiesO w b off O) := hlo
  have HT := Lib.hid hT
  clear hB hN hT hL zN zT zL h0 hg1 hlo ht0 hge herr
  have hmm := @run_makeMap Tryz.prog
  go_enter Tryz.func10, Tryz.ntmps10
  go_wp2_with (first | (go_at_call 27; refine cA.mono ?_; rintro e W1 ⟨a1, l1, c1, b1, m1, d1, M, rfl, _, _, _, _, hB1⟩; obtain ⟨k1, hb1, hs1⟩ := HC.out W1 hB1; have HB1 := Lib.hid hb1; clear hB1 hb1))
  clear cA HC hmm
  go_loopw [27] (fun i wr => TuO T O W1 i wr) (fun i _ => O.length - (intOf i).toNat)
  case atStart => exact ⟨0, 0, Nat.zero_le _, rfl, Nat.zero_le _, by simpa [touA] using setI_made (W1.alloc (.cells #[.slice a1 l1 c1, .slice b1 m1 d1] 29)), b_alloc (b_alloc (Below.refl _ _) _) _⟩
  case round =>
    obtain ⟨k, n, hk, rfl, hn, hS, hB⟩ := hrel
    by_cases hlt : k < O.length
    · obtain ⟨o, ho⟩ : ∃ o, O[k]? = some o := ⟨O[k], by simp [hlt]⟩
      rcases HO.out with rfl | ⟨b, off, rfl, hb, hLo⟩
      · exact absurd hlt (by simp)
      obtain ⟨hc, hR⟩ := hLo k o ho
      have hbw : Below w.heap.size w wr := on1 HB1.out hB
      have hd : ∀ i u, o.cells[i]? = some u → wr.cell? ⟨b, off + k * 11 + i, none⟩ = some u := fun i u hu => (hbw.cell hb).trans (hc i u hu)
      have hbr : b < wr.heap.size := Nat.lt_of_lt_of_le hb hbw.size
      have hbn : ¬ b = wr.heap.size := by omega
      have y1 : wr.cell? ⟨w.heap.size, 1, none⟩ = some (.slice am T.length cm) := (hB.cell hs1).trans k1
      have hwl : w.heap.size < wr.heap.size := Nat.lt_of_lt_of_le hs1 hB.size
      have hwn : ¬ w.heap.size = wr.heap.size := by omega
      have hRr := hR.on hbw
      obtain ⟨av, lv, cv, hv⟩ := hR.sl
      have HI : Hid (∀ x ∈ touB T o, in64 x) := HID.out o (List.mem_of_getElem? ho)
      have HE : Hid (touA T (O.take (k + 1)) = touA T (O.take k) ++ touB T o) := by
        show _ = _
        rw [takeK ho]; simp [touA]
      have hlen := touB_len T o l120
      have hBA : Below wr.heap.size wr (wr.alloc (opObj o)) := b_alloc (Below.refl _ _) _
      have cT := tb_any (o := o) ((HT.out.on hbw).on hBA) l120 (hRr.on hBA)
      obtain ⟨L, hLL⟩ : ∃ L, touB T o = L := ⟨_, rfl⟩
      obtain ⟨X, hXX⟩ : ∃ X, touA T (O.take k) = X := ⟨_, rfl⟩
      rw [hLL] at HI HE hlen cT
      rw [hXX] at HE hS
      obtain ⟨wh, ⟨id, kd, rv, rc⟩, ⟨nm, pt, pn, ps⟩, ⟨bd, fr, tt⟩⟩ := o
      simp only at hv
      subst hv
      have e0 := hd 0 _ rfl
      have e1 := hd 1 _ rfl
      have e2 := hd 2 _ rfl
      have e3 := hd 3 _ rfl
      have e4 := hd 4 _ rfl
      have e5 := hd 5 _ rfl
      have e6 := hd 6 _ rfl
      have e7 := hd 7 _ rfl
      have e8 := hd 8 _ rfl
      have e9 := hd 9 _ rfl
      have e10 := hd 10 _ rfl
      simp only [Nat.add_zero] at e0
      have HS : Hid (SetI wr (W1.heap.size + 1) n X ∧ Below W1.heap.size W1 wr ∧ n ≤ k * 121) := ⟨hS, hB, hn⟩
      have hsl := hS.lt
      clear hd hc hR hRr hLo ho hbw hBA hS hB hn hLL hXX
      simp only [opObj] at cT
      go_wp2_with (first | (go_at_call 28; refine cT.mono ?_; rintro e W2 ⟨v2, rfl, hI2, hB2⟩; obtain ⟨a2, c2, hv2⟩ := hI2.sl; subst hv2; have HI2 := Lib.hid hI2; have HB2 := Lib.hid hB2; clear hI2 hB2))
      clear cT e0 e1 e2 e3 e4 e5 e6 e7 e8 e9 e10
      have HS2 : Hid (SetI W2 (W1.heap.size + 1) n X ∧ Below W1.heap.size W1 W2) := by
        obtain ⟨q1, q2, _⟩ := HS.out
        have hlt2 : W1.heap.size + 1 < (wr.alloc (.cells #[.int .i64 wh, .int .i64 id, .string kd, .slice av lv cv, .string nm, .int .i64 pt, .int .i64 pn, .string ps, .string bd, .int .i64 fr, .int .i64 tt] 54)).heap.size := by simp; omega
        exact ⟨q1.of_block ((HB2.out.block _ hlt2).trans (Below.heap_alloc _ _ _ hsl)), on1K (b_alloc q2 _) HB2.out (Nat.le_refl _)⟩
      go_loopw [36] (fun i wr => TuI X L (W1.heap.size + 1) n W2 i wr) (fun i _ => L.length - (intOf i).toNat)
      case atStart => exact ⟨0, Nat.zero_le _, rfl, by simpa using HS2.out.1, ⟨rfl, rfl, rfl, Nat.le_refl _, fun _ _ _ => rfl⟩⟩
      case round =>
        obtain ⟨m, hm, rfl, hSm, hgm⟩ := hrel
        by_cases hml : m < L.length
        · obtain ⟨x, hx⟩ : ∃ x, L[m]? = some x := ⟨L[m], by simp [hml]⟩
          have hn2 : n + m < maxLen := by
            have := HS.out.2.2
            unfold maxLen; omega
          obtain ⟨w3, hr3, hs3, hg3⟩ := setI_put hSm hn2 (HI.out x (List.mem_of_getElem? hx))
          rcases HI2.out with ⟨_, h0⟩ | ⟨bv, cap, hve, _, hbv, hcl⟩
          · rw [h0] at hml; exact absurd hml (by simp)
          obtain ⟨ha2, _, _⟩ : a2 = some ⟨bv, 0, none⟩ ∧ L.length = L.length ∧ c2 = cap := by injection hve with q1 q2 q3; exact ⟨q1, rfl, q3⟩
          subst ha2
          have z0 := hcl m x hx
          have hbne : bv ≠ W1.heap.size + 1 := fun e => by
            have := HS2.out.1.no_cell ⟨bv, m, none⟩ e
            rw [this] at z0; cases z0
          have z1 : wr.cell? ⟨bv, m, none⟩ = some (.int .i64 x) := by
            rw [← z0]; unfold World.cell?; rw [hgm.block bv hbv (fun e => hbne (Option.some.inj e))]
          have HR : Hid (TuI X L (W1.heap.size + 1) n W2 (.int .i64 ((m + 1 : Nat) : Int)) w3) := by
            refine ⟨m + 1, by omega, rfl, ?_, ⟨hg3.os.trans hgm.os, hg3.tape.trans hgm.tape, hg3.output.trans hgm.output, Nat.le_trans hgm.size hg3.size, fun j hj hne => (hg3.block j (Nat.lt_of_lt_of_le hj hgm.size) hne).trans (hgm.block j hj hne)⟩⟩
            rw [takeK hx, ← List.append_assoc, ← Nat.add_assoc]
            exact hs3
          have hm121 : m < 121 := by omega
          clear hSm hgm hs3 hg3 hx z0 hcl hn2 hve
          go_wp2
          refine ⟨?_, ?_⟩
          · first | exact HR.out | ((repeat apply Exists.intro); refine ⟨?_, rfl⟩; exact HR.out)
          · simp [intOf]
            try omega
        · have hme : L.take m = L := List.take_of_length_le (by omega)
          rw [hme] at hSm
          have HR : Hid (TuO T O W1 (.int .i64 ((k + 1 : Nat) : Int)) wr) := by
            refine ⟨k + 1, n + m, by omega, rfl, by have := HS.out.2.2; omega, by rw [HE.out]; exact hSm, HS2.out.2.grown hgm HS2.out.2.size (fun j hj => by injection hj with hj; omega)⟩
          clear hSm hgm hme
          go_wp2
          refine ⟨?_, ?_⟩
          · first | exact HR.out | ((repeat apply Exists.intro); refine ⟨?_, rfl⟩; exact HR.out)
          · simp [intOf]
            try omega
    · have hke : O.take k = O := List.take_of_length_le (by omega)
      rw [hke] at hS
      obtain ⟨D, hD, hIK, hH⟩ := hS
      have hsz := hD.size_le
      have cK := mkeys_any (some (W1.heap.size + 1)) wr
      have cS := msorted_any (W1.heap.size + 1) n D unitElem wr hD (by unfold maxLen; omega) (by omega)
      have hnd := keys_nodup hIK (hD.tidy keyedI)
      have HD : Hid (IntK D ∧ (∀ x, has D (.int .i64 x) = true ↔ x ∈ touA T O) ∧ Maps.size D ≤ 4840 ∧ Below w.heap.size w wr ∧ (intKeys D).Nodup) := ⟨hIK, hH, by omega, on1 HB1.out hB, hnd⟩
      clear hD hIK hH hsz hB hke hnd
      go_wp2_with (first | (go_at_call 30; refine cK.mono ?_; rintro e W3 ⟨rfl, rfl⟩) | (go_at_call 29; refine cS.mono ?_; rintro e W4 ⟨v4, ss, rfl, hp4, ho4, hB4⟩; have HF := Lib.hid (And.intro hp4 (And.intro ho4 hB4)); clear hp4 ho4 hB4))
      go_ret2
      obtain ⟨hp4, ho4, hB4⟩ := HF.out
      refine ⟨_, ss.mergeSort (fun x y => decide (x ≤ y)), rfl, own_isI (by simpa [cellsI, List.length_mergeSort] using ho4), fun x => ?_, ?_, sort_lt (hp4.nodup_iff.2 HD.out.2.2.2.2), on1 HD.out.2.2.2.1 hB4⟩
      · rw [List.mem_mergeSort, hp4.mem_iff, ← has_int HD.out.1]
        exact HD.out.2.1 x
      · rw [List.length_mergeSort, hp4.length_eq]
        obtain ⟨es, rfl, _⟩ := HD.out.1
        have := HD.out.2.2.1
        simp [Maps.size] at this
        simp [intKeys]
        omega
end Go.Proofs.YtikjmingkadjcaaGreatDoor

/-
  The walks of Index.hasNode and Index.hasBond.
-/
namespace Go.Proofs.YtikjmingkadjcaaGreatDoor
open Go.RowKit
set_option linter.unusedVariables false
set_option linter.unusedSimpArgs false
end Go.Proofs.YtikjmingkadjcaaGreatDoor

/-
  The walk of Index.Graph.
-/
namespace Go.Proofs.YtikjmingkadjcaaGreatDoor
open Go.RowKit
set_option linter.unusedVariables false
set_option linter.unusedSimpArgs false

def IxC (w : World) (b : Nat) (vk vb vn vt : Value) (s m1 m2 m3 : Nat) : Prop := w.heap[b]? = some (.cells #[vk, vb, .map (some s), vn, vt, .map (some m1), .map (some m2), .map (some m3)] 114 (0, 0))
theorem IxC.on {w w' : World} {b : Nat} {vk vb vn vt : Value} {s m1 m2 m3 : Nat} (h : IxC w b vk vb vn vt s m1 m2 m3) (hB : Below w.heap.size w w') : IxC w' b vk vb vn vt s m1 m2 m3 := (hB.block b (Array.getElem?_eq_some_iff.1 h).1).trans h
end Go.Proofs.YtikjmingkadjcaaGreatDoor

/-
  The keys of the index's maps.
-/
namespace Go.Proofs.YtikjmingkadjcaaGreatDoor
open Go.RowKit
open Go.Maps (Keyed)
set_option linter.unusedVariables false
set_option linter.unusedSimpArgs false

abbrev KeyJ := ByteArray × ByteArray × Int × Int × ByteArray
abbrev EndJ := ByteArray × Int × Bool
def encJ (x : KeyJ) : Value := .agg #[.string x.1, .string x.2.1, .int .i64 x.2.2.1, .int .i64 x.2.2.2.1, .string x.2.2.2.2]
def encD (x : EndJ) : Value := .agg #[.string x.1, .int .i64 x.2.1, .bool x.2.2]
theorem encJ_inj : ∀ x y, encJ x = encJ y → x = y := fun x y h => by
  obtain ⟨a, b, c, d, e⟩ := x
  obtain ⟨a', b', c', d', e'⟩ := y
  simpa [encJ] using h
theorem encD_inj : ∀ x y, encD x = encD y → x = y := fun x y h => by
  obtain ⟨a, b, c⟩ := x
  obtain ⟨a', b', c'⟩ := y
  simpa [encD] using h
theorem keyedJ : Keyed Tryz.prog 231 := Keyed.of_law (deep_law_laid lay0 (m := 4) (by omega) (of_decide_eq_true (by kernel_rfl)) (by kernel_rfl) (by rw [Tryz.underlying231]))
theorem keyedD : Keyed Tryz.prog 172 := Keyed.of_law (deep_law_laid lay0 (m := 4) (by omega) (of_decide_eq_true (by kernel_rfl)) (by kernel_rfl) (by rw [Tryz.underlying172]))
theorem kt96 : Tryz.prog.keyType 231 = true := by kernel_rfl
theorem kt125 : Tryz.prog.keyType 172 = true := by kernel_rfl
theorem co96 : Tryz.prog.cellsOf 231 = 5 := by kernel_rfl
theorem co125 : Tryz.prog.cellsOf 172 = 3 := by kernel_rfl
theorem co4 : Tryz.prog.cellsOf 4 = 1 := by kernel_rfl
theorem klB (d : Nat) (b : Bool) : Tryz.prog.keyLits (d + 1) 4 [.bool b] = some [.bool b] := by
  simp only [Program.keyLits, Tryz.underlying4]
theorem kl125 (d : Nat) {s : ByteArray} {n : Int} (b : Bool) (h1 : s.size ≤ maxLen) (h2 : in64 n) : Tryz.prog.keyLits (d + 2) 172 [.string s, .int .i64 n, .bool b] = some [.string s.data.toList, .int .i64 n, .bool b] := by
  conv => lhs; unfold Program.keyLits
  rw [Tryz.underlying172]
  simp [co125, co9, co3, co4, klS _ h1, klI _ h2, klB]
theorem kl96 (d : Nat) {k f s : ByteArray} {t n : Int} (hk : k.size ≤ maxLen) (h0 : f.size ≤ maxLen) (h1 : in64 t) (h2 : in64 n) (h3 : s.size ≤ maxLen) : Tryz.prog.keyLits (d + 3) 231 [.string k, .string f, .int .i64 t, .int .i64 n, .string s] = some [.string k.data.toList, .string f.data.toList, .int .i64 t, .int .i64 n, .string s.data.toList] := by
  conv => lhs; unfold Program.keyLits
  rw [Tryz.underlying231]
  simp [co96, co48, co9, klS _ h0, klS _ hk, kl48 _ h1 h2 h3]
theorem keyD {x : EndJ} (h1 : x.1.size ≤ maxLen) (h2 : in64 x.2.1) : ∃ l, keyOf Tryz.prog 172 (encD x) = some l := by
  have hf : (encD x).formed Tryz.prog 172 = true := by simp [encD, Value.formed, Tryz.underlying172, co125]
  unfold keyOf
  rw [Tryz.underlying172, kt125, hf, tys]
  have := kl125 330 x.2.2 h1 h2
  simp only [Bool.and_self, if_true]
  rw [show (encD x).cells.toList = [.string x.1, .int .i64 x.2.1, .bool x.2.2] from rfl, show (332 : Nat) = 330 + 2 from rfl, this]
  exact ⟨_, rfl⟩
theorem keyJ {x : KeyJ} (hk : x.1.size ≤ maxLen) (h1 : x.2.1.size ≤ maxLen) (h2 : in64 x.2.2.1) (h3 : in64 x.2.2.2.1) (h4 : x.2.2.2.2.size ≤ maxLen) : ∃ l, keyOf Tryz.prog 231 (encJ x) = some l := by
  have hf : (encJ x).formed Tryz.prog 231 = true := by simp [encJ, Value.formed, Tryz.underlying231, co96]
  unfold keyOf
  rw [Tryz.underlying231, kt96, hf, tys]
  have := kl96 329 hk h1 h2 h3 h4
  simp only [Bool.and_self, if_true]
  rw [show (encJ x).cells.toList = [.string x.1, .string x.2.1, .int .i64 x.2.2.1, .int .i64 x.2.2.2.1, .string x.2.2.2.2] from rfl, show (332 : Nat) = 329 + 3 from rfl, this]
  exact ⟨_, rfl⟩
theorem zero60 (w : World) : (zeroValue 57).run Tryz.prog w = .ok (.slice none 0 0) w := by kernel_rfl
theorem zero90 (w : World) : (zeroValue 134).run Tryz.prog w = .ok (.agg #[.slice none 0 0, .slice none 0 0]) w := by kernel_rfl
end Go.Proofs.YtikjmingkadjcaaGreatDoor

/-
  The walks of Index.Kind, Key and Ends.
-/
namespace Go.Proofs.YtikjmingkadjcaaGreatDoor
open Go.RowKit
open Go.Maps (Keyed)
set_option linter.unusedVariables false
set_option linter.unusedSimpArgs false

def RowR (w : World) (o : Option Value) (h : Option (List Int)) : Prop := (o = none ∧ h = none) ∨ ∃ v L, o = some v ∧ h = some L ∧ L.length ≤ 1000000 ∧ HasC w v L.length (cellsI L)
def MapR {κ : Type} (w : World) (k : TypeId) (enc : κ → Value) (b : Nat) (H : κ → Option (List Int)) : Prop := ∃ F, OwnM w Tryz.prog k enc b F ∧ ∀ x, RowR w (F x) (H x)
theorem MapR.on {κ : Type} {w w' : World} {k : TypeId} {enc : κ → Value} {b : Nat} {H : κ → Option (List Int)} (h : MapR w k enc b H) (hB : Below w.heap.size w w') : MapR w' k enc b H := by
  obtain ⟨F, h1, h2⟩ := h
  refine ⟨F, h1.of_block (hB.block b h1.lt), fun x => ?_⟩
  rcases h2 x with h | ⟨v, L, e1, e2, e3, hh⟩
  · exact .inl h
  · exact .inr ⟨v, L, e1, e2, e3, hh.on hB⟩
theorem MapR.look {κ : Type} {w : World} {k : TypeId} {enc : κ → Value} {b : Nat} {H : κ → Option (List Int)} (h : MapR w k enc b H) (K : Keyed Tryz.prog k) (hinj : ∀ x y, enc x = enc y → x = y) {t : TypeId} (ht : Tryz.prog.underlying t = some (.map k 57)) {x : κ} {l : Lit} (hk : keyOf Tryz.prog k (enc x) = some l) :
    ∃ v, HasC w v ((H x).getD []).length (cellsI ((H x).getD [])) ∧ ((H x).getD []).length ≤ 1000000 ∧ (Instr.lookup t (.map (some b)) (enc x) false).run Tryz.prog w = .ok v w := by
  obtain ⟨F, h1, h2⟩ := h
  have hl := h1.look K hinj ht (zero60 w) hk false
  rcases h2 x with ⟨e1, e2⟩ | ⟨v, L, e1, e2, e3, hh⟩
  · rw [e1] at hl
    rw [e2]
    exact ⟨_, ⟨none, 0, rfl, .inl ⟨rfl, rfl⟩⟩, by simp, hl⟩
  · rw [e1] at hl
    rw [e2]
    exact ⟨v, hh, e3, hl⟩
theorem MapHp.look {w : World} {base b : Nat} {H : ByteArray → Option Hp} (h : MapHp w base b H) {x : ByteArray} {l : Lit} (hk : keyOf Tryz.prog 9 (encS x) = some l) :
    ∃ vk vs, (∀ p, H x = some p → OwnHp w base (.agg #[vk, vs]) p) ∧ (Instr.lookup 106 (.map (some b)) (encS x) true).run Tryz.prog w = .ok (.tuple #[.agg #[vk, vs], .bool (H x).isSome]) w ∧ (Instr.lookup 106 (.map (some b)) (encS x) false).run Tryz.prog w = .ok (.agg #[vk, vs]) w ∧ (H x = none → vk = .slice none 0 0 ∧ vs = .slice none 0 0) := by
  obtain ⟨F, h1, h2⟩ := h
  have hl := h1.look keyedS encS_inj Tryz.underlying106 (zero90 w) hk true
  have hm := h1.look keyedS encS_inj Tryz.underlying106 (zero90 w) hk false
  rcases h2 x with ⟨e1, e2⟩ | ⟨v, p, e1, e2, hh⟩
  · rw [e1] at hl hm
    rw [e2]
    exact ⟨.slice none 0 0, .slice none 0 0, fun p hp => (by cases hp), hl, hm, fun _ => ⟨rfl, rfl⟩⟩
  · rw [e1] at hl hm
    rw [e2]
    obtain ⟨vk, vs, rfl, o1, o2⟩ := hh
    exact ⟨vk, vs, fun q hq => (by cases hq; exact ⟨vk, vs, rfl, o1, o2⟩), hl, hm, fun h => (by cases h)⟩
end Go.Proofs.YtikjmingkadjcaaGreatDoor

/-
  The walks of Index.Kind, where the kind is there, and of Index.Ends.
-/
namespace Go.Proofs.YtikjmingkadjcaaGreatDoor
open Go.RowKit
open Go.Maps (Keyed)
set_option linter.unusedVariables false
set_option linter.unusedSimpArgs false

end Go.Proofs.YtikjmingkadjcaaGreatDoor

/-
  The walk of Index.Ends.
-/
namespace Go.Proofs.YtikjmingkadjcaaGreatDoor
open Go.RowKit
open Go.Maps (Keyed)
set_option linter.unusedVariables false
set_option linter.unusedSimpArgs false
end Go.Proofs.YtikjmingkadjcaaGreatDoor

/-
  The walk of Index.Key.
-/
namespace Go.Proofs.YtikjmingkadjcaaGreatDoor
open Go.RowKit
open Go.Maps (Keyed)
set_option linter.unusedVariables false
set_option linter.unusedSimpArgs false

end Go.Proofs.YtikjmingkadjcaaGreatDoor

/-
  The walk of tables.noteKeys.
-/
namespace Go.Proofs.YtikjmingkadjcaaGreatDoor
open Go.RowKit
open Go.Maps (Keyed)
set_option linter.unusedVariables false
set_option linter.unusedSimpArgs false

def keyO (nm : ByteArray) (p : Pr) : KeyJ := (nm, p.nm, p.t, p.n, p.s)
def noteS (nm : ByteArray) (ks : List Nm) (id : Int) (G : KeyJ → Option Int) (p : Pr) : KeyJ → Option Int := if (!(G (keyO nm p)).isSome && hasN ks p.nm.toList) = true then upd G (keyO nm p) id else G
def noteF (nm : ByteArray) (ks : List Nm) (id : Int) (G : KeyJ → Option Int) (rc : List Pr) : KeyJ → Option Int := rc.foldl (noteS nm ks id) G
def MapJ (w : World) (m : Nat) (G : KeyJ → Option Int) : Prop := OwnM w Tryz.prog 231 encJ m (fun x => (G x).map (.int .i64))
set_option maxHeartbeats 8000000 in
set_option maxRecDepth 100000 in
theorem noteKeys_any {m1 m2 m3 : Nat} {w : World} {G : KeyJ → Option Int} (hG : MapJ w m2 G) {nm kd : ByteArray} {ks : List Nm} {vks rv : Value} (hS : IsS w vks ks) (hks : ks.length ≤ 1000) {id : Int} {rc : List Pr} (hR : IsR w rv rc) (hrc : rc.length ≤ 1000) (hl : ∀ p ∈ rc, ∃ l, keyOf Tryz.prog 231 (encJ (keyO nm p)) = some l) :
    Calls Tryz.prog 76 #[.agg #[.map (some m1), .map (some m2), .map (some m3)], .string nm, vks, .agg #[.int .i64 id, .string kd, rv]] w fun e w' => e = .returned (.tuple #[]) ∧ MapJ w' m2 (noteF nm ks id G rc) ∧ w.grownBy w' (some m2) ∧ Kp w w' := by
  obtain ⟨W0, hW0⟩ : ∃ W0, W0 = (w.alloc (.cells #[.map (some m1), .map (some m2), .map (some m3)] 112)).alloc (.cells #[.int .i64 id, .string kd, rv] 46) := ⟨_, rfl⟩
  have hB0 : Below w.heap.size w W0 := by rw [hW0]; exact b_alloc (b_alloc (Below.refl _ _) _) _
  have hs0 : W0.heap.size = w.heap.size + 2 := by rw [hW0]; simp
  have n0 : W0.heap[w.heap.size]? = some (.cells #[.map (some m1), .map (some m2), .map (some m3)] 112 (0, 0)) := by rw [hW0]; exact (heap_alloc_old _ _ (by simp)).trans (heap_alloc_new w _)
  have n1 : W0.heap[w.heap.size + 1]? = some (.cells #[.int .i64 id, .string kd, rv] 46 (0, 0)) := by
    have := heap_alloc_new (w.alloc (.cells #[.map (some m1), .map (some m2), .map (some m3)] 112)) (.cells #[.int .i64 id, .string kd, rv] 46)
    rw [World.size_alloc] at this; rw [hW0]; exact this
  have hG0 : MapJ W0 m2 (noteF nm ks id G (rc.take 0)) := OwnM.of_block hG (hB0.block m2 hG.lt)
  have HH : Hid (Below w.heap.size w W0 ∧ W0.cell? ⟨w.heap.size, 1, none⟩ = some (.map (some m2)) ∧ W0.cell? ⟨w.heap.size + 1, 0, none⟩ = some (.int .i64 id) ∧ MapJ W0 m2 (noteF nm ks id G (rc.take 0)) ∧ IsS W0 vks ks ∧ IsR W0 rv rc) := ⟨hB0, cell_at n0 rfl, cell_at n1 rfl, hG0, hS.kp (.of_below hB0), hR.kp (.of_below hB0)⟩
  obtain ⟨av, lv, rfl, _⟩ := hR
  obtain ⟨as', ls, cs', rfl⟩ : ∃ a l c, vks = .slice a l c := by
    rcases hS with ⟨a, c, rfl, _⟩ | ⟨b, off, c, rfl, _⟩
    · exact ⟨_, _, _, rfl⟩
    · exact ⟨_, _, _, rfl⟩
  have c2 : W0.cell? ⟨w.heap.size + 1, 2, none⟩ = some (.slice av rc.length lv) := cell_at n1 rfl
  clear hB0 n0 n1 hG0 hG hS
  go_enter Tryz.func76, Tryz.ntmps76
  go_upto_region 1 with fail
  rw [← hW0]
  clear hW0
  go_wp2
  go_loopw [16] (fun i wr => ∃ k : Nat, k ≤ rc.length ∧ i = .int .i64 k ∧ MapJ wr m2 (noteF nm ks id G (rc.take k)) ∧ W0.grownBy wr (some m2) ∧ Kp W0 wr) (fun i _ => rc.length - (intOf i).toNat)
  case atStart => exact ⟨0, Nat.zero_le _, rfl, HH.out.2.2.2.1, but_of_below (Below.refl _ _) _, Kp.refl _⟩
  case round =>
    obtain ⟨k, hk, rfl, hM, hg, hK⟩ := hrel
    by_cases hlt : k < rc.length
    · obtain ⟨x, hx⟩ : ∃ x, rc[k]? = some x := ⟨rc[k], by simp [hlt]⟩
      have hxm := List.mem_of_getElem? hx
      obtain ⟨lx, hlx⟩ := hl x hxm
      obtain ⟨b, off, c, hv, hb, e0, e1, e2, e3⟩ := (HH.out.2.2.2.2.2.kp hK).at hx
      injection hv with hv1 hv2 hv3
      subst hv1 hv3
      clear hv2
      have hT : noteF nm ks id G (rc.take (k + 1)) = noteS nm ks id (noteF nm ks id G (rc.take k)) x := foldl_take _ _ hx
      obtain ⟨W1, hW1⟩ : ∃ W1, W1 = wr.alloc (.cells #[.string x.nm, .int .i64 x.t, .int .i64 x.n, .string x.s] 50) := ⟨_, rfl⟩
      obtain ⟨W2, hW2⟩ : ∃ W2, W2 = W1.alloc (.cells #[.string nm, .string x.nm, .int .i64 x.t, .int .i64 x.n, .string x.s] 231) := ⟨_, rfl⟩
      have hB1 : Below wr.heap.size wr W1 := by rw [hW1]; exact b_alloc (Below.refl _ _) _
      have hB2 : Below W1.heap.size W1 W2 := by rw [hW2]; exact b_alloc (Below.refl _ _) _
      have hB12 := on1K hB1 hB2 (Nat.le_refl _)
      have m0 : W1.heap[wr.heap.size]? = some (.cells #[.string x.nm, .int .i64 x.t, .int .i64 x.n, .string x.s] 50 (0, 0)) := by rw [hW1]; exact heap_alloc_new wr _
      have m4 : W2.heap[W1.heap.size]? = some (.cells #[.string nm, .string x.nm, .int .i64 x.t, .int .i64 x.n, .string x.s] 231 (0, 0)) := by rw [hW2]; exact heap_alloc_new W1 _
      have m0' := (hB2.block _ (Array.getElem?_eq_some_iff.1 m0).1).trans m0
      have hK2 := hK.trans (.of_below hB12)
      have hM2 : MapJ W2 m2 (noteF nm ks id G (rc.take k)) := OwnM.of_block hM (hB12.block m2 hM.lt)
      have u0 : W1.cell? ⟨wr.heap.size, 0, none⟩ = some (.string x.nm) := cell_at m0 rfl
      have u1 : W1.cell? ⟨wr.heap.size, 1, none⟩ = some (.int .i64 x.t) := cell_at m0 rfl
      have u2 : W1.cell? ⟨wr.heap.size, 2, none⟩ = some (.int .i64 x.n) := cell_at m0 rfl
      have u3 : W1.cell? ⟨wr.heap.size, 3, none⟩ = some (.string x.s) := cell_at m0 rfl
      have t0 : W2.cell? ⟨W1.heap.size, 0, none⟩ = some (.string nm) := cell_at m4 rfl
      have t1 : W2.cell? ⟨W1.heap.size, 1, none⟩ = some (.string x.nm) := cell_at m4 rfl
      have t2 : W2.cell? ⟨W1.heap.size, 2, none⟩ = some (.int .i64 x.t) := cell_at m4 rfl
      have t3 : W2.cell? ⟨W1.heap.size, 3, none⟩ = some (.int .i64 x.n) := cell_at m4 rfl
      have t4 : W2.cell? ⟨W1.heap.size, 4, none⟩ = some (.string x.s) := cell_at m4 rfl
      have u0' : W2.cell? ⟨wr.heap.size, 0, none⟩ = some (.string x.nm) := cell_at m0' rfl
      have g1 := hK2.2 _ _ HH.out.2.1
      have g2 := hK2.2 _ _ HH.out.2.2.1
      have cc := contains_any (HH.out.2.2.2.2.1.kp hK2) hks x.nm.toList
      rw [bs_self] at cc
      have hlook := hM2.look keyedJ encJ_inj Tryz.underlying109 (zero3 W2) hlx true
      obtain ⟨W3, p1, p2, p3⟩ := hM2.put keyedJ encJ_inj Tryz.underlying109 hlx (.int .i64 id)
      rw [upd_map] at p2
      have HP : Hid (MapJ W3 m2 (upd (noteF nm ks id G (rc.take k)) (keyO nm x) id) ∧ W0.grownBy W3 (some m2) ∧ Kp W0 W3) := ⟨p2, but_trans (but_below hg hB12) p3, hK2.trans (but_map hM2 p3)⟩
      have HQ : Hid (MapJ W2 m2 (noteF nm ks id G (rc.take k)) ∧ W0.grownBy W2 (some m2) ∧ Kp W0 W2) := ⟨hM2, but_below hg hB12, hK2⟩
      have HW1 := Lib.hid hW1
      have HW2 := Lib.hid hW2
      have HT := Lib.hid hT
      have hse : noteS nm ks id (noteF nm ks id G (rc.take k)) x = if (!(noteF nm ks id G (rc.take k) (keyO nm x)).isSome && hasN ks x.nm.toList) = true then upd (noteF nm ks id G (rc.take k)) (keyO nm x) id else noteF nm ks id G (rc.take k) := rfl
      have HSE := Lib.hid hse
      generalize hasN ks x.nm.toList = hn1 at cc HSE
      obtain ⟨o, ho⟩ : ∃ o, o = noteF nm ks id G (rc.take k) (keyO nm x) := ⟨_, rfl⟩
      rw [← ho] at hlook HSE
      unfold encJ keyO at hlook p1
      simp only at hlook p1
      obtain ⟨xn, xt, xm, xs⟩ := x
      simp only at *
      clear hB1 hB2 hB12 m0 m0' m4 hK hK2 hM hM2 hg p2 p3 hx hxm hlx hT hse ho hW1 hW2
      cases o with
      | some id0 =>
        simp only [Option.map_some, Option.getD_some, Option.isSome_some, if_true] at hlook
        go_upto_region 4 with fail
        rw [← HW1.out]
        go_upto_region 5 with fail
        rw [← HW2.out]
        go_wp2
        go_roundw
        case rel => exact ⟨k + 1, by omega, by go_num, by rw [HT.out, HSE.out]; exact HQ.out.1, HQ.out.2⟩
        case measure => simp [intOf]; omega
      | none =>
        simp only [Option.map_none, Option.getD_none, Option.isSome_none, if_true] at hlook
        cases hn1
        · skip
          go_upto_region 4 with fail
          rw [← HW1.out]
          go_upto_region 5 with fail
          rw [← HW2.out]
          go_wp2_with (first | (go_at_call 111; refine cc.mono ?_; rintro e W4 ⟨rfl, rfl⟩))
          go_roundw
          case rel => exact ⟨k + 1, by omega, by go_num, by rw [HT.out, HSE.out]; exact HQ.out.1, HQ.out.2⟩
          case measure => simp [intOf]; omega
        · skip
          go_upto_region 4 with fail
          rw [← HW1.out]
          go_upto_region 5 with fail
          rw [← HW2.out]
          go_wp2_with (first | (go_at_call 111; refine cc.mono ?_; rintro e W4 ⟨rfl, rfl⟩))
          go_roundw
          case rel => exact ⟨k + 1, by omega, by go_num, by rw [HT.out, HSE.out]; exact HP.out.1, HP.out.2⟩
          case measure => simp [intOf]; omega
    · obtain rfl : k = rc.length := by omega
      rw [List.take_length] at hM
      go_wp2
      go_end0
      exact ⟨rfl, hM, but_trans (but_of_below HH.out.1 _) hg, (Kp.of_below HH.out.1).trans hK⟩
end Go.Proofs.YtikjmingkadjcaaGreatDoor

/-
  Where append leaves a row of the call's own; a map to such rows, two keys' rows apart.
-/
namespace Go.Proofs.YtikjmingkadjcaaGreatDoor
open Go.RowKit
open Go.Maps (Keyed)
set_option linter.unusedVariables false
set_option linter.unusedSimpArgs false

def Moved (w : World) (v v' : Value) : Prop := v'.ownBlock = v.ownBlock ∨ ∃ g, v'.ownBlock = some g ∧ w.heap.size ≤ g
theorem append_at {P : Program} (w : World) (base : Nat) (t ty e : TypeId) (i : TypeInfo) (z : Value) (size bytes : Nat) (ht : P.underlying t = some (.slice e)) (hi : P.info? e = some i) (hz : i.zero = some z)
    (hsize : i.size = size) (hby : i.bytes = bytes) (hzs : z.cells.size = size) (hsz : 0 < size) (v : Value) (n : Nat) (xs : List Value) (hown : w.ownsRow base e size v n xs)
    (a : Addr) (m c : Nat) (hm : 0 < m) (news : List Value) (hl : news.length = m * size) (hnews : ∀ j u, news[j]? = some u → w.cell? (a.add j) = some u) (h1 : ∀ u ∈ news, u.oneCell' = true)
    (h63 : n + m ≤ maxLen) (hbytes : (n + m) * bytes ≤ 140737488355328) (hbase : base ≤ w.heap.size) :
    ∃ v' w', (Builtin.append_ #[t, t] ty #[v, .slice (some a) m c]).run P w = .ok v' w' ∧ w'.ownsRow base e size v' (n + m) (xs ++ news) ∧ w.grownBy w' v.ownBlock ∧ Moved w v v' ∧ v'.ownBlock ≠ none := by
  obtain ⟨v', w', r1, r2, r3, r4⟩ := run_append_own (P := P) w base t ty e i z size bytes ht hi hz hsize hby hzs hsz v n xs hown a m c news hl hnews h1 h63 hbytes hbase
  have hnn : v'.ownBlock ≠ none := by
    rcases r2.2 with ⟨_, h0⟩ | ⟨g, cap, cur, rfl, _⟩
    · omega
    · simp [Value.ownBlock]
  refine ⟨v', w', r1, r2, r3, ?_, hnn⟩
  have hsmall : n + m ≤ 9223372036854775807 := by simp only [maxLen] at h63; omega
  rcases hown.2 with ⟨rfl, rfl⟩ | ⟨g, cap, cur, rfl, hbg, hg, hnc, hcm, hcs, htake⟩
  · have hx : xs = [] := List.eq_nil_of_length_eq_zero (by simpa using hown.1)
    subst hx
    obtain ⟨v2, w2, q1, q2, _, _⟩ := run_append_own (P := P) w w.heap.size t ty e i z size bytes ht hi hz hsize hby hzs hsz (.slice none 0 0) 0 [] (World.ownsRow_nil _ _ _ _) a m c news hl hnews h1 h63 hbytes (Nat.le_refl _)
    rw [r1] at q1
    injection q1 with e1 e2
    subst e1
    rcases q2.2 with ⟨_, h0⟩ | ⟨g, cap, cur, rfl, hge, _⟩
    · omega
    · exact .inr ⟨g, rfl, hge⟩
  · subst hsize hby
    by_cases hroom : n + m ≤ cap
    · have hfit : n * i.size + news.length ≤ cur.size := by rw [hl, hcs, ← Nat.add_mul]; exact Nat.mul_le_mul_right _ hroom
      have hr := run_append_room (P := P) w t ty e i ht hi g n cap cur hg a m c news hl hnews h1 hroom hfit
      rw [r1] at hr
      injection hr with e1 e2
      subst e1
      exact .inl rfl
    · have holds : ∀ j u, xs[j]? = some u → w.cell? ((⟨g, 0, none⟩ : Addr).add j) = some u := hown.cells (g := g) rfl
      have hr := run_append_grow (P := P) w t ty e i z ht hi hz ⟨g, 0, none⟩ n cap xs hown.1 holds a m c news hl hnews (by omega) (by omega) (growslice_fits (by omega) hbytes)
      rw [r1] at hr
      injection hr with e1 e2
      subst e1
      exact .inr ⟨_, rfl, Nat.le_refl _⟩
def MapW {κ : Type} (w : World) (base : Nat) (k : TypeId) (enc : κ → Value) (b : Nat) (H : κ → Option (List Int)) : Prop :=
  ∃ F, OwnM w Tryz.prog k enc b F ∧ (∀ x, (F x = none ∧ H x = none) ∨ ∃ v L, F x = some v ∧ H x = some L ∧ w.ownsRow base 3 1 v L.length (cellsI L)) ∧ ∀ x y v u g, x ≠ y → F x = some v → F y = some u → v.ownBlock = some g → u.ownBlock ≠ some g
theorem MapW.on {κ : Type} {w w' : World} {base : Nat} {k : TypeId} {enc : κ → Value} {b : Nat} {H : κ → Option (List Int)} (h : MapW w base k enc b H) (hb : w'.heap[b]? = w.heap[b]?) (hk : Kt 3 w w') : MapW w' base k enc b H := by
  obtain ⟨F, h1, h2, h3⟩ := h
  refine ⟨F, h1.of_block hb, fun x => ?_, h3⟩
  rcases h2 x with h | ⟨v, L, e1, e2, hh⟩
  · exact .inl h
  · exact .inr ⟨v, L, e1, e2, own_kt hh hk⟩
end Go.Proofs.YtikjmingkadjcaaGreatDoor
