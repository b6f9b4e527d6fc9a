/-
  The set of ids that guard.Touched makes: a map of integers, by what it has; the ids that ops touch may be ids.
-/
import Derived.Test.YtffiddpnkiejkaaGreatM37
import Derived.Test.YtffiddpnkiejkaaGreatM38
import Derived.Maps.OwnSet
import Derived.Laws.StructEq
namespace Go.Proofs.YtffiddpnkiejkaaGreat
open Go.RowKit Go.Maps
set_option linter.unusedVariables false
set_option linter.unusedSimpArgs false

/-- Its keys are integers. -/
def IntK (D : DataW Unit) : Prop := ∃ es, D = .map es ∧ ∀ p ∈ es, ∃ x : Int, p.1 = .int .i64 x
theorem IntK.put {D : DataW Unit} (h : IntK D) (x : Int) (d : DataW Unit) : IntK (D.put (.int .i64 x) d) := by
  obtain ⟨es, rfl, he⟩ := h
  refine ⟨DataW.insert (.int .i64 x, d) (es.filter fun p => !p.1.sameKey (.int .i64 x)), rfl, fun p hp => ?_⟩
  rcases Go.ChangeMaps.mem_insert_iff.1 hp with rfl | hp
  · exact ⟨x, rfl⟩
  · exact he p (List.mem_filter.1 hp).1
/-- Block b is the set X. -/
def SetI (w : World) (b n : Nat) (X : List Int) : Prop := ∃ D : DataW Unit, w.ownsMap Tryz.prog 3 unitElem b n D ∧ IntK D ∧ ∀ x, has D (.int .i64 x) = true ↔ x ∈ X
theorem setI_made (w : World) : SetI (w.alloc (.map #[] 0)) w.heap.size 0 [] := ⟨_, World.ownsMap_made w _ _ _, ⟨[], rfl, by simp⟩, fun x => by simp [has]⟩
theorem has_int {D : DataW Unit} (h : IntK D) (x : Int) : has D (.int .i64 x) = true ↔ x ∈ intKeys D := by
  obtain ⟨es, rfl, he⟩ := h
  rw [has_eq, List.any_eq_true]
  unfold intKeys
  rw [List.mem_map]
  constructor
  · rintro ⟨p, hp', hs⟩
    obtain ⟨a, ha⟩ := he p hp'
    rw [ha] at hs
    exact ⟨p, hp', by rw [ha]; simpa [Lit.sameKey, _root_.Go.intOf] using hs⟩
  · rintro ⟨p, hp', rfl⟩
    obtain ⟨a, ha⟩ := he p hp'
    exact ⟨p, hp', by rw [ha]; simp [Lit.sameKey, _root_.Go.intOf]⟩
theorem setI_put {w : World} {b n : Nat} {X : List Int} (h : SetI w b n X) (hn : n < maxLen) {x : Int} (hx : in64 x) : ∃ w', (Instr.mapUpdate 67 (.map (some b)) (.int .i64 x) (.agg #[])).run Tryz.prog w = .ok () w' ∧ SetI w' b (n + 1) (X ++ [x]) ∧ w.grownBy w' (some b) := by
  obtain ⟨D, h1, h2, h3⟩ := h
  obtain ⟨w', e, r1, r2⟩ := h1.store keyedI Tryz.underlying67 hn (Go.Maps.keyOf_int_mk Tryz.underlying3 hx) unitElem_mk
  refine ⟨w', e, ⟨_, r1, h2.put x _, fun y => ?_⟩, r2.grown⟩
  by_cases hy : y = x
  · subst hy
    rw [has_put_same (let ⟨es, e, _⟩ := h2; ⟨es, e⟩) (by trivial)]
    simp
  · rw [has_put_other (fun e => hy (by injection e)), h3 y]
    simp [hy]
theorem SetI.of_block {w w' : World} {b n : Nat} {X : List Int} (h : SetI w b n X) (hb : w'.heap[b]? = w.heap[b]?) : SetI w' b n X := by
  obtain ⟨D, ⟨es, clock, e1, e2⟩, h2⟩ := h
  exact ⟨D, ⟨es, clock, hb.trans e1, e2⟩, h2⟩
theorem SetI.lt {w : World} {b n : Nat} {X : List Int} (h : SetI w b n X) : b < w.heap.size := let ⟨_, h, _⟩ := h; h.lt
theorem SetI.no_cell {w : World} {b n : Nat} {X : List Int} (h : SetI w b n X) (a : Addr) (ha : a.block = b) : w.cell? a = none := by
  obtain ⟨D, ⟨es, clock, e1, _⟩, _⟩ := h
  subst ha
  simp [World.cell?, e1]

theorem idOk_te {t : Te} (h : teE none t = 0) : idOk t.fr = true ∧ idOk t.tt = true := by
  unfold teE at h
  split at h
  · split at h
    · rename_i h2
      simpa using h2
    · cases h
  · rename_i h1; exact absurd h h1
theorem idOk_nd {n : Nd} (h : ndE none n = 0) : idOk n.id = true := ((ndE_iff n).1 h).1
theorem tou_ids {T0 : List Te} (h0 : ∀ t ∈ T0, teE none t = 0) : ∀ (O : List Opx) (M : List Nd) (U : List Te), gErr M U = 0 → opS.err O M U = 0 → ∀ o ∈ O, ∀ x ∈ touB T0 o, idOk x = true
  | [], M, U, _, _, o, ho, x, hx => by cases ho
  | q :: O, M, U, hg, he, o, ho, x, hx => by
    have e : opE q M U = 0 := by
      by_cases e : opS.e q M U = 0
      · exact e
      · unfold OpS.err at he; rw [if_neg e] at he; exact absurd he e
    have he' : opS.err O (opM q M U) (opT q M U) = 0 := by unfold OpS.err at he; rw [if_pos (show opS.e q M U = 0 from e)] at he; exact he
    rcases List.mem_cons.1 ho with rfl | ho
    · obtain ⟨⟨_, _, hn⟩, ⟨_, hs, ht⟩⟩ := (gErr_iff M U).1 hg
      have nd : fndN o.nd.id M = true → idOk o.nd.id = true := fun hf => by
        obtain ⟨g, e2, hg2⟩ := fnd_at hf
        rw [← hg2]; exact idOk_nd (hn g (List.mem_of_getElem? e2))
      unfold touB at hx
      rcases opE_cases e with ⟨h, e1, _⟩ | ⟨h, hf, e1, _⟩ | ⟨h, hf, ⟨r, e1⟩, _⟩ | ⟨h, e1, _⟩ | ⟨h, hf, e1, _⟩
      · rw [if_neg (by omega), if_neg (by omega)] at hx
        rw [List.mem_singleton.1 hx]
        have : newE o.nd M = 0 := by unfold opE at e; rw [if_pos h] at e; exact e
        exact idOk_nd (gErr_one (newE_zero this).1)
      · rw [if_neg (by omega), if_pos h] at hx
        rcases List.mem_append.1 hx with hx | hx
        · obtain ⟨t, ht2, hh⟩ := List.mem_filterMap.1 hx
          obtain ⟨a, b⟩ := idOk_te (h0 t ht2)
          unfold oth at hh
          split at hh
          · injection hh with hh; rw [← hh]; exact b
          · split at hh
            · injection hh with hh; rw [← hh]; exact a
            · cases hh
        · rw [List.mem_singleton.1 hx]; exact nd hf
      · rw [if_neg (by omega), if_neg (by omega)] at hx
        rw [List.mem_singleton.1 hx]; exact nd hf
      · rw [if_pos (.inl h)] at hx
        have : bindE o.te U = 0 := by unfold opE at e; rw [if_neg (by omega), if_neg (by omega), if_neg (by omega), if_neg (by omega), if_pos h] at e; exact e
        obtain ⟨a, b⟩ := idOk_te (gErr_oneT (bindE_zero this).1)
        rcases List.mem_cons.1 hx with rfl | hx
        · exact a
        · rw [List.mem_singleton.1 hx]; exact b
      · rw [if_pos (.inr h)] at hx
        obtain ⟨a, b⟩ := idOk_te (ht _ ((fndT_iff hs).1 hf))
        rcases List.mem_cons.1 hx with rfl | hx
        · exact a
        · rw [List.mem_singleton.1 hx]; exact b
    · exact tou_ids h0 O _ _ (keeps_all q M U hg e) he' o ho x hx
theorem idOk_64 {x : Int} (h : idOk x = true) : in64 x := by
  unfold idOk at h
  simp at h
  unfold in64
  simp [Lit.wf, IntKind.min, IntKind.max, IntKind.signed, IntKind.bits]
  omega
theorem touB_len (T : List Te) (o : Opx) (h : T.length ≤ 120) : (touB T o).length ≤ 121 := by
  unfold touB
  have := ends_le T o.nd.id
  split
  · simp
  · split
    · simp; omega
    · simp
end Go.Proofs.YtffiddpnkiejkaaGreat

/-
  The walk of guard.Touched.
-/
namespace Go.Proofs.YtffiddpnkiejkaaGreat
open Go.RowKit Go.Maps
set_option linter.unusedVariables false
set_option linter.unusedSimpArgs false

set_option maxHeartbeats 2000000 in
set_option maxRecDepth 100000 in
theorem touched_no {vn vt vl : Value} {N : List Nd} {T : List Te} {O : List Opx} {w : World} (hN : IsN w vn N) (hT : IsT w vt T) (zN : SzN N) (zT : SzT T) (lN : N.length ≤ maxLen) (lT : T.length ≤ maxLen) (hL : IsO w vl O) (zL : ∀ o ∈ O, OpSz o) (lL : O.length ≤ maxLen) (h0 : ¬ AllOk N T O) :
    Calls Tryz.prog 5 #[.agg #[vn, vt], vl] w fun e w' => ∃ z, z ≠ 0 ∧ e = .returned (.tuple #[.slice none 0 0, .iface 74 (.int .i64 z)]) ∧ Below w.heap.size w w' := by
  have hN' := hN
  have hT' := hT
  have hL' := hL
  obtain ⟨an, cn, rfl, _, _⟩ := hN'
  obtain ⟨am, cm, rfl, _, _⟩ := hT'
  obtain ⟨ao, co, rfl, _, _⟩ := hL'
  have hB : Below w.heap.size w (w.alloc (.cells #[.slice an N.length cn, .slice am T.length cm] 29)) := b_alloc (Below.refl _ _) _
  have cA := all_no (hN.on hB) (hT.on hB) zN zT lN lT (hL.on hB) zL lL h0
  unfold noG at cA
  have HB := Lib.hid hB
  clear hB hN hT hL zN zT lN lT zL h0
  go_enter Tryz.func5, Tryz.ntmps5
  go_wp2_with (first | (go_at_call 6; refine cA.mono ?_; rintro e W2 ⟨k, z, hz, rfl, hB2⟩; have HZ := Lib.hid hz; clear hz))
  go_ret2
  exact ⟨z, HZ.out, rfl, b_alloc (on1K HB.out hB2 (Nat.le_refl _)) _⟩

theorem keys_nodup {D : DataW Unit} (h : IntK D) (ht : Tidy D) : (intKeys D).Nodup := by
  obtain ⟨es, rfl, he⟩ := h
  obtain ⟨es', e, hp⟩ := ht
  injection e with e
  subst e
  unfold intKeys
  refine List.pairwise_map.2 (hp.imp_of_mem fun {p q} hp' hq' hne e => hne ?_)
  obtain ⟨a, ha⟩ := he p hp'
  obtain ⟨b, hb⟩ := he q hq'
  rw [ha, hb] at e ⊢
  exact congrArg _ e
theorem sort_lt {l : List Int} (h : l.Nodup) : (l.mergeSort fun x y => decide (x ≤ y)).Pairwise (· < ·) := by
  have h1 : (l.mergeSort fun x y => decide (x ≤ y)).Pairwise fun a b => decide (a ≤ b) = true := List.pairwise_mergeSort (fun a b c h1 h2 => by simp only [decide_eq_true_eq] at *; exact Int.le_trans h1 h2) (fun a b => by simp only [Bool.or_eq_true, decide_eq_true_eq]; exact Int.le_total a b) l
  have h2 : (l.mergeSort fun x y => decide (x ≤ y)).Nodup := (List.mergeSort_perm l _).nodup_iff.2 h
  refine (h1.and h2).imp fun {a b} ⟨p, q⟩ => ?_
  have p' : a ≤ b := of_decide_eq_true p
  have q' : a ≠ b := q
  omega

/-- Where the outer loop stands. -/
def TuO (T : List Te) (O : List Opx) (W1 : World) (i : Value) (wr : World) : Prop :=
  ∃ k n : Nat, k ≤ O.length ∧ i = .int .i64 k ∧ n ≤ k * 121 ∧ SetI wr (W1.heap.size + 1) n (touA T (O.take k)) ∧ Below W1.heap.size W1 wr
/-- Where the inner loop stands. -/
def TuI (X L : List Int) (b n : Nat) (W2 : World) (i : Value) (wr : World) : Prop :=
  ∃ m : Nat, m ≤ L.length ∧ i = .int .i64 m ∧ SetI wr b (n + m) (X ++ L.take m) ∧ W2.grownBy wr (some b)

set_option maxHeartbeats 8000000 in
set_option maxRecDepth 100000 in
theorem touched_yes {vn vt vl : Value} {N : List Nd} {T : List Te} {O : List Opx} {w : World} (hN : IsN w vn N) (hT : IsT w vt T) (zN : SzN N) (zT : SzT T) (hL : IsO w vl O) (zL : ∀ o ∈ O, OpSz o) (h0 : AllOk N T O) :
    Calls Tryz.prog 5 #[.agg #[vn, vt], vl] w fun e w' => ∃ v L', e = .returned (.tuple #[v, .nilIface]) ∧ IsI w' v L' ∧ (∀ x, x ∈ L' ↔ x ∈ touA T O) ∧ L'.length ≤ 5000 ∧ L'.Pairwise (· < ·) ∧ Below w.heap.size w w' := by
  obtain ⟨h40, hge, herr⟩ := id h0
  obtain ⟨_, ⟨l120, _, ht0⟩⟩ := (gErr_iff N T).1 hge
  have HID : Hid (∀ o ∈ O, ∀ x ∈ touB T o, in64 x) := fun o ho x hx => idOk_64 (tou_ids ht0 O (cN N) T (by rw [gErr_c]; exact hge) herr o ho x hx)
  have hN' := hN
  have hT' := hT
  have hL' := hL
  obtain ⟨an, cn, rfl, _, _⟩ := hN'
  obtain ⟨am, cm, rfl, _, _⟩ := hT'
  obtain ⟨ao, co, rfl, _, hlo⟩ := hL'
  have hB : Below w.heap.size w (w.alloc (.cells #[.slice an N.length cn, .slice am T.length cm] 29)) := b_alloc (Below.refl _ _) _
  have cA := all_yes (hN.on hB) (hT.on hB) zN zT (hL.on hB) zL h0
  have hg1 : (w.alloc (.cells #[.slice an N.length cn, .slice am T.length cm] 29)).cell? ⟨w.heap.size, 1, none⟩ = some (.slice am T.length cm) := by simp
  have HC : Hid (∀ W, Below (w.alloc (.cells #[.slice an N.length cn, .slice am T.length cm] 29)).heap.size (w.alloc (.cells #[.slice an N.length cn, .slice am T.length cm] 29)) W → W.cell? ⟨w.heap.size, 1, none⟩ = some (.slice am T.length cm) ∧ Below w.heap.size w W ∧ w.heap.size < W.heap.size) := fun W hW => ⟨(hW.cell (by simp)).trans hg1, on1 hB hW, by have := hW.size; simp at this; omega⟩
  have HO : Hid (O = [] ∨ ∃ b off, ao = some ⟨b, off, none⟩ ∧ b < w.heap.size ∧ LiesO w b off O) := hlo
  have HT := Lib.hid hT
  clear hB hN hT hL zN zT zL h0 hg1 hlo ht0 hge herr
  have hmm := @run_makeMap Tryz.prog
  go_enter Tryz.func5, Tryz.ntmps5
  go_wp2_with (first | (go_at_call 6; refine cA.mono ?_; rintro e W1 ⟨a1, l1, c1, b1, m1, d1, M, rfl, _, _, _, _, hB1⟩; obtain ⟨k1, hb1, hs1⟩ := HC.out W1 hB1; have HB1 := Lib.hid hb1; clear hB1 hb1))
  clear cA HC hmm
  go_loopw [27] (fun i wr => TuO T O W1 i wr) (fun i _ => O.length - (intOf i).toNat)
  case atStart => exact ⟨0, 0, Nat.zero_le _, rfl, Nat.zero_le _, by simpa [touA] using setI_made (W1.alloc (.cells #[.slice a1 l1 c1, .slice b1 m1 d1] 29)), b_alloc (b_alloc (Below.refl _ _) _) _⟩
  case round =>
    obtain ⟨k, n, hk, rfl, hn, hS, hB⟩ := hrel
    by_cases hlt : k < O.length
    · obtain ⟨o, ho⟩ : ∃ o, O[k]? = some o := ⟨O[k], by simp [hlt]⟩
      rcases HO.out with rfl | ⟨b, off, rfl, hb, hLo⟩
      · exact absurd hlt (by simp)
      obtain ⟨hc, hR⟩ := hLo k o ho
      have hbw : Below w.heap.size w wr := on1 HB1.out hB
      have hd : ∀ i u, o.cells[i]? = some u → wr.cell? ⟨b, off + k * 11 + i, none⟩ = some u := fun i u hu => (hbw.cell hb).trans (hc i u hu)
      have hbr : b < wr.heap.size := Nat.lt_of_lt_of_le hb hbw.size
      have hbn : ¬ b = wr.heap.size := by omega
      have y1 : wr.cell? ⟨w.heap.size, 1, none⟩ = some (.slice am T.length cm) := (hB.cell hs1).trans k1
      have hwl : w.heap.size < wr.heap.size := Nat.lt_of_lt_of_le hs1 hB.size
      have hwn : ¬ w.heap.size = wr.heap.size := by omega
      have hRr := hR.on hbw
      obtain ⟨av, lv, cv, hv⟩ := hR.sl
      have HI : Hid (∀ x ∈ touB T o, in64 x) := HID.out o (List.mem_of_getElem? ho)
      have HE : Hid (touA T (O.take (k + 1)) = touA T (O.take k) ++ touB T o) := by
        show _ = _
        rw [takeK ho]; simp [touA]
      have hlen := touB_len T o l120
      have hBA : Below wr.heap.size wr (wr.alloc (opObj o)) := b_alloc (Below.refl _ _) _
      have cT := tb_any (o := o) ((HT.out.on hbw).on hBA) l120 (hRr.on hBA)
      obtain ⟨L, hLL⟩ : ∃ L, touB T o = L := ⟨_, rfl⟩
      obtain ⟨X, hXX⟩ : ∃ X, touA T (O.take k) = X := ⟨_, rfl⟩
      rw [hLL] at HI HE hlen cT
      rw [hXX] at HE hS
      obtain ⟨wh, ⟨id, kd, rv, rc⟩, ⟨nm, pt, pn, ps⟩, ⟨bd, fr, tt⟩⟩ := o
      simp only at hv
      subst hv
      have e0 := hd 0 _ rfl
      have e1 := hd 1 _ rfl
      have e2 := hd 2 _ rfl
      have e3 := hd 3 _ rfl
      have e4 := hd 4 _ rfl
      have e5 := hd 5 _ rfl
      have e6 := hd 6 _ rfl
      have e7 := hd 7 _ rfl
      have e8 := hd 8 _ rfl
      have e9 := hd 9 _ rfl
      have e10 := hd 10 _ rfl
      simp only [Nat.add_zero] at e0
      have HS : Hid (SetI wr (W1.heap.size + 1) n X ∧ Below W1.heap.size W1 wr ∧ n ≤ k * 121) := ⟨hS, hB, hn⟩
      have hsl := hS.lt
      clear hd hc hR hRr hLo ho hbw hBA hS hB hn hLL hXX
      simp only [opObj] at cT
      go_wp2_with (first | (go_at_call 17; refine cT.mono ?_; rintro e W2 ⟨v2, rfl, hI2, hB2⟩; obtain ⟨a2, c2, hv2⟩ := hI2.sl; subst hv2; have HI2 := Lib.hid hI2; have HB2 := Lib.hid hB2; clear hI2 hB2))
      clear cT e0 e1 e2 e3 e4 e5 e6 e7 e8 e9 e10
      have HS2 : Hid (SetI W2 (W1.heap.size + 1) n X ∧ Below W1.heap.size W1 W2) := by
        obtain ⟨q1, q2, _⟩ := HS.out
        have hlt2 : W1.heap.size + 1 < (wr.alloc (.cells #[.int .i64 wh, .int .i64 id, .string kd, .slice av lv cv, .string nm, .int .i64 pt, .int .i64 pn, .string ps, .string bd, .int .i64 fr, .int .i64 tt] 47)).heap.size := by simp; omega
        exact ⟨q1.of_block ((HB2.out.block _ hlt2).trans (Below.heap_alloc _ _ _ hsl)), on1K (b_alloc q2 _) HB2.out (Nat.le_refl _)⟩
      go_loopw [36] (fun i wr => TuI X L (W1.heap.size + 1) n W2 i wr) (fun i _ => L.length - (intOf i).toNat)
      case atStart => exact ⟨0, Nat.zero_le _, rfl, by simpa using HS2.out.1, ⟨rfl, rfl, rfl, Nat.le_refl _, fun _ _ _ => rfl⟩⟩
      case round =>
        obtain ⟨m, hm, rfl, hSm, hgm⟩ := hrel
        by_cases hml : m < L.length
        · obtain ⟨x, hx⟩ : ∃ x, L[m]? = some x := ⟨L[m], by simp [hml]⟩
          have hn2 : n + m < maxLen := by
            have := HS.out.2.2
            unfold maxLen; omega
          obtain ⟨w3, hr3, hs3, hg3⟩ := setI_put hSm hn2 (HI.out x (List.mem_of_getElem? hx))
          rcases HI2.out with ⟨_, h0⟩ | ⟨bv, cap, hve, _, hbv, hcl⟩
          · rw [h0] at hml; exact absurd hml (by simp)
          obtain ⟨ha2, _, _⟩ : a2 = some ⟨bv, 0, none⟩ ∧ L.length = L.length ∧ c2 = cap := by injection hve with q1 q2 q3; exact ⟨q1, rfl, q3⟩
          subst ha2
          have z0 := hcl m x hx
          have hbne : bv ≠ W1.heap.size + 1 := fun e => by
            have := HS2.out.1.no_cell ⟨bv, m, none⟩ e
            rw [this] at z0; cases z0
          have z1 : wr.cell? ⟨bv, m, none⟩ = some (.int .i64 x) := by
            rw [← z0]; unfold World.cell?; rw [hgm.block bv hbv (fun e => hbne (Option.some.inj e))]
          have HR : Hid (TuI X L (W1.heap.size + 1) n W2 (.int .i64 ((m + 1 : Nat) : Int)) w3) := by
            refine ⟨m + 1, by omega, rfl, ?_, ⟨hg3.os.trans hgm.os, hg3.tape.trans hgm.tape, hg3.output.trans hgm.output, Nat.le_trans hgm.size hg3.size, fun j hj hne => (hg3.block j (Nat.lt_of_lt_of_le hj hgm.size) hne).trans (hgm.block j hj hne)⟩⟩
            rw [takeK hx, ← List.append_assoc, ← Nat.add_assoc]
            exact hs3
          have hm121 : m < 121 := by omega
          clear hSm hgm hs3 hg3 hx z0 hcl hn2 hve
          go_wp2
          refine ⟨?_, ?_⟩
          · first | exact HR.out | ((repeat apply Exists.intro); refine ⟨?_, rfl⟩; exact HR.out)
          · simp [intOf]
            try omega
        · have hme : L.take m = L := List.take_of_length_le (by omega)
          rw [hme] at hSm
          have HR : Hid (TuO T O W1 (.int .i64 ((k + 1 : Nat) : Int)) wr) := by
            refine ⟨k + 1, n + m, by omega, rfl, by have := HS.out.2.2; omega, by rw [HE.out]; exact hSm, HS2.out.2.grown hgm HS2.out.2.size (fun j hj => by injection hj with hj; omega)⟩
          clear hSm hgm hme
          go_wp2
          refine ⟨?_, ?_⟩
          · first | exact HR.out | ((repeat apply Exists.intro); refine ⟨?_, rfl⟩; exact HR.out)
          · simp [intOf]
            try omega
    · have hke : O.take k = O := List.take_of_length_le (by omega)
      rw [hke] at hS
      obtain ⟨D, hD, hIK, hH⟩ := hS
      have hsz := hD.size_le
      have cK := mkeys_any (some (W1.heap.size + 1)) wr
      have cS := msorted_any (W1.heap.size + 1) n D unitElem wr hD (by unfold maxLen; omega) (by omega)
      have hnd := keys_nodup hIK (hD.tidy keyedI)
      have HD : Hid (IntK D ∧ (∀ x, has D (.int .i64 x) = true ↔ x ∈ touA T O) ∧ Maps.size D ≤ 4840 ∧ Below w.heap.size w wr ∧ (intKeys D).Nodup) := ⟨hIK, hH, by omega, on1 HB1.out hB, hnd⟩
      clear hD hIK hH hsz hB hke hnd
      go_wp2_with (first | (go_at_call 19; refine cK.mono ?_; rintro e W3 ⟨rfl, rfl⟩) | (go_at_call 18; refine cS.mono ?_; rintro e W4 ⟨v4, ss, rfl, hp4, ho4, hB4⟩; have HF := Lib.hid (And.intro hp4 (And.intro ho4 hB4)); clear hp4 ho4 hB4))
      go_ret2
      obtain ⟨hp4, ho4, hB4⟩ := HF.out
      refine ⟨_, ss.mergeSort (fun x y => decide (x ≤ y)), rfl, own_isI (by simpa [cellsI, List.length_mergeSort] using ho4), fun x => ?_, ?_, sort_lt (hp4.nodup_iff.2 HD.out.2.2.2.2), on1 HD.out.2.2.2.1 hB4⟩
      · rw [List.mem_mergeSort, hp4.mem_iff, ← has_int HD.out.1]
        exact HD.out.2.1 x
      · rw [List.length_mergeSort, hp4.length_eq]
        obtain ⟨es, rfl, _⟩ := HD.out.1
        have := HD.out.2.2.1
        simp [Maps.size] at this
        simp [intKeys]
        omega
end Go.Proofs.YtffiddpnkiejkaaGreat

/-
  The walks of kinsame.Ints, Record and Node where both are the same.
-/
namespace Go.Proofs.YtffiddpnkiejkaaGreat
open Go.RowKit
set_option linter.unusedVariables false
set_option linter.unusedSimpArgs false

theorem strP : Tryz.prog.underlying 45 = some (.struct (Tryz.prog.fieldsOf 45)) := by kernel_rfl
theorem strV : Tryz.prog.underlying 43 = some (.struct (Tryz.prog.fieldsOf 43)) := by kernel_rfl
theorem hpP : Tryz.prog.stoodInHeld 45 = false := by kernel_rfl
theorem hpV : Tryz.prog.stoodInHeld 43 = false := by kernel_rfl
theorem egP45 : Tryz.prog.eqGuardType Tryz.prog.depth 45 = false := by kernel_rfl
theorem eqV_any (t n t' n' : Int) (s s' : ByteArray) (d : Nat) (w : World) : (Op.equalIn (d + 1 + 1) 43 (.agg #[.int .i64 t, .int .i64 n, .string s]) (.agg #[.int .i64 t', .int .i64 n', .string s'])).run Tryz.prog w = .ok ((t == t') && (n == n') && (s.toList == s'.toList)) w := by
  have u3 := Tryz.underlying3
  have a3 := Tryz.isAgg3
  have z3 := Tryz.sizeOf3
  have u9 := Tryz.underlying9
  have a9 := Tryz.isAgg9
  have z9 := Tryz.sizeOf9
  rw [run_equalIn_agg w (d + 1) 43 _ _ strV hpV]
  simp only [Program.fieldsOf, Tryz.underlying43]
  go_simp
  by_cases h1 : t = t' <;> by_cases h2 : n = n' <;> by_cases h3 : s.toList = s'.toList <;> simp [h1, h2, h3]
/-- Are two properties the same? -/
def Pr.eq (p q : Pr) : Bool := (p.nm.toList == q.nm.toList) && ((p.t == q.t) && (p.n == q.n) && (p.s.toList == q.s.toList))
theorem eqP_any (p q : Pr) (w : World) : (Op.equalIn 10000 45 p.one q.one).run Tryz.prog w = .ok (p.eq q) w := by
  have u9 := Tryz.underlying9
  have a9 := Tryz.isAgg9
  have z9 := Tryz.sizeOf9
  have a56 := Tryz.isAgg43
  have z56 := Tryz.sizeOf43
  have hV : ∀ w, (Op.equalIn 9999 43 (.agg #[.int .i64 p.t, .int .i64 p.n, .string p.s]) (.agg #[.int .i64 q.t, .int .i64 q.n, .string q.s])).run Tryz.prog w = .ok ((p.t == q.t) && (p.n == q.n) && (p.s.toList == q.s.toList)) w := fun w => eqV_any p.t p.n q.t q.n p.s q.s 9997 w
  rw [show (10000 : Nat) = 9999 + 1 from rfl, run_equalIn_agg w 9999 45 _ _ strP hpP]
  unfold Pr.eq
  generalize ((p.t == q.t) && (p.n == q.n) && (p.s.toList == q.s.toList)) = b at *
  simp only [Program.fieldsOf, Tryz.underlying45]
  go_simp
  by_cases h1 : p.nm.toList = q.nm.toList <;> cases b <;> simp [h1]
theorem pr_eq_self (p : Pr) : p.eq p = true := by simp [Pr.eq]
theorem neqP_any (p q : Pr) (w : World) : (binOp .neq 45 p.one q.one).run Tryz.prog w = .ok (.bool (!p.eq q)) w := by
  rw [run_neq_struct, eqP_any]; rfl
theorem egPP (op : BinOp) (x y : Operand) (p q : Pr) (w : World) : (eqGuard op 45 x y p.one q.one).run Tryz.prog w = .ok () w := run_eqGuard_agg w op 45 x y _ _ egP45

set_option maxHeartbeats 1000000 in
set_option maxRecDepth 100000 in
theorem srec_same {va vb : Value} {L : List Pr} {w : World} (ha : IsR w va L) (hb : IsR w vb L) (hl : L.length ≤ 1000) :
    Calls Tryz.prog 25 #[va, vb] w fun e w' => e = .returned (.bool true) ∧ Below w.heap.size w w' := by
  obtain ⟨ao, ca, rfl, h1⟩ := ha
  obtain ⟨bo, cb, rfl, h2⟩ := hb
  go_enter Tryz.func25, Tryz.ntmps25
  go_wp2
  go_loopw [5] (fun i wr => ∃ k q : Nat, k ≤ L.length ∧ i = .int .i64 k ∧ wr = w.drewN q) (fun i _ => L.length - (intOf i).toNat)
  case atStart => exact ⟨0, 0, Nat.zero_le _, rfl, rfl⟩
  case round =>
    obtain ⟨k, q, hk, rfl, rfl⟩ := hrel
    by_cases hlt : k < L.length
    · obtain ⟨x, hx⟩ : ∃ x, L[k]? = some x := ⟨L[k], by simp [hlt]⟩
      rcases h1 with rfl | ⟨b1, o1, rfl, hb1, l1⟩
      · exact absurd hlt (by simp)
      rcases h2 with rfl | ⟨b2, o2, rfl, hb2, l2⟩
      · exact absurd hlt (by simp)
      obtain ⟨c0, c1, c2, c3⟩ := l1 k x hx
      obtain ⟨d0, d1, d2, d3⟩ := l2 k x hx
      have hne := neqP_any x x
      rw [pr_eq_self] at hne
      have hgd := fun op a b => egPP op a b x x
      obtain ⟨nm, t, n, s⟩ := x
      simp only at c0 c1 c2 c3 d0 d1 d2 d3 hne hgd
      clear l1 l2 hx
      generalize hW : w.drewN q = W at *
      have e0 : W.cell? ⟨b1, o1 + k * 4, none⟩ = some (.string nm) := by rw [← hW]; exact c0
      have e1 : W.cell? ⟨b1, o1 + k * 4 + 1, none⟩ = some (.int .i64 t) := by rw [← hW]; exact c1
      have e2 : W.cell? ⟨b1, o1 + k * 4 + 2, none⟩ = some (.int .i64 n) := by rw [← hW]; exact c2
      have e3 : W.cell? ⟨b1, o1 + k * 4 + 3, none⟩ = some (.string s) := by rw [← hW]; exact c3
      have f0 : W.cell? ⟨b2, o2 + k * 4, none⟩ = some (.string nm) := by rw [← hW]; exact d0
      have f1 : W.cell? ⟨b2, o2 + k * 4 + 1, none⟩ = some (.int .i64 t) := by rw [← hW]; exact d1
      have f2 : W.cell? ⟨b2, o2 + k * 4 + 2, none⟩ = some (.int .i64 n) := by rw [← hW]; exact d2
      have f3 : W.cell? ⟨b2, o2 + k * 4 + 3, none⟩ = some (.string s) := by rw [← hW]; exact d3
      clear c0 c1 c2 c3 d0 d1 d2 d3
      go_wp2_with fail
      go_quiet (fail)
      go_wp2
      refine ⟨⟨k + 1, q + nq, hlt, ?_, by rw [← hW, World.drewN_drewN]⟩, ?_⟩
      · go_num
      · simp [intOf]
        omega
    · go_wp2
      go_ret
      exact ⟨rfl, b_drewK (Below.refl _ _) _⟩

set_option maxHeartbeats 1000000 in
set_option maxRecDepth 100000 in
theorem sints_same {va vb : Value} {L : List Int} {w : World} (ha : IsI w va L) (hb : IsI w vb L) (hl : L.length ≤ 1000) :
    Calls Tryz.prog 11 #[va, vb] w fun e w' => e = .returned (.bool true) ∧ Below w.heap.size w w' := by
  have fm : ∀ {v : Value}, IsI w v L → ∃ ao c, v = .slice ao L.length c ∧ (L = [] ∨ ∃ b, ao = some ⟨b, 0, none⟩ ∧ ∀ k x, L[k]? = some x → w.cell? ⟨b, k, none⟩ = some (.int .i64 x)) := by
    rintro v (⟨rfl, rfl⟩ | ⟨b, cap, rfl, _, _, h⟩)
    · exact ⟨_, _, rfl, .inl rfl⟩
    · exact ⟨_, _, rfl, .inr ⟨b, rfl, h⟩⟩
  obtain ⟨ao, ca, rfl, h1⟩ := fm ha
  obtain ⟨bo, cb, rfl, h2⟩ := fm hb
  clear fm ha hb
  go_enter Tryz.func11, Tryz.ntmps11
  go_wp2
  go_loopw [5] (fun i wr => ∃ k q : Nat, k ≤ L.length ∧ i = .int .i64 k ∧ wr = w.drewN q) (fun i _ => L.length - (intOf i).toNat)
  case atStart => exact ⟨0, 0, Nat.zero_le _, rfl, rfl⟩
  case round =>
    obtain ⟨k, q, hk, rfl, rfl⟩ := hrel
    by_cases hlt : k < L.length
    · obtain ⟨x, hx⟩ : ∃ x, L[k]? = some x := ⟨L[k], by simp [hlt]⟩
      rcases h1 with rfl | ⟨b1, rfl, l1⟩
      · exact absurd hlt (by simp)
      rcases h2 with rfl | ⟨b2, rfl, l2⟩
      · exact absurd hlt (by simp)
      have c0 := l1 k x hx
      have d0 := l2 k x hx
      clear l1 l2 hx
      generalize hW : w.drewN q = W at *
      have e0 : W.cell? ⟨b1, k, none⟩ = some (.int .i64 x) := by rw [← hW]; exact c0
      have f0 : W.cell? ⟨b2, k, none⟩ = some (.int .i64 x) := by rw [← hW]; exact d0
      clear c0 d0
      go_wp2_with fail
      go_quiet (fail)
      go_wp2
      refine ⟨⟨k + 1, q + nq, hlt, ?_, by rw [← hW, World.drewN_drewN]⟩, ?_⟩
      · go_num
      · simp [intOf]
        omega
    · go_wp2
      go_ret
      exact ⟨rfl, b_drewK (Below.refl _ _) _⟩

set_option maxHeartbeats 1000000 in
set_option maxRecDepth 100000 in
theorem snode_same {id : Int} {kd : ByteArray} {va vb : Value} {L : List Pr} {w : World} (ha : IsR w va L) (hb : IsR w vb L) (hl : L.length ≤ 1000) :
    Calls Tryz.prog 9 #[.agg #[.int .i64 id, .string kd, va], .agg #[.int .i64 id, .string kd, vb]] w fun e w' => e = .returned (.bool true) ∧ Below w.heap.size w w' := by
  have ha' := ha
  have hb' := hb
  obtain ⟨ao, ca, rfl, h1⟩ := ha'
  obtain ⟨bo, cb, rfl, h2⟩ := hb'
  clear h1 h2
  have hB : Below w.heap.size w ((w.alloc (.cells #[.int .i64 id, .string kd, .slice ao L.length ca] 34)).alloc (.cells #[.int .i64 id, .string kd, .slice bo L.length cb] 34)) := b_alloc (b_alloc (Below.refl _ _) _) _
  have cR := srec_same (ha.on hB) (hb.on hB) hl
  have HK : Hid (∀ W, Below ((w.alloc (.cells #[.int .i64 id, .string kd, .slice ao L.length ca] 34)).alloc (.cells #[.int .i64 id, .string kd, .slice bo L.length cb] 34)).heap.size ((w.alloc (.cells #[.int .i64 id, .string kd, .slice ao L.length ca] 34)).alloc (.cells #[.int .i64 id, .string kd, .slice bo L.length cb] 34)) W → Below w.heap.size w W ∧ W.cell? ⟨w.heap.size, 0, none⟩ = some (.int .i64 id) ∧ W.cell? ⟨w.heap.size, 1, none⟩ = some (.string kd) ∧ W.cell? ⟨w.heap.size + 1, 0, none⟩ = some (.int .i64 id) ∧ W.cell? ⟨w.heap.size + 1, 1, none⟩ = some (.string kd)) := fun W h => by
    refine ⟨on1 hB h, ?_, ?_, ?_, ?_⟩
    · exact (h.cell (by simp; omega)).trans (by simp)
    · exact (h.cell (by simp; omega)).trans (by simp)
    · exact (h.cell (by simp)).trans (by simp)
    · exact (h.cell (by simp)).trans (by simp)
  clear hB ha hb
  go_enter Tryz.func9, Tryz.ntmps9
  go_wp2_with (first | (go_at_call 25; refine cR.mono ?_; rintro e W1 ⟨rfl, hB1⟩; obtain ⟨k0, k1, k2, k3, k4⟩ := HK.out W1 hB1; have HB1 := Lib.hid k0; clear hB1 k0))
  go_ret
  exact ⟨rfl, HB1.out⟩
end Go.Proofs.YtffiddpnkiejkaaGreat
