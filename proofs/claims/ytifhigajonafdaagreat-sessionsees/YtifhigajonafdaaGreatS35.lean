/-
  slices.Sorted of maps.Keys of a map of integers: the library's contracts laid at this program.
-/
import Derived.Shelf.SlIterI.Nil
import Derived.Shelf.SortM.Plain
import Derived.Shelf.SortM.SortNone
import Derived.Ground.GgzProg
import Derived.Ground.SlgmProg
import Derived.Test.YtifhigajonafdaaGreatS34
import Derived.Test.YtifhigajonafdaaGreatS32
import Derived.Maps.OwnSet
import Derived.Test.YtifhigajonafdaaGreatS04
import Derived.Test.YtifhigajonafdaaGreatS07
import Derived.Test.YtifhigajonafdaaGreatS26
namespace Go.Proofs.YtifhigajonafdaaGreat
open Go.RowKit Go.Maps Go.Sort Go.Shelf
set_option linter.unusedVariables false
set_option linter.unusedSimpArgs false

shelf_lay_g SlLaysZI.n7 Ggz 7 at Tryz 37 as keysNr
shelf_lay_g SlLaysZI.n6 Ggz 6 at Tryz 18 as sortedNr
shelf_lay_g SlLaysM.n5 Slgm 5 at Tryz 32 as sortNr

theorem sortsNr (m : Nat) : AnyZI.SortsIn Tryz.prog sortedNr_ren Fence.wide m :=
  ⟨fun blk off cap ss W hH hblk hsz => callsIn_wide.2 (AnyM.slices_Sort_int sortNr blk off cap ss W hH hblk hsz),
   fun p cap W => callsIn_wide.2 (AnyM.slices_Sort_int_none sortNr p cap W)⟩

theorem mkeys_any (mb : Option Nat) (W : World) : Calls Tryz.prog 37 #[.map mb] W fun e w' => e = .returned (.func (.func 53) #[] #[.pointer (some ⟨W.heap.size, 0, none⟩)]) ∧ w' = W.alloc (.cells #[.map mb] 76) :=
  (callsIn_wide (n := 5)).1 (AnyZI.keys_in keysNr Fence.wide 5 trivial rfl mb W)

theorem msorted_any {H : Type} (b nn : Nat) (D0 : DataW H) (R : Value → Option (DataW H × List MemPlace)) (w : World) (hown : w.ownsMap Tryz.prog 3 R b nn D0) (hmax : Maps.size D0 ≤ maxLen) (hbytes : Maps.size D0 * 8 ≤ 140737488355328) :
    Calls Tryz.prog 18 #[.func (.func 53) #[] #[.pointer (some ⟨w.heap.size, 0, none⟩)]] (w.alloc (.cells #[.map (some b)] 76)) fun e w' => ∃ (v : Value) (ss : List Int), e = .returned v ∧ ss.Perm (intKeys D0) ∧
      w'.ownsRow w.heap.size 3 1 v ss.length ((ss.mergeSort (fun x y => decide (x ≤ y))).map encZ) ∧ Below w.heap.size w w' := by
  refine (callsIn_wide (n := 5)).1 ?_
  have hbl := hown.lt
  have hseq : SeqGives Fence.wide 2 Tryz.prog 53 #[.pointer (some ⟨w.heap.size, 0, none⟩)] encZ (fun ss => ss.Perm (intKeys D0)) (Maps.size D0) (w.alloc (.cells #[.map (some b)] 76)) :=
    AnyZI.keys_gives (ρ := keysNr_ren) { keysNr with } Fence.wide _ trivial rfl (by omega) w.heap.size b nn D0 _ (by simp) (by simp) (by
      obtain ⟨es, clock, hb, Ft, hs, hD⟩ := hown
      exact ⟨es, clock, (Below.heap_alloc _ _ b hbl).trans hb, Ft, hs, hD⟩)
  have cS := AnyZI.sorted_in sortedNr Fence.wide 5 trivial trivial trivial trivial rfl (by omega) (sortsNr _) (enters_of Tryz.func32 (by kernel_rfl) rfl) 53 #[.pointer (some ⟨w.heap.size, 0, none⟩)] trivial (enters_of Tryz.func53 (by kernel_rfl) rfl) _ _ hmax hbytes _ hseq
  change CallsIn _ _ Tryz.prog 18 _ _ _ at cS
  refine cS.mono ?_
  rintro e w' ⟨v, ss, rfl, hS, hrow, _, hb⟩
  exact ⟨v, ss, rfl, hS, own_base hrow (by simp), ((Below.refl _ w).alloc (Nat.le_refl _) _).trans (hb.mono (by simp))⟩
end Go.Proofs.YtifhigajonafdaaGreat

/-
  The set of ids that guard.Touched makes: a map of integers, by what it has; the ids that ops touch may be ids.
-/
namespace Go.Proofs.YtifhigajonafdaaGreat
open Go.RowKit Go.Maps
set_option linter.unusedVariables false
set_option linter.unusedSimpArgs false

def IntK (D : DataW Unit) : Prop := ∃ es, D = .map es ∧ ∀ p ∈ es, ∃ x : Int, p.1 = .int .i64 x
theorem IntK.put {D : DataW Unit} (h : IntK D) (x : Int) (d : DataW Unit) : IntK (D.put (.int .i64 x) d) := by
  obtain ⟨es, rfl, he⟩ := h
  refine ⟨DataW.insert (.int .i64 x, d) (es.filter fun p => !p.1.sameKey (.int .i64 x)), rfl, fun p hp => ?_⟩
  rcases Go.ChangeMaps.mem_insert_iff.1 hp with rfl | hp
  · exact ⟨x, rfl⟩
  · exact he p (List.mem_filter.1 hp).1
def SetI (w : World) (b n : Nat) (X : List Int) : Prop := ∃ D : DataW Unit, w.ownsMap Tryz.prog 3 unitElem b n D ∧ IntK D ∧ ∀ x, has D (.int .i64 x) = true ↔ x ∈ X
theorem setI_made (w : World) : SetI (w.alloc (.map #[] 0)) w.heap.size 0 [] := ⟨_, World.ownsMap_made w _ _ _, ⟨[], rfl, by simp⟩, fun x => by simp [has]⟩
theorem has_int {D : DataW Unit} (h : IntK D) (x : Int) : has D (.int .i64 x) = true ↔ x ∈ intKeys D := by
  obtain ⟨es, rfl, he⟩ := h
  rw [has_eq, List.any_eq_true]
  unfold intKeys
  rw [List.mem_map]
  constructor
  · rintro ⟨p, hp', hs⟩
    obtain ⟨a, ha⟩ := he p hp'
    rw [ha] at hs
    exact ⟨p, hp', by rw [ha]; simpa [Lit.sameKey, _root_.Go.intOf] using hs⟩
  · rintro ⟨p, hp', rfl⟩
    obtain ⟨a, ha⟩ := he p hp'
    exact ⟨p, hp', by rw [ha]; simp [Lit.sameKey, _root_.Go.intOf]⟩
theorem setI_put {w : World} {b n : Nat} {X : List Int} (h : SetI w b n X) (hn : n < maxLen) {x : Int} (hx : in64 x) : ∃ w', (Instr.mapUpdate 76 (.map (some b)) (.int .i64 x) (.agg #[])).run Tryz.prog w = .ok () w' ∧ SetI w' b (n + 1) (X ++ [x]) ∧ w.grownBy w' (some b) := by
  obtain ⟨D, h1, h2, h3⟩ := h
  obtain ⟨w', e, r1, r2⟩ := h1.store keyedI Tryz.underlying76 hn (Go.Maps.keyOf_int_mk Tryz.underlying3 hx) unitElem_mk
  refine ⟨w', e, ⟨_, r1, h2.put x _, fun y => ?_⟩, r2.grown⟩
  by_cases hy : y = x
  · subst hy
    rw [has_put_same (let ⟨es, e, _⟩ := h2; ⟨es, e⟩) (by trivial)]
    simp
  · rw [has_put_other (fun e => hy (by injection e)), h3 y]
    simp [hy]
theorem SetI.of_block {w w' : World} {b n : Nat} {X : List Int} (h : SetI w b n X) (hb : w'.heap[b]? = w.heap[b]?) : SetI w' b n X := by
  obtain ⟨D, ⟨es, clock, e1, e2⟩, h2⟩ := h
  exact ⟨D, ⟨es, clock, hb.trans e1, e2⟩, h2⟩
theorem SetI.lt {w : World} {b n : Nat} {X : List Int} (h : SetI w b n X) : b < w.heap.size := let ⟨_, h, _⟩ := h; h.lt
theorem SetI.no_cell {w : World} {b n : Nat} {X : List Int} (h : SetI w b n X) (a : Addr) (ha : a.block = b) : w.cell? a = none := by
  obtain ⟨D, ⟨es, clock, e1, _⟩, _⟩ := h
  subst ha
  simp [World.cell?, e1]

theorem idOk_te {t : Te} (h : teE none t = 0) : idOk t.fr = true ∧ idOk t.tt = true := by
  unfold teE at h
  split at h
  · split at h
    · rename_i h2
      simpa using h2
    · cases h
  · rename_i h1; exact absurd h h1
theorem idOk_nd {n : Nd} (h : ndE none n = 0) : idOk n.id = true := ((ndE_iff n).1 h).1
theorem tou_ids {T0 : List Te} (h0 : ∀ t ∈ T0, teE none t = 0) : ∀ (O : List Opx) (M : List Nd) (U : List Te), gErr M U = 0 → opS.err O M U = 0 → ∀ o ∈ O, ∀ x ∈ touB T0 o, idOk x = true
  | [], M, U, _, _, o, ho, x, hx => by cases ho
  | q :: O, M, U, hg, he, o, ho, x, hx => by
    have e : opE q M U = 0 := by
      by_cases e : opS.e q M U = 0
      · exact e
      · unfold OpS.err at he; rw [if_neg e] at he; exact absurd he e
    have he' : opS.err O (opM q M U) (opT q M U) = 0 := by unfold OpS.err at he; rw [if_pos (show opS.e q M U = 0 from e)] at he; exact he
    rcases List.mem_cons.1 ho with rfl | ho
    · obtain ⟨⟨_, _, hn⟩, ⟨_, hs, ht⟩⟩ := (gErr_iff M U).1 hg
      have nd : fndN o.nd.id M = true → idOk o.nd.id = true := fun hf => by
        obtain ⟨g, e2, hg2⟩ := fnd_at hf
        rw [← hg2]; exact idOk_nd (hn g (List.mem_of_getElem? e2))
      unfold touB at hx
      rcases opE_cases e with ⟨h, e1, _⟩ | ⟨h, hf, e1, _⟩ | ⟨h, hf, ⟨r, e1⟩, _⟩ | ⟨h, e1, _⟩ | ⟨h, hf, e1, _⟩
      · rw [if_neg (by omega), if_neg (by omega)] at hx
        rw [List.mem_singleton.1 hx]
        have : newE o.nd M = 0 := by unfold opE at e; rw [if_pos h] at e; exact e
        exact idOk_nd (gErr_one (newE_zero this).1)
      · rw [if_neg (by omega), if_pos h] at hx
        rcases List.mem_append.1 hx with hx | hx
        · obtain ⟨t, ht2, hh⟩ := List.mem_filterMap.1 hx
          obtain ⟨a, b⟩ := idOk_te (h0 t ht2)
          unfold oth at hh
          split at hh
          · injection hh with hh; rw [← hh]; exact b
          · split at hh
            · injection hh with hh; rw [← hh]; exact a
            · cases hh
        · rw [List.mem_singleton.1 hx]; exact nd hf
      · rw [if_neg (by omega), if_neg (by omega)] at hx
        rw [List.mem_singleton.1 hx]; exact nd hf
      · rw [if_pos (.inl h)] at hx
        have : bindE o.te U = 0 := by unfold opE at e; rw [if_neg (by omega), if_neg (by omega), if_neg (by omega), if_neg (by omega), if_pos h] at e; exact e
        obtain ⟨a, b⟩ := idOk_te (gErr_oneT (bindE_zero this).1)
        rcases List.mem_cons.1 hx with rfl | hx
        · exact a
        · rw [List.mem_singleton.1 hx]; exact b
      · rw [if_pos (.inr h)] at hx
        obtain ⟨a, b⟩ := idOk_te (ht _ ((fndT_iff hs).1 hf))
        rcases List.mem_cons.1 hx with rfl | hx
        · exact a
        · rw [List.mem_singleton.1 hx]; exact b
    · exact tou_ids h0 O _ _ (keeps_all q M U hg e) he' o ho x hx
theorem idOk_64 {x : Int} (h : idOk x = true) : in64 x := by
  unfold idOk at h
  simp at h
  unfold in64
  simp [Lit.wf, IntKind.min, IntKind.max, IntKind.signed, IntKind.bits]
  omega
theorem touB_len (T : List Te) (o : Opx) (h : T.length ≤ 120) : (touB T o).length ≤ 121 := by
  unfold touB
  have := ends_le T o.nd.id
  split
  · simp
  · split
    · simp; omega
    · simp
end Go.Proofs.YtifhigajonafdaaGreat

/-
  The walk of guard.Touched.
-/
namespace Go.Proofs.YtifhigajonafdaaGreat
open Go.RowKit Go.Maps
set_option linter.unusedVariables false
set_option linter.unusedSimpArgs false

theorem keys_nodup {D : DataW Unit} (h : IntK D) (ht : Tidy D) : (intKeys D).Nodup := by
  obtain ⟨es, rfl, he⟩ := h
  obtain ⟨es', e, hp⟩ := ht
  injection e with e
  subst e
  unfold intKeys
  refine List.pairwise_map.2 (hp.imp_of_mem fun {p q} hp' hq' hne e => hne ?_)
  obtain ⟨a, ha⟩ := he p hp'
  obtain ⟨b, hb⟩ := he q hq'
  rw [ha, hb] at e ⊢
  exact congrArg _ e
theorem sort_lt {l : List Int} (h : l.Nodup) : (l.mergeSort fun x y => decide (x ≤ y)).Pairwise (· < ·) := by
  have h1 : (l.mergeSort fun x y => decide (x ≤ y)).Pairwise fun a b => decide (a ≤ b) = true := List.pairwise_mergeSort (fun a b c h1 h2 => by simp only [decide_eq_true_eq] at *; exact Int.le_trans h1 h2) (fun a b => by simp only [Bool.or_eq_true, decide_eq_true_eq]; exact Int.le_total a b) l
  have h2 : (l.mergeSort fun x y => decide (x ≤ y)).Nodup := (List.mergeSort_perm l _).nodup_iff.2 h
  refine (h1.and h2).imp fun {a b} ⟨p, q⟩ => ?_
  have p' : a ≤ b := of_decide_eq_true p
  have q' : a ≠ b := q
  omega

def TuO (T : List Te) (O : List Opx) (W1 : World) (i : Value) (wr : World) : Prop :=
  ∃ k n : Nat, k ≤ O.length ∧ i = .int .i64 k ∧ n ≤ k * 121 ∧ SetI wr (W1.heap.size + 1) n (touA T (O.take k)) ∧ Below W1.heap.size W1 wr
def TuI (X L : List Int) (b n : Nat) (W2 : World) (i : Value) (wr : World) : Prop :=
  ∃ m : Nat, m ≤ L.length ∧ i = .int .i64 m ∧ SetI wr b (n + m) (X ++ L.take m) ∧ W2.grownBy wr (some b)

set_option maxHeartbeats 8000000 in
set_option maxRecDepth 100000 in
theorem touched_yes {vn vt vl : Value} {N : List Nd} {T : List Te} {O : List Opx} {w : World} (hN : IsN w vn N) (hT : IsT w vt T) (zN : SzN N) (zT : SzT T) (hL : IsO w vl O) (zL : ∀ o ∈ O, OpSz o) (h0 : AllOk N T O) :
    Calls Tryz.prog 23 #[.agg #[vn, vt], vl] w fun e w' => ∃ v L', e = .returned (.tuple #[v, .nilIface]) ∧ IsI w' v L' ∧ (∀ x, x ∈ L' ↔ x ∈ touA T O) ∧ L'.length ≤ 5000 ∧ L'.Pairwise (· < ·) ∧ Below w.heap.size w w' := by
  obtain ⟨h40, hge, herr⟩ := id h0
  obtain ⟨_, ⟨l120, _, ht0⟩⟩ := (gErr_iff N T).1 hge
  have HID : Hid (∀ o ∈ O, ∀ x ∈ touB T o, in64 x) := fun o ho x hx => idOk_64 (tou_ids ht0 O (cN N) T (by rw [gErr_c]; exact hge) herr o ho x hx)
  have hN' := hN
  have hT' := hT
  have hL' := hL
  obtain ⟨an, cn, rfl, _, _⟩ := hN'
  obtain ⟨am, cm, rfl, _, _⟩ := hT'
  obtain ⟨ao, co, rfl, _, hlo⟩ := hL'
  have hB : Below w.heap.size w (w.alloc (.cells #[.slice an N.length cn, .slice am T.length cm] 29)) := b_alloc (Below.refl _ _) _
  have cA := all_yes (hN.on hB) (hT.on hB) zN zT (hL.on hB) zL h0
  have hg1 : (w.alloc (.cells #[.slice an N.length cn, .slice am T.length cm] 29)).cell? ⟨w.heap.size, 1, none⟩ = some (.slice am T.length cm) := by simp
  have HC : Hid (∀ W, Below (w.alloc (.cells #[.slice an N.length cn, .slice am T.length cm] 29)).heap.size (w.alloc (.cells #[.slice an N.length cn, .slice am T.length cm] 29)) W → W.cell? ⟨w.heap.size, 1, none⟩ = some (.slice am T.length cm) ∧ Below w.heap.size w W ∧ w.heap.size < W.heap.size) := fun W hW => ⟨(hW.cell (by simp)).trans hg1, on1 hB hW, by have := hW.size; simp at this; omega⟩
  have HO : Hid (O = [] ∨ ∃ b off, ao = some ⟨b, off, none⟩ ∧ b < w.heap.size ∧ LiesO w b off O) := hlo
  have HT := Lib.hid hT
  clear hB hN hT hL zN zT zL h0 hg1 hlo ht0 hge herr
  have hmm := @run_makeMap Tryz.prog
  go_enter Tryz.func23, Tryz.ntmps23
  go_wp2_with (first | (go_at_call 34; refine cA.mono ?_; rintro e W1 ⟨a1, l1, c1, b1, m1, d1, M, rfl, _, _, _, _, hB1⟩; obtain ⟨k1, hb1, hs1⟩ := HC.out W1 hB1; have HB1 := Lib.hid hb1; clear hB1 hb1))
  clear cA HC hmm
  go_loopw [27] (fun i wr => TuO T O W1 i wr) (fun i _ => O.length - (intOf i).toNat)
  case atStart => exact ⟨0, 0, Nat.zero_le _, rfl, Nat.zero_le _, by simpa [touA] using setI_made (W1.alloc (.cells #[.slice a1 l1 c1, .slice b1 m1 d1] 29)), b_alloc (b_alloc (Below.refl _ _) _) _⟩
  case round =>
    obtain ⟨k, n, hk, rfl, hn, hS, hB⟩ := hrel
    by_cases hlt : k < O.length
    · obtain ⟨o, ho⟩ : ∃ o, O[k]? = some o := ⟨O[k], by simp [hlt]⟩
      rcases HO.out with rfl | ⟨b, off, rfl, hb, hLo⟩
      · exact absurd hlt (by simp)
      obtain ⟨hc, hR⟩ := hLo k o ho
      have hbw : Below w.heap.size w wr := on1 HB1.out hB
      have hd : ∀ i u, o.cells[i]? = some u → wr.cell? ⟨b, off + k * 11 + i, none⟩ = some u := fun i u hu => (hbw.cell hb).trans (hc i u hu)
      have hbr : b < wr.heap.size := Nat.lt_of_lt_of_le hb hbw.size
      have hbn : ¬ b = wr.heap.size := by omega
      have y1 : wr.cell? ⟨w.heap.size, 1, none⟩ = some (.slice am T.length cm) := (hB.cell hs1).trans k1
      have hwl : w.heap.size < wr.heap.size := Nat.lt_of_lt_of_le hs1 hB.size
      have hwn : ¬ w.heap.size = wr.heap.size := by omega
      have hRr := hR.on hbw
      obtain ⟨av, lv, cv, hv⟩ := hR.sl
      have HI : Hid (∀ x ∈ touB T o, in64 x) := HID.out o (List.mem_of_getElem? ho)
      have HE : Hid (touA T (O.take (k + 1)) = touA T (O.take k) ++ touB T o) := by
        show _ = _
        rw [takeK ho]; simp [touA]
      have hlen := touB_len T o l120
      have hBA : Below wr.heap.size wr (wr.alloc (opObj o)) := b_alloc (Below.refl _ _) _
      have cT := tb_any (o := o) ((HT.out.on hbw).on hBA) l120 (hRr.on hBA)
      obtain ⟨L, hLL⟩ : ∃ L, touB T o = L := ⟨_, rfl⟩
      obtain ⟨X, hXX⟩ : ∃ X, touA T (O.take k) = X := ⟨_, rfl⟩
      rw [hLL] at HI HE hlen cT
      rw [hXX] at HE hS
      obtain ⟨wh, ⟨id, kd, rv, rc⟩, ⟨nm, pt, pn, ps⟩, ⟨bd, fr, tt⟩⟩ := o
      simp only at hv
      subst hv
      have e0 := hd 0 _ rfl
      have e1 := hd 1 _ rfl
      have e2 := hd 2 _ rfl
      have e3 := hd 3 _ rfl
      have e4 := hd 4 _ rfl
      have e5 := hd 5 _ rfl
      have e6 := hd 6 _ rfl
      have e7 := hd 7 _ rfl
      have e8 := hd 8 _ rfl
      have e9 := hd 9 _ rfl
      have e10 := hd 10 _ rfl
      simp only [Nat.add_zero] at e0
      have HS : Hid (SetI wr (W1.heap.size + 1) n X ∧ Below W1.heap.size W1 wr ∧ n ≤ k * 121) := ⟨hS, hB, hn⟩
      have hsl := hS.lt
      clear hd hc hR hRr hLo ho hbw hBA hS hB hn hLL hXX
      simp only [opObj] at cT
      go_wp2_with (first | (go_at_call 36; refine cT.mono ?_; rintro e W2 ⟨v2, rfl, hI2, hB2⟩; obtain ⟨a2, c2, hv2⟩ := hI2.sl; subst hv2; have HI2 := Lib.hid hI2; have HB2 := Lib.hid hB2; clear hI2 hB2))
      clear cT e0 e1 e2 e3 e4 e5 e6 e7 e8 e9 e10
      have HS2 : Hid (SetI W2 (W1.heap.size + 1) n X ∧ Below W1.heap.size W1 W2) := by
        obtain ⟨q1, q2, _⟩ := HS.out
        have hlt2 : W1.heap.size + 1 < (wr.alloc (.cells #[.int .i64 wh, .int .i64 id, .string kd, .slice av lv cv, .string nm, .int .i64 pt, .int .i64 pn, .string ps, .string bd, .int .i64 fr, .int .i64 tt] 56)).heap.size := by simp; omega
        exact ⟨q1.of_block ((HB2.out.block _ hlt2).trans (Below.heap_alloc _ _ _ hsl)), on1K (b_alloc q2 _) HB2.out (Nat.le_refl _)⟩
      go_loopw [36] (fun i wr => TuI X L (W1.heap.size + 1) n W2 i wr) (fun i _ => L.length - (intOf i).toNat)
      case atStart => exact ⟨0, Nat.zero_le _, rfl, by simpa using HS2.out.1, ⟨rfl, rfl, rfl, Nat.le_refl _, fun _ _ _ => rfl⟩⟩
      case round =>
        obtain ⟨m, hm, rfl, hSm, hgm⟩ := hrel
        by_cases hml : m < L.length
        · obtain ⟨x, hx⟩ : ∃ x, L[m]? = some x := ⟨L[m], by simp [hml]⟩
          have hn2 : n + m < maxLen := by
            have := HS.out.2.2
            unfold maxLen; omega
          obtain ⟨w3, hr3, hs3, hg3⟩ := setI_put hSm hn2 (HI.out x (List.mem_of_getElem? hx))
          rcases HI2.out with ⟨_, h0⟩ | ⟨bv, cap, hve, _, hbv, hcl⟩
          · rw [h0] at hml; exact absurd hml (by simp)
          obtain ⟨ha2, _, _⟩ : a2 = some ⟨bv, 0, none⟩ ∧ L.length = L.length ∧ c2 = cap := by injection hve with q1 q2 q3; exact ⟨q1, rfl, q3⟩
          subst ha2
          have z0 := hcl m x hx
          have hbne : bv ≠ W1.heap.size + 1 := fun e => by
            have := HS2.out.1.no_cell ⟨bv, m, none⟩ e
            rw [this] at z0; cases z0
          have z1 : wr.cell? ⟨bv, m, none⟩ = some (.int .i64 x) := by
            rw [← z0]; unfold World.cell?; rw [hgm.block bv hbv (fun e => hbne (Option.some.inj e))]
          have HR : Hid (TuI X L (W1.heap.size + 1) n W2 (.int .i64 ((m + 1 : Nat) : Int)) w3) := by
            refine ⟨m + 1, by omega, rfl, ?_, ⟨hg3.os.trans hgm.os, hg3.tape.trans hgm.tape, hg3.output.trans hgm.output, Nat.le_trans hgm.size hg3.size, fun j hj hne => (hg3.block j (Nat.lt_of_lt_of_le hj hgm.size) hne).trans (hgm.block j hj hne)⟩⟩
            rw [takeK hx, ← List.append_assoc, ← Nat.add_assoc]
            exact hs3
          have hm121 : m < 121 := by omega
          clear hSm hgm hs3 hg3 hx z0 hcl hn2 hve
          go_wp2
          refine ⟨?_, ?_⟩
          · first | exact HR.out | ((repeat apply Exists.intro); refine ⟨?_, rfl⟩; exact HR.out)
          · simp [intOf]
            try omega
        · have hme : L.take m = L := List.take_of_length_le (by omega)
          rw [hme] at hSm
          have HR : Hid (TuO T O W1 (.int .i64 ((k + 1 : Nat) : Int)) wr) := by
            refine ⟨k + 1, n + m, by omega, rfl, by have := HS.out.2.2; omega, by rw [HE.out]; exact hSm, HS2.out.2.grown hgm HS2.out.2.size (fun j hj => by injection hj with hj; omega)⟩
          clear hSm hgm hme
          go_wp2
          refine ⟨?_, ?_⟩
          · first | exact HR.out | ((repeat apply Exists.intro); refine ⟨?_, rfl⟩; exact HR.out)
          · simp [intOf]
            try omega
    · have hke : O.take k = O := List.take_of_length_le (by omega)
      rw [hke] at hS
      obtain ⟨D, hD, hIK, hH⟩ := hS
      have hsz := hD.size_le
      have cK := mkeys_any (some (W1.heap.size + 1)) wr
      have cS := msorted_any (W1.heap.size + 1) n D unitElem wr hD (by unfold maxLen; omega) (by omega)
      have hnd := keys_nodup hIK (hD.tidy keyedI)
      have HD : Hid (IntK D ∧ (∀ x, has D (.int .i64 x) = true ↔ x ∈ touA T O) ∧ Maps.size D ≤ 4840 ∧ Below w.heap.size w wr ∧ (intKeys D).Nodup) := ⟨hIK, hH, by omega, on1 HB1.out hB, hnd⟩
      clear hD hIK hH hsz hB hke hnd
      go_wp2_with (first | (go_at_call 37; refine cK.mono ?_; rintro e W3 ⟨rfl, rfl⟩) | (go_at_call 18; refine cS.mono ?_; rintro e W4 ⟨v4, ss, rfl, hp4, ho4, hB4⟩; have HF := Lib.hid (And.intro hp4 (And.intro ho4 hB4)); clear hp4 ho4 hB4))
      go_ret2
      obtain ⟨hp4, ho4, hB4⟩ := HF.out
      refine ⟨_, ss.mergeSort (fun x y => decide (x ≤ y)), rfl, own_isI (by simpa [cellsI, List.length_mergeSort] using ho4), fun x => ?_, ?_, sort_lt (hp4.nodup_iff.2 HD.out.2.2.2.2), on1 HD.out.2.2.2.1 hB4⟩
      · rw [List.mem_mergeSort, hp4.mem_iff, ← has_int HD.out.1]
        exact HD.out.2.1 x
      · rw [List.length_mergeSort, hp4.length_eq]
        obtain ⟨es, rfl, _⟩ := HD.out.1
        have := HD.out.2.2.1
        simp [Maps.size] at this
        simp [intKeys]
        omega
end Go.Proofs.YtifhigajonafdaaGreat

/-
  The walks of Index.hasNode and Index.hasBond.
-/
namespace Go.Proofs.YtifhigajonafdaaGreat
open Go.RowKit
set_option linter.unusedVariables false
set_option linter.unusedSimpArgs false
end Go.Proofs.YtifhigajonafdaaGreat

/-
  The walk of Index.Graph.
-/
namespace Go.Proofs.YtifhigajonafdaaGreat
open Go.RowKit
set_option linter.unusedVariables false
set_option linter.unusedSimpArgs false

def IxC (w : World) (b : Nat) (vk vb vn vt : Value) (s m1 m2 m3 : Nat) : Prop := w.heap[b]? = some (.cells #[vk, vb, .map (some s), vn, vt, .map (some m1), .map (some m2), .map (some m3)] 104 (0, 0))
theorem IxC.on {w w' : World} {b : Nat} {vk vb vn vt : Value} {s m1 m2 m3 : Nat} (h : IxC w b vk vb vn vt s m1 m2 m3) (hB : Below w.heap.size w w') : IxC w' b vk vb vn vt s m1 m2 m3 := (hB.block b (Array.getElem?_eq_some_iff.1 h).1).trans h
end Go.Proofs.YtifhigajonafdaaGreat

/-
  The keys of the index's maps.
-/
namespace Go.Proofs.YtifhigajonafdaaGreat
open Go.RowKit
open Go.Maps (Keyed)
set_option linter.unusedVariables false
set_option linter.unusedSimpArgs false

abbrev KeyJ := ByteArray × ByteArray × Int × Int × ByteArray
abbrev EndJ := ByteArray × Int × Bool
def encJ (x : KeyJ) : Value := .agg #[.string x.1, .string x.2.1, .int .i64 x.2.2.1, .int .i64 x.2.2.2.1, .string x.2.2.2.2]
def encD (x : EndJ) : Value := .agg #[.string x.1, .int .i64 x.2.1, .bool x.2.2]
theorem encJ_inj : ∀ x y, encJ x = encJ y → x = y := fun x y h => by
  obtain ⟨a, b, c, d, e⟩ := x
  obtain ⟨a', b', c', d', e'⟩ := y
  simpa [encJ] using h
theorem encD_inj : ∀ x y, encD x = encD y → x = y := fun x y h => by
  obtain ⟨a, b, c⟩ := x
  obtain ⟨a', b', c'⟩ := y
  simpa [encD] using h
theorem keyedJ : Keyed Tryz.prog 203 := Keyed.of_law (deep_law_laid lay0 (m := 4) (by omega) (of_decide_eq_true (by kernel_rfl)) (by kernel_rfl) (by rw [Tryz.underlying203]))
theorem keyedD : Keyed Tryz.prog 166 := Keyed.of_law (deep_law_laid lay0 (m := 4) (by omega) (of_decide_eq_true (by kernel_rfl)) (by kernel_rfl) (by rw [Tryz.underlying166]))
theorem kt96 : Tryz.prog.keyType 203 = true := by kernel_rfl
theorem kt125 : Tryz.prog.keyType 166 = true := by kernel_rfl
theorem co96 : Tryz.prog.cellsOf 203 = 5 := by kernel_rfl
theorem co125 : Tryz.prog.cellsOf 166 = 3 := by kernel_rfl
theorem co4 : Tryz.prog.cellsOf 4 = 1 := by kernel_rfl
theorem klB (d : Nat) (b : Bool) : Tryz.prog.keyLits (d + 1) 4 [.bool b] = some [.bool b] := by
  simp only [Program.keyLits, Tryz.underlying4]
theorem kl125 (d : Nat) {s : ByteArray} {n : Int} (b : Bool) (h1 : s.size ≤ maxLen) (h2 : in64 n) : Tryz.prog.keyLits (d + 2) 166 [.string s, .int .i64 n, .bool b] = some [.string s.data.toList, .int .i64 n, .bool b] := by
  conv => lhs; unfold Program.keyLits
  rw [Tryz.underlying166]
  simp [co125, co9, co3, co4, klS _ h1, klI _ h2, klB]
theorem kl96 (d : Nat) {k f s : ByteArray} {t n : Int} (hk : k.size ≤ maxLen) (h0 : f.size ≤ maxLen) (h1 : in64 t) (h2 : in64 n) (h3 : s.size ≤ maxLen) : Tryz.prog.keyLits (d + 3) 203 [.string k, .string f, .int .i64 t, .int .i64 n, .string s] = some [.string k.data.toList, .string f.data.toList, .int .i64 t, .int .i64 n, .string s.data.toList] := by
  conv => lhs; unfold Program.keyLits
  rw [Tryz.underlying203]
  simp [co96, co48, co9, klS _ h0, klS _ hk, kl48 _ h1 h2 h3]
theorem keyD {x : EndJ} (h1 : x.1.size ≤ maxLen) (h2 : in64 x.2.1) : ∃ l, keyOf Tryz.prog 166 (encD x) = some l := by
  have hf : (encD x).formed Tryz.prog 166 = true := by simp [encD, Value.formed, Tryz.underlying166, co125]
  unfold keyOf
  rw [Tryz.underlying166, kt125, hf, tys]
  have := kl125 279 x.2.2 h1 h2
  simp only [Bool.and_self, if_true]
  rw [show (encD x).cells.toList = [.string x.1, .int .i64 x.2.1, .bool x.2.2] from rfl, show (281 : Nat) = 279 + 2 from rfl, this]
  exact ⟨_, rfl⟩
theorem keyJ {x : KeyJ} (hk : x.1.size ≤ maxLen) (h1 : x.2.1.size ≤ maxLen) (h2 : in64 x.2.2.1) (h3 : in64 x.2.2.2.1) (h4 : x.2.2.2.2.size ≤ maxLen) : ∃ l, keyOf Tryz.prog 203 (encJ x) = some l := by
  have hf : (encJ x).formed Tryz.prog 203 = true := by simp [encJ, Value.formed, Tryz.underlying203, co96]
  unfold keyOf
  rw [Tryz.underlying203, kt96, hf, tys]
  have := kl96 278 hk h1 h2 h3 h4
  simp only [Bool.and_self, if_true]
  rw [show (encJ x).cells.toList = [.string x.1, .string x.2.1, .int .i64 x.2.2.1, .int .i64 x.2.2.2.1, .string x.2.2.2.2] from rfl, show (281 : Nat) = 278 + 3 from rfl, this]
  exact ⟨_, rfl⟩
theorem zero60 (w : World) : (zeroValue 42).run Tryz.prog w = .ok (.slice none 0 0) w := by kernel_rfl
theorem zero90 (w : World) : (zeroValue 129).run Tryz.prog w = .ok (.agg #[.slice none 0 0, .slice none 0 0]) w := by kernel_rfl
end Go.Proofs.YtifhigajonafdaaGreat

/-
  The walks of Index.Kind, Key and Ends.
-/
namespace Go.Proofs.YtifhigajonafdaaGreat
open Go.RowKit
open Go.Maps (Keyed)
set_option linter.unusedVariables false
set_option linter.unusedSimpArgs false

def RowR (w : World) (o : Option Value) (h : Option (List Int)) : Prop := (o = none ∧ h = none) ∨ ∃ v L, o = some v ∧ h = some L ∧ L.length ≤ 1000000 ∧ HasC w v L.length (cellsI L)
def MapR {κ : Type} (w : World) (k : TypeId) (enc : κ → Value) (b : Nat) (H : κ → Option (List Int)) : Prop := ∃ F, OwnM w Tryz.prog k enc b F ∧ ∀ x, RowR w (F x) (H x)
theorem MapR.on {κ : Type} {w w' : World} {k : TypeId} {enc : κ → Value} {b : Nat} {H : κ → Option (List Int)} (h : MapR w k enc b H) (hB : Below w.heap.size w w') : MapR w' k enc b H := by
  obtain ⟨F, h1, h2⟩ := h
  refine ⟨F, h1.of_block (hB.block b h1.lt), fun x => ?_⟩
  rcases h2 x with h | ⟨v, L, e1, e2, e3, hh⟩
  · exact .inl h
  · exact .inr ⟨v, L, e1, e2, e3, hh.on hB⟩
theorem MapR.look {κ : Type} {w : World} {k : TypeId} {enc : κ → Value} {b : Nat} {H : κ → Option (List Int)} (h : MapR w k enc b H) (K : Keyed Tryz.prog k) (hinj : ∀ x y, enc x = enc y → x = y) {t : TypeId} (ht : Tryz.prog.underlying t = some (.map k 42)) {x : κ} {l : Lit} (hk : keyOf Tryz.prog k (enc x) = some l) :
    ∃ v, HasC w v ((H x).getD []).length (cellsI ((H x).getD [])) ∧ ((H x).getD []).length ≤ 1000000 ∧ (Instr.lookup t (.map (some b)) (enc x) false).run Tryz.prog w = .ok v w := by
  obtain ⟨F, h1, h2⟩ := h
  have hl := h1.look K hinj ht (zero60 w) hk false
  rcases h2 x with ⟨e1, e2⟩ | ⟨v, L, e1, e2, e3, hh⟩
  · rw [e1] at hl
    rw [e2]
    exact ⟨_, ⟨none, 0, rfl, .inl ⟨rfl, rfl⟩⟩, by simp, hl⟩
  · rw [e1] at hl
    rw [e2]
    exact ⟨v, hh, e3, hl⟩
theorem MapHp.look {w : World} {base b : Nat} {H : ByteArray → Option Hp} (h : MapHp w base b H) {x : ByteArray} {l : Lit} (hk : keyOf Tryz.prog 9 (encS x) = some l) :
    ∃ vk vs, (∀ p, H x = some p → OwnHp w base (.agg #[vk, vs]) p) ∧ (Instr.lookup 96 (.map (some b)) (encS x) true).run Tryz.prog w = .ok (.tuple #[.agg #[vk, vs], .bool (H x).isSome]) w ∧ (Instr.lookup 96 (.map (some b)) (encS x) false).run Tryz.prog w = .ok (.agg #[vk, vs]) w ∧ (H x = none → vk = .slice none 0 0 ∧ vs = .slice none 0 0) := by
  obtain ⟨F, h1, h2⟩ := h
  have hl := h1.look keyedS encS_inj Tryz.underlying96 (zero90 w) hk true
  have hm := h1.look keyedS encS_inj Tryz.underlying96 (zero90 w) hk false
  rcases h2 x with ⟨e1, e2⟩ | ⟨v, p, e1, e2, hh⟩
  · rw [e1] at hl hm
    rw [e2]
    exact ⟨.slice none 0 0, .slice none 0 0, fun p hp => (by cases hp), hl, hm, fun _ => ⟨rfl, rfl⟩⟩
  · rw [e1] at hl hm
    rw [e2]
    obtain ⟨vk, vs, rfl, o1, o2⟩ := hh
    exact ⟨vk, vs, fun q hq => (by cases hq; exact ⟨vk, vs, rfl, o1, o2⟩), hl, hm, fun h => (by cases h)⟩
end Go.Proofs.YtifhigajonafdaaGreat

/-
  The walks of Index.Kind, where the kind is there, and of Index.Ends.
-/
namespace Go.Proofs.YtifhigajonafdaaGreat
open Go.RowKit
open Go.Maps (Keyed)
set_option linter.unusedVariables false
set_option linter.unusedSimpArgs false

end Go.Proofs.YtifhigajonafdaaGreat

/-
  The walk of Index.Ends.
-/
namespace Go.Proofs.YtifhigajonafdaaGreat
open Go.RowKit
open Go.Maps (Keyed)
set_option linter.unusedVariables false
set_option linter.unusedSimpArgs false
end Go.Proofs.YtifhigajonafdaaGreat

/-
  The walk of Index.Key.
-/
namespace Go.Proofs.YtifhigajonafdaaGreat
open Go.RowKit
open Go.Maps (Keyed)
set_option linter.unusedVariables false
set_option linter.unusedSimpArgs false

end Go.Proofs.YtifhigajonafdaaGreat
