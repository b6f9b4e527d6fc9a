import Derived.Test.YtahamkajkkkjdaaGreatDoorM17
namespace Go.Proofs.YtahamkajkkkjdaaGreatDoor
open Go.RowKit
set_option linter.unusedVariables false
set_option linter.unusedSimpArgs false
def cellsB (L : List Bd) : List Value := L.flatMap Bd.cells
theorem cellsB_app (L M : List Bd) : cellsB (L ++ M) = cellsB L ++ cellsB M := by simp [cellsB]
theorem infoBd : (Tryz.prog.info? 54).map (fun i => (i.zero, i.size, i.bytes)) = some (some (.agg #[.string ⟨#[]⟩, .string ⟨#[]⟩, .string ⟨#[]⟩, .int .i64 0, .int .i64 0]), 5, 64) := by kernel_rfl
theorem bd_one (x : Bd) : ∀ u ∈ x.cells, u.oneCell' = true := by simp [Bd.cells, Value.oneCell']
theorem own_isB {w : World} {base : Nat} {v : Value} {M : List Bd} (h : w.ownsRow base 54 5 v M.length (cellsB M)) : IsB w v M := by
  have hc : ∀ g, v.ownBlock = some g → ∀ j u, (cellsB M)[j]? = some u → w.cell? ((⟨g, 0, none⟩ : Addr).add j) = some u := fun g hg => h.cells hg
  rcases h.2 with ⟨rfl, h0⟩ | ⟨g, cap, cur, rfl, hb, hg, hle, hcm, hcs, ht⟩
  · exact .inl ⟨rfl, List.eq_nil_of_length_eq_zero h0⟩
  · refine .inr ⟨g, 0, cap, rfl, hle, hcm, (Array.getElem?_eq_some_iff.1 hg).1, fun k p hp => ?_⟩
    have hat := flat_at Bd.cells 5 (fun _ => rfl) M k p
    have hc' := hc g rfl
    have d0 := hc' _ _ ((hat 0 hp (by decide)).trans rfl)
    have d1 := hc' _ _ ((hat 1 hp (by decide)).trans rfl)
    have d2 := hc' _ _ ((hat 2 hp (by decide)).trans rfl)
    have d3 := hc' _ _ ((hat 3 hp (by decide)).trans rfl)
    have d4 := hc' _ _ ((hat 4 hp (by decide)).trans rfl)
    rw [Addr.add_lit] at d0 d1 d2 d3 d4
    exact ⟨d0, by rw [Nat.add_assoc]; exact d1, by rw [Nat.add_assoc]; exact d2, by rw [Nat.add_assoc]; exact d3, by rw [Nat.add_assoc]; exact d4⟩
theorem kin_ok {v : Value} {L : List Kd} {w : World} (h : IsK w v L) (hP : Parts w L) (hz : SzK L) {a : Nm} (ha : nmErr L a = 0) :
    Calls Tryz.prog 193 #[v, .string (bs a)] w fun e w' => ∃ ao c, e = .returned (.tuple #[.slice ao (nms (kin L a)).length c, .nilIface]) ∧ w'.ownsRow w.heap.size 9 1 (.slice ao (nms (kin L a)).length c) (nms (kin L a)).length (cellsS (nms (kin L a))) ∧ Below w.heap.size w w' := by
  refine (kin_any h hP hz a).mono ?_
  rintro e w' ⟨u, rfl, h1, _, hB⟩
  obtain ⟨ao, c, rfl⟩ := own_sliceC (h1 ha)
  exact ⟨ao, c, by rw [ha]; rfl, h1 ha, hB⟩
theorem fields_ok {v : Value} {L : List Kd} {w : World} (h : IsK w v L) (hP : Parts w L) (hz : SzK L) {a : Nm} (ha : nmErr L a = 0) :
    Calls Tryz.prog 194 #[v, .string (bs a)] w fun e w' => ∃ ao c, e = .returned (.tuple #[.slice ao (fields L a).length c, .nilIface]) ∧ w'.ownsRow w.heap.size 56 4 (.slice ao (fields L a).length c) (fields L a).length (cellsF (fields L a)) ∧ (fields L a).length ≤ 8 ∧ Below w.heap.size w w' := by
  refine (fields_any h hP hz a).mono ?_
  rintro e w' ⟨u, rfl, h1, _, hB⟩
  obtain ⟨ao, c, rfl⟩ := own_sliceC (h1 ha).1
  exact ⟨ao, c, by rw [ha]; rfl, (h1 ha).1, (h1 ha).2.2, hB⟩
theorem row_set {w : World} {base : Nat} {e : TypeId} {size : Nat} {v : Value} {n : Nat} {xs : List Value} (h : w.ownsRow base e size v n xs) {g : Nat} (hg : g < base) (i : Nat) (u : Value) : (w.setCell ⟨g, i, none⟩ u).ownsRow base e size v n xs := by
  refine ⟨h.1, ?_⟩
  rcases h.2 with h | ⟨g', cap, cur, rfl, hb, hg', rest⟩
  · exact .inl h
  · exact .inr ⟨g', cap, cur, rfl, hb, (heap_setCell_other w ⟨g, i, none⟩ g' u (by simp; omega)).trans hg', rest⟩
theorem row_but {w w' : World} {base : Nat} {e : TypeId} {size : Nat} {v : Value} {n : Nat} {xs : List Value} {bt : Nat} (h : w.ownsRow base e size v n xs) (hg : w.grownBy w' (some bt)) (hb : bt < base) : w'.ownsRow base e size v n xs := by
  refine World.ownsRow.kept h hg ?_
  cases hu : v.ownBlock with
  | none => exact .inl rfl
  | some g =>
    right
    intro e
    have := (World.ownsRow.lt h g hu).1
    have : g = bt := by simpa using e
    omega
theorem grown_set {W w : World} {G : Nat} (h : W.grownBy w (some G)) (i : Nat) (u : Value) : W.grownBy (w.setCell ⟨G, i, none⟩ u) (some G) :=
  ⟨h.os, h.tape, h.output, Nat.le_trans h.size (by simp), fun k hk hne => (heap_setCell_other w ⟨G, i, none⟩ k u (fun e => hne (by rw [e]))).trans (h.block k hk hne)⟩
def SR (w W2 : World) (v1 v2 : Value) (p : Bd → Bool) (B : List Bd) (i : Value) (wr : World) : Prop := ∃ (k : Nat) (vb : Value), k ≤ B.length ∧ i = .int .i64 k ∧ wr.heap[w.heap.size + 1]? = some (.cells #[v1, v2, vb] 289 (0, 0)) ∧ wr.ownsRow W2.heap.size 54 5 vb ((B.take k).filter p).length (cellsB ((B.take k).filter p)) ∧ W2.grownBy wr (some (w.heap.size + 1))
section
variable {w W2 wr W4 : World} {v1 v2 vb : Value} {p : Bd → Bool} {B : List Bd} {k : Nat} {x : Bd}
theorem sr_no (hx : B[k]? = some x) (hp : p x = false) (h1 : wr.heap[w.heap.size + 1]? = some (.cells #[v1, v2, vb] 289 (0, 0))) (h2 : wr.ownsRow W2.heap.size 54 5 vb ((B.take k).filter p).length (cellsB ((B.take k).filter p))) (h3 : W2.grownBy wr (some (w.heap.size + 1))) (hB : Below wr.heap.size wr W4) : SR w W2 v1 v2 p B (.int .i64 ((k : Int) + 1)) W4 := by
  have e : (B.take (k + 1)).filter p = (B.take k).filter p := by rw [takeK hx, List.filter_append]; simp [hp]
  refine ⟨k + 1, vb, (List.getElem?_eq_some_iff.1 hx).1, by simp, (hB.block _ (Array.getElem?_eq_some_iff.1 h1).1).trans h1, by rw [e]; exact own_below h2 hB, but_below h3 hB⟩
theorem sr_yes {w1 : World} {o : Obj} {a' : Option Addr} {c' : Nat} (hx : B[k]? = some x) (hp : p x = true) (h1 : wr.heap[w.heap.size + 1]? = some (.cells #[v1, v2, vb] 289 (0, 0))) (h2 : wr.ownsRow W2.heap.size 54 5 vb ((B.take k).filter p).length (cellsB ((B.take k).filter p))) (h3 : W2.grownBy wr (some (w.heap.size + 1))) (hB : Below wr.heap.size wr W4) (hWG : w.heap.size + 1 < W2.heap.size)
    (hown : w1.ownsRow W2.heap.size 54 5 (.slice a' (((B.take k).filter p).length + 1) c') (((B.take k).filter p).length + 1) (cellsB ((B.take k).filter p) ++ x.cells)) (hg : (W4.alloc o).grownBy w1 vb.ownBlock) : SR w W2 v1 v2 p B (.int .i64 ((k : Int) + 1)) (w1.setCell ⟨w.heap.size + 1, 2, none⟩ (.slice a' (((B.take k).filter p).length + 1) c')) := by
  have e : (B.take (k + 1)).filter p = (B.take k).filter p ++ [x] := by rw [takeK hx, List.filter_append]; simp [hp]
  have hB' : Below wr.heap.size wr (W4.alloc o) := b_allocKC hB (Nat.le_refl _) _
  have hrow : ∀ g, vb.ownBlock = some g → W2.heap.size ≤ g := fun g hg' => (h2.lt g hg').1
  have hl := (Array.getElem?_eq_some_iff.1 h1).1
  have hG1 : w1.heap[w.heap.size + 1]? = some (.cells #[v1, v2, vb] 289 (0, 0)) := (hg.block _ (Nat.lt_of_lt_of_le hl hB'.size) (fun e => by have := hrow _ e.symm; omega)).trans ((hB'.block _ hl).trans h1)
  refine ⟨k + 1, _, (List.getElem?_eq_some_iff.1 hx).1, by simp, (heap_setCell_same w1 (w.heap.size + 1) 2 _ 289 _ hG1).trans rfl, ?_, grown_set (but_app (but_below h3 hB') hg hrow) _ _⟩
  rw [e, cellsB_app, List.length_append]
  have : cellsB [x] = x.cells := by simp [cellsB]
  rw [this]
  exact row_set hown hWG _ _
end
theorem newB (w : World) (x : Bd) : ∀ j u, x.cells[j]? = some u → (w.alloc (.cells #[.string (bs x.nm), .string (bs x.fr), .string (bs x.tt), .int .i64 x.mn, .int .i64 x.mx] 54)).cell? ((⟨w.heap.size, 0, none⟩ : Addr).add j) = some u := new_atC w x.cells 54
def ShPost (w : World) (h : Sh) (e : Ending) (w' : World) : Prop := ∃ v, e = .returned v ∧ IsSh w' v h ∧ h.fs.length ≤ 8 ∧ Below w.heap.size w w'
set_option maxHeartbeats 8000000 in
set_option maxRecDepth 100000 in
theorem shapeOf_any {vk vb : Value} {L : List Kd} {B : List Bd} {w : World} (hK : IsK w vk L) (hP : Parts w L) (hz : SzK L) (hb : IsB w vb B) (hB12 : B.length ≤ 12) (hL12 : L.length ≤ 12) {a : Nm} (ha : nmErr L a = 0) :
    Calls Tryz.prog 154 #[.agg #[vk, vb], .string (bs a)] w (ShPost w (shp L B a)) := by
  obtain ⟨i0, hi0, hz0, hz1, hz2⟩ := info_parts infoBd
  have HH : Hid (IsK w vk L ∧ Parts w L ∧ SzK L ∧ IsB w vb B ∧ nmErr L a = 0) := ⟨hK, hP, hz, hb, ha⟩
  obtain ⟨ak, ck, rfl, _⟩ := hK.sln
  obtain ⟨ab, cb, rfl, _⟩ := hb.sln
  have HB0 : Hid (Below w.heap.size w (box2 w #[.slice ak L.length ck, .slice ab B.length cb] 34 #[.slice none 0 0, .slice none 0 0, .slice none 0 0] 289)) := box2_below _ _ _ _ _
  have HG0 : Hid ((box2 w #[.slice ak L.length ck, .slice ab B.length cb] 34 #[.slice none 0 0, .slice none 0 0, .slice none 0 0] 289).heap[w.heap.size + 1]? = some (.cells #[.slice none 0 0, .slice none 0 0, .slice none 0 0] 289 (0, 0)) ∧ (box2 w #[.slice ak L.length ck, .slice ab B.length cb] 34 #[.slice none 0 0, .slice none 0 0, .slice none 0 0] 289).heap[w.heap.size]? = some (.cells #[.slice ak L.length ck, .slice ab B.length cb] 34 (0, 0))) := by
    refine ⟨?_, (Below.heap_alloc _ _ _ (by simp)).trans (heap_alloc_new w _)⟩
    have := heap_alloc_new (w.alloc (.cells #[.slice ak L.length ck, .slice ab B.length cb] 34)) (.cells #[.slice none 0 0, .slice none 0 0, .slice none 0 0] 289)
    rwa [World.size_alloc] at this
  have cK := kin_ok (hK.on HB0.out) (hP.on HB0.out) hz ha
  have HKn : Hid ((nms (kin L a)).length ≤ 1000) := by
    have h1 := (kinOf_sub (L.take (nmAt L a + 1))).2
    have : (nms (kin L a)).length = (kinOf (L.take (nmAt L a + 1))).length := by simp [nms, kin]
    show _ ≤ _
    rw [this]
    simp at h1
    omega
  clear hK hP hz hb ha
  go_enter Tryz.func154, Tryz.ntmps154
  go_wp2_with (go_at_call 193; refine cK.mono ?_; rintro e W1 ⟨a1, c1, rfl, hO1, hB1⟩; refine Hid.out ?_)
  refine Lib.hid ?_
  have hz0' : (box2 w #[.slice ak L.length ck, .slice ab B.length cb] 34 #[.slice none 0 0, .slice none 0 0, .slice none 0 0] 289).heap.size = w.heap.size + 2 := box2_size _ _ _ _ _
  have HW1 : Hid (W1.heap[w.heap.size + 1]? = some (.cells #[.slice none 0 0, .slice none 0 0, .slice none 0 0] 289 (0, 0)) ∧ W1.heap[w.heap.size]? = some (.cells #[.slice ak L.length ck, .slice ab B.length cb] 34 (0, 0)) ∧ Below w.heap.size w W1 ∧ w.heap.size + 2 ≤ W1.heap.size ∧ W1.ownsRow (w.heap.size + 2) 9 1 (.slice a1 (nms (kin L a)).length c1) (nms (kin L a)).length (cellsS (nms (kin L a)))) := ⟨(hB1.block _ (by rw [hz0']; omega)).trans HG0.out.1, (hB1.block _ (by rw [hz0']; omega)).trans HG0.out.2, on1KC HB0.out hB1 (Nat.le_refl _), by have := hB1.size; rw [hz0'] at this; exact this, by rw [hz0'] at hO1; exact hO1⟩
  clear cK hO1 hB1
  have x0 := cell_atC (i := 0) HW1.out.1 rfl
  have f0 := frz_atC (i := 0) HW1.out.1
  have HS1 : Hid ((W1.setCell ⟨w.heap.size + 1, 0, none⟩ (.slice a1 (nms (kin L a)).length c1)).heap[w.heap.size + 1]? = some (.cells #[(.slice a1 (nms (kin L a)).length c1), .slice none 0 0, .slice none 0 0] 289 (0, 0)) ∧ (W1.setCell ⟨w.heap.size + 1, 0, none⟩ (.slice a1 (nms (kin L a)).length c1)).heap[w.heap.size]? = some (.cells #[.slice ak L.length ck, .slice ab B.length cb] 34 (0, 0)) ∧ Below w.heap.size w (W1.setCell ⟨w.heap.size + 1, 0, none⟩ (.slice a1 (nms (kin L a)).length c1)) ∧ w.heap.size + 2 ≤ (W1.setCell ⟨w.heap.size + 1, 0, none⟩ (.slice a1 (nms (kin L a)).length c1)).heap.size ∧ (W1.setCell ⟨w.heap.size + 1, 0, none⟩ (.slice a1 (nms (kin L a)).length c1)).ownsRow (w.heap.size + 2) 9 1 (.slice a1 (nms (kin L a)).length c1) (nms (kin L a)).length (cellsS (nms (kin L a)))) := ⟨(heap_setCell_same W1 (w.heap.size + 1) 0 _ 289 _ HW1.out.1).trans rfl, (heap_setCell_other W1 _ _ _ (by simp)).trans HW1.out.2.1, HW1.out.2.2.1.setCell (by simp) _, by have := HW1.out.2.2.2.1; simpa using this, row_set HW1.out.2.2.2.2 (by omega) _ _⟩
  have y0 := cell_atC (i := 0) HS1.out.2.1 rfl
  have cF := fields_ok (HH.out.1.on HS1.out.2.2.1) (HH.out.2.1.on HS1.out.2.2.1) HH.out.2.2.1 HH.out.2.2.2.2
  go_wp2_with (go_at_call 194; refine cF.mono ?_; rintro e W2 ⟨a2, c2, rfl, hO2, hF8, hB2⟩; refine Hid.out ?_)
  refine Lib.hid ?_
  have hsz1 : w.heap.size + 2 ≤ (W1.setCell ⟨w.heap.size + 1, 0, none⟩ (.slice a1 (nms (kin L a)).length c1)).heap.size := HS1.out.2.2.2.1
  have HW2 : Hid (W2.heap[w.heap.size + 1]? = some (.cells #[(.slice a1 (nms (kin L a)).length c1), .slice none 0 0, .slice none 0 0] 289 (0, 0)) ∧ W2.heap[w.heap.size]? = some (.cells #[.slice ak L.length ck, .slice ab B.length cb] 34 (0, 0)) ∧ Below w.heap.size w W2 ∧ w.heap.size + 2 ≤ W2.heap.size ∧ W2.ownsRow (w.heap.size + 2) 9 1 (.slice a1 (nms (kin L a)).length c1) (nms (kin L a)).length (cellsS (nms (kin L a))) ∧ W2.ownsRow (w.heap.size + 2) 56 4 (.slice a2 (fields L a).length c2) (fields L a).length (cellsF (fields L a)) ∧ (fields L a).length ≤ 8) := ⟨(hB2.block _ (by omega)).trans HS1.out.1, (hB2.block _ (by omega)).trans HS1.out.2.1, on1KC HS1.out.2.2.1 hB2 (Nat.le_refl _), by have := hB2.size; omega, own_below HS1.out.2.2.2.2 hB2, own_baseC hO2 hsz1, hF8⟩
  clear cF hO2 hB2 x0 f0 y0 hF8 hsz1
  have x0 := cell_atC (i := 1) HW2.out.1 rfl
  have f0 := frz_atC (i := 1) HW2.out.1
  have HS2 : Hid ((W2.setCell ⟨w.heap.size + 1, 1, none⟩ (.slice a2 (fields L a).length c2)).heap[w.heap.size + 1]? = some (.cells #[(.slice a1 (nms (kin L a)).length c1), (.slice a2 (fields L a).length c2), .slice none 0 0] 289 (0, 0)) ∧ (W2.setCell ⟨w.heap.size + 1, 1, none⟩ (.slice a2 (fields L a).length c2)).heap[w.heap.size]? = some (.cells #[.slice ak L.length ck, .slice ab B.length cb] 34 (0, 0)) ∧ Below w.heap.size w (W2.setCell ⟨w.heap.size + 1, 1, none⟩ (.slice a2 (fields L a).length c2)) ∧ w.heap.size + 2 ≤ (W2.setCell ⟨w.heap.size + 1, 1, none⟩ (.slice a2 (fields L a).length c2)).heap.size ∧ (W2.setCell ⟨w.heap.size + 1, 1, none⟩ (.slice a2 (fields L a).length c2)).ownsRow (w.heap.size + 2) 9 1 (.slice a1 (nms (kin L a)).length c1) (nms (kin L a)).length (cellsS (nms (kin L a))) ∧ (W2.setCell ⟨w.heap.size + 1, 1, none⟩ (.slice a2 (fields L a).length c2)).ownsRow (w.heap.size + 2) 56 4 (.slice a2 (fields L a).length c2) (fields L a).length (cellsF (fields L a)) ∧ (fields L a).length ≤ 8) := ⟨(heap_setCell_same W2 (w.heap.size + 1) 1 _ 289 _ HW2.out.1).trans rfl, (heap_setCell_other W2 _ _ _ (by simp)).trans HW2.out.2.1, HW2.out.2.2.1.setCell (by simp) _, by have := HW2.out.2.2.2.1; simpa using this, row_set HW2.out.2.2.2.2.1 (by omega) _ _, row_set HW2.out.2.2.2.2.2.1 (by omega) _ _, HW2.out.2.2.2.2.2.2⟩
  have y1 := cell_atC (i := 1) HS2.out.2.1 rfl
  go_wp2
  go_loopw [26] (fun i wr => SR w (W2.setCell ⟨w.heap.size + 1, 1, none⟩ (.slice a2 (fields L a).length c2)) (.slice a1 (nms (kin L a)).length c1) (.slice a2 (fields L a).length c2) (fun x : Bd => hasN (nms (kin L a)) x.fr) B i wr) (fun i _ => B.length - (intOf i).toNat)
  case atStart => exact ⟨0, .slice none 0 0, Nat.zero_le _, rfl, HS2.out.1, World.ownsRow_nil _ _ _ _, but_of_below (Below.refl _ _) _⟩
  case round =>
    obtain ⟨k, vbn, hk, rfl, hG, hO, hg⟩ := hrel
    have HR : Hid (wr.heap[w.heap.size + 1]? = some (.cells #[(.slice a1 (nms (kin L a)).length c1), (.slice a2 (fields L a).length c2), vbn] 289 (0, 0)) ∧ wr.ownsRow (W2.setCell ⟨w.heap.size + 1, 1, none⟩ (.slice a2 (fields L a).length c2)).heap.size 54 5 vbn ((B.take k).filter (fun x : Bd => hasN (nms (kin L a)) x.fr)).length (cellsB ((B.take k).filter (fun x : Bd => hasN (nms (kin L a)) x.fr))) ∧ World.grownBy (W2.setCell ⟨w.heap.size + 1, 1, none⟩ (.slice a2 (fields L a).length c2)) wr (some (w.heap.size + 1))) := ⟨hG, hO, hg⟩
    obtain ⟨a3, c3, rfl⟩ := own_sliceC hO
    have hsz : w.heap.size + 2 ≤ wr.heap.size := Nat.le_trans HS2.out.2.2.2.1 hg.size
    have HW : Hid (Below w.heap.size w wr) := HS2.out.2.2.1.trans (below_but hg (by have := HS2.out.2.2.2.1; omega) (by omega))
    have HRows : Hid (wr.ownsRow (w.heap.size + 2) 9 1 (.slice a1 (nms (kin L a)).length c1) (nms (kin L a)).length (cellsS (nms (kin L a))) ∧ wr.ownsRow (w.heap.size + 2) 56 4 (.slice a2 (fields L a).length c2) (fields L a).length (cellsF (fields L a))) := ⟨row_but HS2.out.2.2.2.2.1 hg (by omega), row_but HS2.out.2.2.2.2.2.1 hg (by omega)⟩
    have HSh : Hid (IsSh wr (.agg #[(.slice a1 (nms (kin L a)).length c1), (.slice a2 (fields L a).length c2), .slice a3 ((B.take k).filter (fun x : Bd => hasN (nms (kin L a)) x.fr)).length c3]) ⟨nms (kin L a), fields L a, (B.take k).filter (fun x : Bd => hasN (nms (kin L a)) x.fr)⟩) := ⟨_, _, _, rfl, own_isS HRows.out.1, own_isF HRows.out.2, own_isB HR.out.2.1⟩
    clear hG hO hg
    by_cases hlt : k < B.length
    · obtain ⟨x, hx⟩ : ∃ x, B[k]? = some x := ⟨B[k], by simp [hlt]⟩
      obtain ⟨b, off, c, hv, hb, e0, e1, e2, e3, e4⟩ := HH.out.2.2.2.1.at hx
      injection hv with hv1 hv2 hv3
      subst hv1 hv3
      clear hv2
      have d0 := (HW.out.cell (p := ⟨b, off + k * 5, none⟩) hb).trans e0
      have d1 := (HW.out.cell (p := ⟨b, off + k * 5 + 1, none⟩) hb).trans e1
      have d2 := (HW.out.cell (p := ⟨b, off + k * 5 + 2, none⟩) hb).trans e2
      have d3 := (HW.out.cell (p := ⟨b, off + k * 5 + 3, none⟩) hb).trans e3
      have d4 := (HW.out.cell (p := ⟨b, off + k * 5 + 4, none⟩) hb).trans e4
      have HX : Hid (B[k]? = some x) := hx
      have hB3 : Below wr.heap.size wr (wr.alloc (.cells #[.string (bs x.nm), .string (bs x.fr), .string (bs x.tt), .int .i64 x.mn, .int .i64 x.mx] 54)) := b_allocKC (Below.refl _ _) (Nat.le_refl _) _
      have HB3 : Hid (Below wr.heap.size wr (wr.alloc (.cells #[.string (bs x.nm), .string (bs x.fr), .string (bs x.tt), .int .i64 x.mn, .int .i64 x.mx] 54))) := hB3
      have HG3 : Hid ((wr.alloc (.cells #[.string (bs x.nm), .string (bs x.fr), .string (bs x.tt), .int .i64 x.mn, .int .i64 x.mx] 54)).heap[w.heap.size + 1]? = some (.cells #[(.slice a1 (nms (kin L a)).length c1), (.slice a2 (fields L a).length c2), .slice a3 ((B.take k).filter (fun x : Bd => hasN (nms (kin L a)) x.fr)).length c3] 289 (0, 0))) := (hB3.block _ (by omega)).trans HR.out.1
      have z0 := cell_atC (i := 0) HG3.out rfl
      have z1 := cell_atC (i := 1) HG3.out rfl
      have z2 := cell_atC (i := 2) HG3.out rfl
      have zf : (wr.alloc (.cells #[.string (bs x.nm), .string (bs x.fr), .string (bs x.tt), .int .i64 x.mn, .int .i64 x.mx] 54)).cell? ⟨wr.heap.size, 1, none⟩ = some (.string (bs x.fr)) := two_new _ _ _ rfl
      have cI := is_any (HSh.out.on hB3) HKn.out x.fr
      simp only at cI
      have hlen : ((B.take k).filter (fun x : Bd => hasN (nms (kin L a)) x.fr)).length ≤ 12 := by
        have := List.length_filter_le (fun x : Bd => hasN (nms (kin L a)) x.fr) (B.take k)
        simp at this ⊢
        omega
      have HLn : Hid (((B.take k).filter (fun x : Bd => hasN (nms (kin L a)) x.fr)).length + 1 ≤ maxLen ∧ (((B.take k).filter (fun x : Bd => hasN (nms (kin L a)) x.fr)).length + 1) * 64 ≤ 140737488355328) := ⟨by unfold maxLen; omega, by omega⟩
      have hbn : ¬ b = wr.heap.size := by have := HW.out.size; omega
      clear hB3 e0 e1 e2 e3 e4 hx hlen
      cases hq : hasN (nms (kin L a)) x.fr
      · rw [hq] at cI
        have HQ : Hid ((fun x : Bd => hasN (nms (kin L a)) x.fr) x = false) := hq
        clear hq
        go_wp2_with (go_at_call 157; refine cI.mono ?_; rintro e W4 ⟨rfl, hB4⟩; refine Hid.out ?_)
        refine Lib.hid ?_
        have HN : Hid (SR w (W2.setCell ⟨w.heap.size + 1, 1, none⟩ (.slice a2 (fields L a).length c2)) (.slice a1 (nms (kin L a)).length c1) (.slice a2 (fields L a).length c2) (fun x : Bd => hasN (nms (kin L a)) x.fr) B (.int .i64 ((k : Int) + 1)) W4) := sr_no HX.out HQ.out HR.out.1 HR.out.2.1 HR.out.2.2 (on1KC HB3.out hB4 (Nat.le_refl _))
        clear cI hB4
        go_wp2
        go_roundw
        case rel => exact HN.out
        case measure => simp [intOf]; omega
      · rw [hq] at cI
        have HQ : Hid ((fun x : Bd => hasN (nms (kin L a)) x.fr) x = true) := hq
        clear hq
        go_wp2_with (go_at_call 157; refine cI.mono ?_; rintro e W4 ⟨rfl, hB4⟩; refine Hid.out ?_)
        refine Lib.hid ?_
        have HB4 : Hid (Below wr.heap.size wr W4) := on1KC HB3.out hB4 (Nat.le_refl _)
        have hs4 : wr.heap.size < W4.heap.size := by have := hB4.size; simp at this; omega
        have t0 := (hB4.cell (p := ⟨wr.heap.size, 0, none⟩) (by simp)).trans (two_new wr #[.string (bs x.nm), .string (bs x.fr), .string (bs x.tt), .int .i64 x.mn, .int .i64 x.mx] 54 (i := 0) rfl)
        have t1 := (hB4.cell (p := ⟨wr.heap.size, 1, none⟩) (by simp)).trans (two_new wr #[.string (bs x.nm), .string (bs x.fr), .string (bs x.tt), .int .i64 x.mn, .int .i64 x.mx] 54 (i := 1) rfl)
        have t2 := (hB4.cell (p := ⟨wr.heap.size, 2, none⟩) (by simp)).trans (two_new wr #[.string (bs x.nm), .string (bs x.fr), .string (bs x.tt), .int .i64 x.mn, .int .i64 x.mx] 54 (i := 2) rfl)
        have t3 := (hB4.cell (p := ⟨wr.heap.size, 3, none⟩) (by simp)).trans (two_new wr #[.string (bs x.nm), .string (bs x.fr), .string (bs x.tt), .int .i64 x.mn, .int .i64 x.mx] 54 (i := 3) rfl)
        have t4 := (hB4.cell (p := ⟨wr.heap.size, 4, none⟩) (by simp)).trans (two_new wr #[.string (bs x.nm), .string (bs x.fr), .string (bs x.tt), .int .i64 x.mn, .int .i64 x.mx] 54 (i := 4) rfl)
        have hG4 : W4.heap[w.heap.size + 1]? = some (.cells #[(.slice a1 (nms (kin L a)).length c1), (.slice a2 (fields L a).length c2), .slice a3 ((B.take k).filter (fun x : Bd => hasN (nms (kin L a)) x.fr)).length c3] 289 (0, 0)) := (HB4.out.block _ (by omega)).trans HR.out.1
        have r2 := cell_atC (i := 2) hG4 rfl
        have HG4 : Hid (∀ w1, World.grownBy (W4.alloc (.cells #[.string (bs x.nm), .string (bs x.fr), .string (bs x.tt), .int .i64 x.mn, .int .i64 x.mx] 54)) w1 (Value.slice a3 ((B.take k).filter (fun x : Bd => hasN (nms (kin L a)) x.fr)).length c3).ownBlock → w1.cell? ⟨w.heap.size + 1, 2, none⟩ = some (.slice a3 ((B.take k).filter (fun x : Bd => hasN (nms (kin L a)) x.fr)).length c3) ∧ w1.frozen? ⟨w.heap.size + 1, 2, none⟩ = false) := fun w1 hg1 => by
          have hbk : w1.heap[w.heap.size + 1]? = some (.cells #[(.slice a1 (nms (kin L a)).length c1), (.slice a2 (fields L a).length c2), .slice a3 ((B.take k).filter (fun x : Bd => hasN (nms (kin L a)) x.fr)).length c3] 289 (0, 0)) := (hg1.block _ (by simp; omega) (fun e => by have := (World.ownsRow.lt HR.out.2.1 _ e.symm).1; have := HS2.out.2.2.2.1; omega)).trans ((Below.heap_alloc _ _ _ (by omega)).trans hG4)
          exact ⟨cell_atC hbk rfl, frz_atC hbk⟩
        have HOw : Hid ((W4.alloc (.cells #[.string (bs x.nm), .string (bs x.fr), .string (bs x.tt), .int .i64 x.mn, .int .i64 x.mx] 54)).ownsRow (W2.setCell ⟨w.heap.size + 1, 1, none⟩ (.slice a2 (fields L a).length c2)).heap.size 54 5 (.slice a3 ((B.take k).filter (fun x : Bd => hasN (nms (kin L a)) x.fr)).length c3) ((B.take k).filter (fun x : Bd => hasN (nms (kin L a)) x.fr)).length (cellsB ((B.take k).filter (fun x : Bd => hasN (nms (kin L a)) x.fr))) ∧ (W2.setCell ⟨w.heap.size + 1, 1, none⟩ (.slice a2 (fields L a).length c2)).heap.size ≤ (W4.alloc (.cells #[.string (bs x.nm), .string (bs x.fr), .string (bs x.tt), .int .i64 x.mn, .int .i64 x.mx] 54)).heap.size) := ⟨(own_below HR.out.2.1 HB4.out).alloc _, by have h1 := HR.out.2.2.size; have h2 := HB4.out.size; rw [World.size_alloc]; omega⟩
        clear cI hB4 hG4
        go_wp2_with (at_builtin; refine wpList_append_own _ rfl (.tmp 35) (.tmp 37) 32 rfl (W2.setCell ⟨w.heap.size + 1, 1, none⟩ (.slice a2 (fields L a).length c2)).heap.size 54 i0 _ 5 64 Tryz.underlying32 hi0 hz0 hz1 hz2 rfl (by decide) (.slice a3 ((B.take k).filter (fun x : Bd => hasN (nms (kin L a)) x.fr)).length c3) ((B.take k).filter (fun x : Bd => hasN (nms (kin L a)) x.fr)).length (cellsB ((B.take k).filter (fun x : Bd => hasN (nms (kin L a)) x.fr))) rfl HOw.out.1 ⟨W4.heap.size, 0, none⟩ 1 1 x.cells rfl rfl (newB W4 x) (bd_one x) HLn.out.1 HLn.out.2 HOw.out.2 ?_; intro v1 w1 hown1 hgrow1 _; obtain ⟨q0, q1⟩ := HG4.out w1 hgrow1; obtain ⟨a', c', rfl⟩ := own_sliceC hown1)
        have HN : Hid (SR w (W2.setCell ⟨w.heap.size + 1, 1, none⟩ (.slice a2 (fields L a).length c2)) (.slice a1 (nms (kin L a)).length c1) (.slice a2 (fields L a).length c2) (fun x : Bd => hasN (nms (kin L a)) x.fr) B (.int .i64 ((k : Int) + 1)) (w1.setCell ⟨w.heap.size + 1, 2, none⟩ (.slice a' (((B.take k).filter (fun x : Bd => hasN (nms (kin L a)) x.fr)).length + 1) c'))) := sr_yes HX.out HQ.out HR.out.1 HR.out.2.1 HR.out.2.2 HB4.out (by have := HS2.out.2.2.2.1; omega) hown1 hgrow1
        clear hown1 hgrow1
        go_roundw
        case rel => exact HN.out
        case measure => simp [intOf]; omega
    · obtain rfl : k = B.length := by omega
      rw [List.take_length] at HR HSh
      have HP : Hid (ShPost w (shp L B a) (.returned (.agg #[(.slice a1 (nms (kin L a)).length c1), (.slice a2 (fields L a).length c2), (.slice a3 (B.filter (fun x : Bd => hasN (nms (kin L a)) x.fr)).length c3)])) (((wr.setCell ⟨w.heap.size + 1, 0, none⟩ (.slice a1 (nms (kin L a)).length c1)).setCell ⟨w.heap.size + 1, 1, none⟩ (.slice a2 (fields L a).length c2)).setCell ⟨w.heap.size + 1, 2, none⟩ (.slice a3 (B.filter (fun x : Bd => hasN (nms (kin L a)) x.fr)).length c3))) := by
        refine ⟨_, rfl, ⟨_, _, _, rfl, own_isS (row_set (row_set (row_set HRows.out.1 (by omega) _ _) (by omega) _ _) (by omega) _ _), own_isF (row_set (row_set (row_set HRows.out.2 (by omega) _ _) (by omega) _ _) (by omega) _ _), ?_⟩, HS2.out.2.2.2.2.2.2, ((HW.out.setCell (by simp) _).setCell (by simp) _).setCell (by simp) _⟩
        have h0 := HS2.out.2.2.2.1
        exact own_isB (row_set (row_set (row_set HR.out.2.1 (g := w.heap.size + 1) (by omega) 0 (.slice a1 (nms (kin L a)).length c1)) (g := w.heap.size + 1) (by omega) 1 (.slice a2 (fields L a).length c2)) (g := w.heap.size + 1) (by omega) 2 (.slice a3 (B.filter (fun x : Bd => hasN (nms (kin L a)) x.fr)).length c3))
      have h1 := heap_setCell_same wr (w.heap.size + 1) 0 _ 289 (.slice a1 (nms (kin L a)).length c1) HR.out.1
      have h2 := heap_setCell_same _ (w.heap.size + 1) 1 _ 289 (.slice a2 (fields L a).length c2) h1
      have h3 := heap_setCell_same _ (w.heap.size + 1) 2 _ 289 (.slice a3 (B.filter (fun x : Bd => hasN (nms (kin L a)) x.fr)).length c3) h2
      have HE : Hid ((wr.setCell ⟨w.heap.size + 1, 0, none⟩ (.slice a1 (nms (kin L a)).length c1)).cell? ⟨w.heap.size + 1, 0, none⟩ = some (.slice a1 (nms (kin L a)).length c1) ∧ ((wr.setCell ⟨w.heap.size + 1, 0, none⟩ (.slice a1 (nms (kin L a)).length c1)).setCell ⟨w.heap.size + 1, 1, none⟩ (.slice a2 (fields L a).length c2)).cell? ⟨w.heap.size + 1, 1, none⟩ = some (.slice a2 (fields L a).length c2) ∧ (((wr.setCell ⟨w.heap.size + 1, 0, none⟩ (.slice a1 (nms (kin L a)).length c1)).setCell ⟨w.heap.size + 1, 1, none⟩ (.slice a2 (fields L a).length c2)).setCell ⟨w.heap.size + 1, 2, none⟩ (.slice a3 (B.filter (fun x : Bd => hasN (nms (kin L a)) x.fr)).length c3)).cell? ⟨w.heap.size + 1, 2, none⟩ = some (.slice a3 (B.filter (fun x : Bd => hasN (nms (kin L a)) x.fr)).length c3)) := ⟨cell_atC h1 rfl, cell_atC h2 rfl, cell_atC h3 rfl⟩
      have z0 := cell_atC (i := 0) HR.out.1 rfl
      have z1 := cell_atC (i := 1) HR.out.1 rfl
      have z2 := cell_atC (i := 2) HR.out.1 rfl
      have k0 := frz_atC (i := 0) HR.out.1
      have k1 := frz_atC (i := 1) HR.out.1
      have k2 := frz_atC (i := 2) HR.out.1
      clear hlt h1 h2 h3
      go_wp2
      refine bodyPost_ret (v := .agg #[(.slice a1 (nms (kin L a)).length c1), (.slice a2 (fields L a).length c2), (.slice a3 (B.filter (fun x : Bd => hasN (nms (kin L a)) x.fr)).length c3)]) ?_ rfl HP.out
      obtain ⟨s0, s1, s2⟩ := HE.out
      simp [results, Tryz.results154, go_sem, s0, s1, s2]
end Go.Proofs.YtahamkajkkkjdaaGreatDoor
