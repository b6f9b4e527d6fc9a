/-
  Ops in rows; the walks of opsUnless.
-/
import Derived.Test.YtidmfdbckpficaaM25
import Derived.Deep.RegionLaw
namespace Go.Proofs.Ytidmfdbckpficaa
open Go.RowKit
set_option linter.unusedVariables false
set_option linter.unusedSimpArgs false

def cellsO (L : List Opx) : List Value := L.flatMap Opx.cells
theorem cellsO_snoc (L : List Opx) (o : Opx) : cellsO (L ++ [o]) = cellsO L ++ o.cells := by simp [cellsO]
theorem infoO : (Try.prog.info? 42).map (fun i => (i.zero, i.size, i.bytes)) = some (some (.agg #[.int .i64 0, .int .i64 0, .string ⟨#[]⟩, .slice none 0 0, .string ⟨#[]⟩, .int .i64 0, .int .i64 0, .string ⟨#[]⟩, .string ⟨#[]⟩, .int .i64 0, .int .i64 0]), 11, 136) := by kernel_rfl
/-- Ops of the call's own, their records, too. -/
def OwnOs (w : World) (base : Nat) (v : Value) (L : List Opx) : Prop := w.ownsRow base 42 11 v L.length (cellsO L) ∧ ∀ o ∈ L, OwnRc w base o.nd.rv o.nd.rc
theorem OwnOs.kt {w w' : World} {base : Nat} {v : Value} {L : List Opx} (h : OwnOs w base v L) (hk : Kt 42 w w') (hr : Kt 38 w w') : OwnOs w' base v L := ⟨own_kt h.1 hk, fun o ho => (h.2 o ho).kt hr⟩
theorem OwnOs.on {w w' : World} {base : Nat} {v : Value} {L : List Opx} (h : OwnOs w base v L) (hB : Below w.heap.size w w') : OwnOs w' base v L := h.kt (.of_below hB) (.of_below hB)
theorem OwnOs.nil (w : World) (base : Nat) : OwnOs w base (.slice none 0 0) [] := ⟨World.ownsRow_nil _ _ _ _, fun o ho => by cases ho⟩
theorem OwnOs.base {w : World} {base base' : Nat} {v : Value} {L : List Opx} (h : OwnOs w base v L) (hb : base' ≤ base) : OwnOs w base' v L := ⟨own_base h.1 hb, fun o ho => own_base (h.2 o ho) hb⟩
theorem OwnOs.isO {w : World} {base : Nat} {v : Value} {L : List Opx} (h : OwnOs w base v L) : IsO w v L := by
  have hc : ∀ g, v.ownBlock = some g → ∀ j u, (cellsO L)[j]? = some u → w.cell? ((⟨g, 0, none⟩ : Addr).add j) = some u := fun g hg => World.ownsRow.cells h.1 hg
  rcases h.1.2 with ⟨rfl, h0⟩ | ⟨g, cap, cur, rfl, hb, hg, hle, rest⟩
  · exact ⟨none, 0, by rw [h0], by omega, .inl (List.eq_nil_of_length_eq_zero h0)⟩
  · refine ⟨_, cap, rfl, hle, .inr ⟨g, 0, rfl, (Array.getElem?_eq_some_iff.1 hg).1, fun k p hp => ⟨fun i u hu => ?_, (h.2 p (List.mem_of_getElem? hp)).isR⟩⟩⟩
    have hi : i < 11 := by have := (List.getElem?_eq_some_iff.1 hu).1; rwa [op_len] at this
    have := hc g rfl (k * 11 + i) u ((flatK op_len L k p i hp hi).trans hu)
    rwa [Addr.add_lit, ← Nat.add_assoc] at this
theorem op_one {o : Opx} (h : ∃ a l c, o.nd.rv = .slice a l c) : ∀ u ∈ o.cells, u.oneCell' = true := by
  obtain ⟨a, l, c, e⟩ := h
  intro u hu
  simp [Opx.cells, e] at hu
  rcases hu with rfl | rfl | rfl | rfl | rfl | rfl | rfl | rfl | rfl | rfl | rfl <;> rfl
/-- One more op is appended. -/
theorem ou_step {wr W3 w5 : World} {base base' : Nat} {v v' : Value} {L : List Opx} {o : Opx} (hO : OwnOs wr base v L) (hB : Below wr.heap.size wr W3) (ho : OwnRc W3 base' o.nd.rv o.nd.rc) (hb : base ≤ base')
    (hown : w5.ownsRow base 42 11 v' (L.length + 1) (cellsO L ++ o.cells)) (hg : World.grownBy (W3.alloc (.cells o.cells.toArray 42)) w5 v.ownBlock) : OwnOs w5 base v' (L ++ [o]) := by
  have hB4 : Below W3.heap.size W3 (W3.alloc (.cells o.cells.toArray 42)) := b_alloc (Below.refl _ _) _
  have o4 := own_kt hO.1 (Kt.of_below (on1K hB hB4 (Nat.le_refl _)))
  have k5 : Kt 38 (W3.alloc (.cells o.cells.toArray 42)) w5 := Kt.of_own o4 (by decide) hg
  refine ⟨by rw [cellsO_snoc, List.length_append]; exact hown, fun x hx => ?_⟩
  rcases List.mem_append.1 hx with hx | hx
  · exact ((hO.2 x hx).kt (.of_below (on1K hB hB4 (Nat.le_refl _)))).kt k5
  · rw [List.mem_singleton.1 hx]
    exact (OwnRc.kt (own_base ho hb) (.of_below hB4)).kt k5
/-- What opsUnless gives. -/
def OuPost (w : World) (M : List Opx) (e : Ending) (w' : World) : Prop := ∃ ao c L, e = .returned (.slice ao L.length c) ∧ OwnOs w' w.heap.size (.slice ao L.length c) L ∧ L.map Opx.c = M ∧ Below w.heap.size w w'
/-- Between two rounds. -/
def OuI {α : Type} (w : World) (T : List α) (g : α → Bool) (op : α → Opx) (v i : Value) (wr : World) : Prop := ∃ (k : Nat) (L : List Opx), k ≤ T.length ∧ i = .int .i64 k ∧ L.length ≤ k ∧ OwnOs wr w.heap.size v L ∧ L.map Opx.c = ((T.take k).filter fun x => !g x).map (fun x => (op x).c) ∧ Below w.heap.size w wr
theorem filt_yes {α : Type} {T : List α} {g : α → Bool} {op : α → Opx} {k : Nat} {x : α} {L : List Opx} (hx : T[k]? = some x) (hg : g x = true) (h : L.map Opx.c = ((T.take k).filter fun x => !g x).map (fun x => (op x).c)) : L.map Opx.c = ((T.take (k + 1)).filter fun x => !g x).map (fun x => (op x).c) := by
  rw [List.take_add_one, hx, h]
  simp [List.filter_append, hg]
theorem filt_no {α : Type} {T : List α} {g : α → Bool} {op : α → Opx} {k : Nat} {x : α} {L : List Opx} {o : Opx} (hx : T[k]? = some x) (hg : g x = false) (ho : o.c = (op x).c) (h : L.map Opx.c = ((T.take k).filter fun x => !g x).map (fun x => (op x).c)) : (L ++ [o]).map Opx.c = ((T.take (k + 1)).filter fun x => !g x).map (fun x => (op x).c) := by
  rw [List.take_add_one, hx, List.map_append, h]
  simp [List.filter_append, hg, ho]

set_option maxHeartbeats 8000000 in
set_option maxRecDepth 100000 in
theorem unless53 {st : Value} {vt : Value} {T : List Te} {w : World} (g : Te → Bool) (op : Te → Opx) (hT : IsT w vt T) (hl : T.length ≤ 1000)
    (hh : ∀ W, Below w.heap.size w W → ∀ x ∈ T, Calls Try.prog 28 #[st, x.one] W fun e w' => e = .returned (.bool (g x)) ∧ Below W.heap.size W w')
    (ho : ∀ W, Below w.heap.size w W → ∀ x ∈ T, Calls Try.prog 31 #[x.one] W (MkPost W (op x))) :
    Calls Try.prog 30 #[vt, .func (.func 28) #[st] #[], .func (.func 31) #[] #[]] w (OuPost w ((T.filter fun x => !g x).map fun x => (op x).c)) := by
  obtain ⟨i0, hi0, hz0, hz1, hz2⟩ := info_parts infoO
  have HH : Hid (IsT w vt T ∧ (∀ W, Below w.heap.size w W → ∀ x ∈ T, Calls Try.prog 28 #[st, x.one] W fun e w' => e = .returned (.bool (g x)) ∧ Below W.heap.size W w') ∧ (∀ W, Below w.heap.size w W → ∀ x ∈ T, Calls Try.prog 31 #[x.one] W (MkPost W (op x)))) := ⟨hT, hh, ho⟩
  obtain ⟨an, cn, hvn⟩ : ∃ an cn, vt = .slice an T.length cn := by
    obtain ⟨a, c, h, _⟩ := hT
    exact ⟨a, c, h⟩
  subst hvn
  clear hh ho hT
  go_enter Try.func30, Try.ntmps30
  go_wp2
  go_loopw [7, 12] (fun v i wr => OuI w T g op v i wr) (fun _ i _ => T.length - (intOf i).toNat)
  case atStart => exact ⟨0, [], Nat.zero_le _, rfl, Nat.le_refl _, OwnOs.nil _ _, rfl, Below.refl _ _⟩
  case round =>
    obtain ⟨k, L, hk, rfl, hLk, hO, hm, hB⟩ := hrel
    have HO : Hid (OwnOs wr w.heap.size u7 L ∧ L.map Opx.c = ((T.take k).filter fun x => !g x).map (fun x => (op x).c)) := ⟨hO, hm⟩
    have HB := Lib.hid hB
    by_cases hlt : k < T.length
    · obtain ⟨⟨bd, fr, tt⟩, hx⟩ : ∃ x, T[k]? = some x := ⟨T[k], by simp [hlt]⟩
      have hxm := List.mem_of_getElem? hx
      obtain ⟨b, off, c, hv, hb, e0, e1, e2⟩ := IsT.at HH.out.1 hx
      injection hv with hv1 hv2 hv3
      subst hv1
      clear hv2 hv3
      simp only at e0 e1 e2
      have d0 := (hB.cell (p := ⟨b, off + k * 3, none⟩) hb).trans e0
      have d1 := (hB.cell (p := ⟨b, off + k * 3 + 1, none⟩) hb).trans e1
      have d2 := (hB.cell (p := ⟨b, off + k * 3 + 2, none⟩) hb).trans e2
      have hbn : ¬ b = wr.heap.size := by have := hB.size; omega
      have hB1 : Below wr.heap.size wr (wr.alloc (.cells #[.string bd, .int .i64 fr, .int .i64 tt] 40)) := b_alloc (Below.refl _ _) _
      have hBw1 := on1K hB hB1 (Nat.le_refl _)
      have hs := HH.out.2.1 _ hBw1 ⟨bd, fr, tt⟩ hxm
      have HS : Hid (Below w.heap.size w (wr.alloc (.cells #[.string bd, .int .i64 fr, .int .i64 tt] 40)) ∧ Below wr.heap.size wr (wr.alloc (.cells #[.string bd, .int .i64 fr, .int .i64 tt] 40))) := ⟨hBw1, hB1⟩
      cases hgx : g ⟨bd, fr, tt⟩ with
      | true =>
        have HN : Hid (∀ W2, Below (wr.alloc (.cells #[.string bd, .int .i64 fr, .int .i64 tt] 40)).heap.size (wr.alloc (.cells #[.string bd, .int .i64 fr, .int .i64 tt] 40)) W2 → OuI w T g op u7 (.int .i64 ((k : Int) + 1)) W2) := fun W2 hB2 => ⟨k + 1, L, hlt, by simp, by omega, HO.out.1.on (on1K hB1 hB2 (Nat.le_refl _)), filt_yes hx hgx HO.out.2, on1K hBw1 hB2 (Nat.le_refl _)⟩
        rw [hgx] at hs
        clear hgx hx hxm hO hm hB hB1 hBw1 e0 e1 e2
        go_wp2_with (first | (go_at_call 28; refine hs.mono ?_; rintro e W2 ⟨rfl, hB2⟩; have HN2 := Lib.hid (HN.out W2 hB2)))
        go_roundw
        case rel => exact HN2.out
        case measure => simp [intOf]; omega
      | false =>
        have HN : Hid (∀ (W3 w5 : World) (o : Opx) (v' : Value) (base' : Nat), OwnRc W3 base' o.nd.rv o.nd.rc → w.heap.size ≤ base' → Below wr.heap.size wr W3 → o.c = (op ⟨bd, fr, tt⟩).c → w5.ownsRow w.heap.size 42 11 v' (L.length + 1) (cellsO L ++ o.cells) → World.grownBy (W3.alloc (.cells o.cells.toArray 42)) w5 u7.ownBlock → OuI w T g op v' (.int .i64 ((k : Int) + 1)) w5) := fun W3 w5 o v' base' hr hb' hB3 hoc hown hgr => by
          refine ⟨k + 1, L ++ [o], hlt, by simp, by simp; omega, ou_step HO.out.1 hB3 hr hb' hown hgr, filt_no hx hgx hoc HO.out.2, ?_⟩
          have hb3 := on1K hB hB3 (Nat.le_refl _)
          exact below_grown (b_alloc hb3 _) hgr (by have := hb3.size; simp; omega) (fun q hq => (HO.out.1.1.lt q hq).1)
        have HC : Hid (∀ W2, Below (wr.alloc (.cells #[.string bd, .int .i64 fr, .int .i64 tt] 40)).heap.size (wr.alloc (.cells #[.string bd, .int .i64 fr, .int .i64 tt] 40)) W2 → W2.cell? ⟨wr.heap.size, 0, none⟩ = some (.string bd) ∧ W2.cell? ⟨wr.heap.size, 1, none⟩ = some (.int .i64 fr) ∧ W2.cell? ⟨wr.heap.size, 2, none⟩ = some (.int .i64 tt)) := fun W2 hB2 => by
          have n1 := (hB2.block wr.heap.size (by simp)).trans (heap_alloc_new wr (.cells #[.string bd, .int .i64 fr, .int .i64 tt] 40))
          exact ⟨cell_at n1 rfl, cell_at n1 rfl, cell_at n1 rfl⟩
        have HP : Hid (∀ W2, Below (wr.alloc (.cells #[.string bd, .int .i64 fr, .int .i64 tt] 40)).heap.size (wr.alloc (.cells #[.string bd, .int .i64 fr, .int .i64 tt] 40)) W2 → Calls Try.prog 31 #[(⟨bd, fr, tt⟩ : Te).one] W2 (MkPost W2 (op ⟨bd, fr, tt⟩))) := fun W2 h => HH.out.2.2 W2 (on1K hBw1 h (Nat.le_refl _)) _ hxm
        have HA : Hid (∀ (W3 : World) (o : Opx), Below wr.heap.size wr W3 → (W3.alloc (.cells o.cells.toArray 42)).ownsRow w.heap.size 42 11 u7 L.length (cellsO L) ∧ (∀ j u, o.cells[j]? = some u → (W3.alloc (.cells o.cells.toArray 42)).cell? ((⟨W3.heap.size, 0, none⟩ : Addr).add j) = some u) ∧ w.heap.size ≤ (W3.alloc (.cells o.cells.toArray 42)).heap.size) := fun W3 o hB3 => ⟨World.ownsRow.alloc (own_kt HO.out.1.1 (.of_below hB3)) _, new_at W3 o.cells 42, by have := (on1K hB hB3 (Nat.le_refl _)).size; simp; omega⟩
        have HM : Hid (L.length + 1 ≤ maxLen ∧ (L.length + 1) * 136 ≤ 140737488355328) := ⟨by unfold maxLen; omega, by omega⟩
        rw [hgx] at hs
        clear hgx hx hxm hO hm hB hB1 hBw1 e0 e1 e2
        go_wp2_with (first | (go_at_call 28; refine hs.mono ?_; rintro e W2 ⟨rfl, hB2⟩; obtain ⟨z0, z1, z2⟩ := HC.out W2 hB2) | (go_at_call 31; refine (HP.out W2 hB2).mono ?_; rintro e W3 ⟨⟨wh, ⟨oid, okd, orv, orc⟩, ⟨onm, opt, opn, ops⟩, ⟨obd, ofr, ott⟩⟩, rfl, hoc, hor, hB3⟩; obtain ⟨av, lv, cv, hov⟩ := hor.sl; simp only at hov; subst hov; have hB13 := on1K HS.out.2 (on1K hB2 hB3 (Nat.le_refl _)) (Nat.le_refl _)) | (at_builtin; obtain ⟨p1, p2, p3⟩ := HA.out W3 ⟨wh, ⟨oid, okd, .slice av lv cv, orc⟩, ⟨onm, opt, opn, ops⟩, ⟨obd, ofr, ott⟩⟩ hB13; refine wpList_append_own _ rfl (.tmp 20) (.tmp 24) 26 rfl w.heap.size 42 i0 _ 11 136 Try.underlying26 hi0 hz0 hz1 hz2 rfl (by decide) u7 L.length (cellsO L) rfl p1 ⟨W3.heap.size, 0, none⟩ 1 1 [.int .i64 wh, .int .i64 oid, .string okd, .slice av lv cv, .string onm, .int .i64 opt, .int .i64 opn, .string ops, .string obd, .int .i64 ofr, .int .i64 ott] rfl rfl p2 (op_one (o := ⟨wh, ⟨oid, okd, .slice av lv cv, orc⟩, ⟨onm, opt, opn, ops⟩, ⟨obd, ofr, ott⟩⟩) ⟨_, _, _, rfl⟩) HM.out.1 HM.out.2 p3 ?_; intro v5 w5 hown5 hgrow5 _; have HN5 := Lib.hid (HN.out W3 w5 _ v5 W2.heap.size hor (Nat.le_trans HS.out.1.size hB2.size) hB13 hoc hown5 hgrow5); clear hown5 hgrow5))
        refine ⟨?_, ?_⟩
        · first | exact HN5.out | ((repeat apply Exists.intro); refine ⟨?_, rfl⟩; exact HN5.out)
        · simp [intOf]
          try omega
    · obtain rfl : k = T.length := by omega
      rw [List.take_length] at HO
      obtain ⟨ao, cp, rfl⟩ := own_slice hO.1
      clear hO hm hlt
      go_wp2
      go_ret
      exact ⟨ao, cp, L, rfl, HO.out.1, HO.out.2, HB.out⟩

set_option maxHeartbeats 8000000 in
set_option maxRecDepth 100000 in
theorem unless52 {pp rr : Value} {vt : Value} {T : List Te} {w : World} (g : Te → Bool) (op : Te → Opx) (hT : IsT w vt T) (hl : T.length ≤ 1000)
    (hh : ∀ W, Below w.heap.size w W → ∀ x ∈ T, Calls Try.prog 27 #[x.one, pp, rr] W fun e w' => e = .returned (.bool (g x)) ∧ Below W.heap.size W w')
    (ho : ∀ W, Below w.heap.size w W → ∀ x ∈ T, Calls Try.prog 36 #[x.one] W (MkPost W (op x))) :
    Calls Try.prog 30 #[vt, .func (.func 27) #[] #[pp, rr], .func (.func 36) #[] #[]] w (OuPost w ((T.filter fun x => !g x).map fun x => (op x).c)) := by
  obtain ⟨i0, hi0, hz0, hz1, hz2⟩ := info_parts infoO
  have HH : Hid (IsT w vt T ∧ (∀ W, Below w.heap.size w W → ∀ x ∈ T, Calls Try.prog 27 #[x.one, pp, rr] W fun e w' => e = .returned (.bool (g x)) ∧ Below W.heap.size W w') ∧ (∀ W, Below w.heap.size w W → ∀ x ∈ T, Calls Try.prog 36 #[x.one] W (MkPost W (op x)))) := ⟨hT, hh, ho⟩
  obtain ⟨an, cn, hvn⟩ : ∃ an cn, vt = .slice an T.length cn := by
    obtain ⟨a, c, h, _⟩ := hT
    exact ⟨a, c, h⟩
  subst hvn
  clear hh ho hT
  go_enter Try.func30, Try.ntmps30
  go_wp2
  go_loopw [7, 12] (fun v i wr => OuI w T g op v i wr) (fun _ i _ => T.length - (intOf i).toNat)
  case atStart => exact ⟨0, [], Nat.zero_le _, rfl, Nat.le_refl _, OwnOs.nil _ _, rfl, Below.refl _ _⟩
  case round =>
    obtain ⟨k, L, hk, rfl, hLk, hO, hm, hB⟩ := hrel
    have HO : Hid (OwnOs wr w.heap.size u7 L ∧ L.map Opx.c = ((T.take k).filter fun x => !g x).map (fun x => (op x).c)) := ⟨hO, hm⟩
    have HB := Lib.hid hB
    by_cases hlt : k < T.length
    · obtain ⟨⟨bd, fr, tt⟩, hx⟩ : ∃ x, T[k]? = some x := ⟨T[k], by simp [hlt]⟩
      have hxm := List.mem_of_getElem? hx
      obtain ⟨b, off, c, hv, hb, e0, e1, e2⟩ := IsT.at HH.out.1 hx
      injection hv with hv1 hv2 hv3
      subst hv1
      clear hv2 hv3
      simp only at e0 e1 e2
      have d0 := (hB.cell (p := ⟨b, off + k * 3, none⟩) hb).trans e0
      have d1 := (hB.cell (p := ⟨b, off + k * 3 + 1, none⟩) hb).trans e1
      have d2 := (hB.cell (p := ⟨b, off + k * 3 + 2, none⟩) hb).trans e2
      have hbn : ¬ b = wr.heap.size := by have := hB.size; omega
      have hB1 : Below wr.heap.size wr (wr.alloc (.cells #[.string bd, .int .i64 fr, .int .i64 tt] 40)) := b_alloc (Below.refl _ _) _
      have hBw1 := on1K hB hB1 (Nat.le_refl _)
      have hs := HH.out.2.1 _ hBw1 ⟨bd, fr, tt⟩ hxm
      have HS : Hid (Below w.heap.size w (wr.alloc (.cells #[.string bd, .int .i64 fr, .int .i64 tt] 40)) ∧ Below wr.heap.size wr (wr.alloc (.cells #[.string bd, .int .i64 fr, .int .i64 tt] 40))) := ⟨hBw1, hB1⟩
      cases hgx : g ⟨bd, fr, tt⟩ with
      | true =>
        have HN : Hid (∀ W2, Below (wr.alloc (.cells #[.string bd, .int .i64 fr, .int .i64 tt] 40)).heap.size (wr.alloc (.cells #[.string bd, .int .i64 fr, .int .i64 tt] 40)) W2 → OuI w T g op u7 (.int .i64 ((k : Int) + 1)) W2) := fun W2 hB2 => ⟨k + 1, L, hlt, by simp, by omega, HO.out.1.on (on1K hB1 hB2 (Nat.le_refl _)), filt_yes hx hgx HO.out.2, on1K hBw1 hB2 (Nat.le_refl _)⟩
        rw [hgx] at hs
        clear hgx hx hxm hO hm hB hB1 hBw1 e0 e1 e2
        go_wp2_with (first | (go_at_call 27; refine hs.mono ?_; rintro e W2 ⟨rfl, hB2⟩; have HN2 := Lib.hid (HN.out W2 hB2)))
        go_roundw
        case rel => exact HN2.out
        case measure => simp [intOf]; omega
      | false =>
        have HN : Hid (∀ (W3 w5 : World) (o : Opx) (v' : Value) (base' : Nat), OwnRc W3 base' o.nd.rv o.nd.rc → w.heap.size ≤ base' → Below wr.heap.size wr W3 → o.c = (op ⟨bd, fr, tt⟩).c → w5.ownsRow w.heap.size 42 11 v' (L.length + 1) (cellsO L ++ o.cells) → World.grownBy (W3.alloc (.cells o.cells.toArray 42)) w5 u7.ownBlock → OuI w T g op v' (.int .i64 ((k : Int) + 1)) w5) := fun W3 w5 o v' base' hr hb' hB3 hoc hown hgr => by
          refine ⟨k + 1, L ++ [o], hlt, by simp, by simp; omega, ou_step HO.out.1 hB3 hr hb' hown hgr, filt_no hx hgx hoc HO.out.2, ?_⟩
          have hb3 := on1K hB hB3 (Nat.le_refl _)
          exact below_grown (b_alloc hb3 _) hgr (by have := hb3.size; simp; omega) (fun q hq => (HO.out.1.1.lt q hq).1)
        have HC : Hid (∀ W2, Below (wr.alloc (.cells #[.string bd, .int .i64 fr, .int .i64 tt] 40)).heap.size (wr.alloc (.cells #[.string bd, .int .i64 fr, .int .i64 tt] 40)) W2 → W2.cell? ⟨wr.heap.size, 0, none⟩ = some (.string bd) ∧ W2.cell? ⟨wr.heap.size, 1, none⟩ = some (.int .i64 fr) ∧ W2.cell? ⟨wr.heap.size, 2, none⟩ = some (.int .i64 tt)) := fun W2 hB2 => by
          have n1 := (hB2.block wr.heap.size (by simp)).trans (heap_alloc_new wr (.cells #[.string bd, .int .i64 fr, .int .i64 tt] 40))
          exact ⟨cell_at n1 rfl, cell_at n1 rfl, cell_at n1 rfl⟩
        have HP : Hid (∀ W2, Below (wr.alloc (.cells #[.string bd, .int .i64 fr, .int .i64 tt] 40)).heap.size (wr.alloc (.cells #[.string bd, .int .i64 fr, .int .i64 tt] 40)) W2 → Calls Try.prog 36 #[(⟨bd, fr, tt⟩ : Te).one] W2 (MkPost W2 (op ⟨bd, fr, tt⟩))) := fun W2 h => HH.out.2.2 W2 (on1K hBw1 h (Nat.le_refl _)) _ hxm
        have HA : Hid (∀ (W3 : World) (o : Opx), Below wr.heap.size wr W3 → (W3.alloc (.cells o.cells.toArray 42)).ownsRow w.heap.size 42 11 u7 L.length (cellsO L) ∧ (∀ j u, o.cells[j]? = some u → (W3.alloc (.cells o.cells.toArray 42)).cell? ((⟨W3.heap.size, 0, none⟩ : Addr).add j) = some u) ∧ w.heap.size ≤ (W3.alloc (.cells o.cells.toArray 42)).heap.size) := fun W3 o hB3 => ⟨World.ownsRow.alloc (own_kt HO.out.1.1 (.of_below hB3)) _, new_at W3 o.cells 42, by have := (on1K hB hB3 (Nat.le_refl _)).size; simp; omega⟩
        have HM : Hid (L.length + 1 ≤ maxLen ∧ (L.length + 1) * 136 ≤ 140737488355328) := ⟨by unfold maxLen; omega, by omega⟩
        rw [hgx] at hs
        clear hgx hx hxm hO hm hB hB1 hBw1 e0 e1 e2
        go_wp2_with (first | (go_at_call 27; refine hs.mono ?_; rintro e W2 ⟨rfl, hB2⟩; obtain ⟨z0, z1, z2⟩ := HC.out W2 hB2) | (go_at_call 36; refine (HP.out W2 hB2).mono ?_; rintro e W3 ⟨⟨wh, ⟨oid, okd, orv, orc⟩, ⟨onm, opt, opn, ops⟩, ⟨obd, ofr, ott⟩⟩, rfl, hoc, hor, hB3⟩; obtain ⟨av, lv, cv, hov⟩ := hor.sl; simp only at hov; subst hov; have hB13 := on1K HS.out.2 (on1K hB2 hB3 (Nat.le_refl _)) (Nat.le_refl _)) | (at_builtin; obtain ⟨p1, p2, p3⟩ := HA.out W3 ⟨wh, ⟨oid, okd, .slice av lv cv, orc⟩, ⟨onm, opt, opn, ops⟩, ⟨obd, ofr, ott⟩⟩ hB13; refine wpList_append_own _ rfl (.tmp 20) (.tmp 24) 26 rfl w.heap.size 42 i0 _ 11 136 Try.underlying26 hi0 hz0 hz1 hz2 rfl (by decide) u7 L.length (cellsO L) rfl p1 ⟨W3.heap.size, 0, none⟩ 1 1 [.int .i64 wh, .int .i64 oid, .string okd, .slice av lv cv, .string onm, .int .i64 opt, .int .i64 opn, .string ops, .string obd, .int .i64 ofr, .int .i64 ott] rfl rfl p2 (op_one (o := ⟨wh, ⟨oid, okd, .slice av lv cv, orc⟩, ⟨onm, opt, opn, ops⟩, ⟨obd, ofr, ott⟩⟩) ⟨_, _, _, rfl⟩) HM.out.1 HM.out.2 p3 ?_; intro v5 w5 hown5 hgrow5 _; have HN5 := Lib.hid (HN.out W3 w5 _ v5 W2.heap.size hor (Nat.le_trans HS.out.1.size hB2.size) hB13 hoc hown5 hgrow5); clear hown5 hgrow5))
        refine ⟨?_, ?_⟩
        · first | exact HN5.out | ((repeat apply Exists.intro); refine ⟨?_, rfl⟩; exact HN5.out)
        · simp [intOf]
          try omega
    · obtain rfl : k = T.length := by omega
      rw [List.take_length] at HO
      obtain ⟨ao, cp, rfl⟩ := own_slice hO.1
      clear hO hm hlt
      go_wp2
      go_ret
      exact ⟨ao, cp, L, rfl, HO.out.1, HO.out.2, HB.out⟩
end Go.Proofs.Ytidmfdbckpficaa
