/-
  The walks of opsUnless of properties.
-/
import Derived.Test.YtidmfdbckpficaaM26
namespace Go.Proofs.Ytidmfdbckpficaa
open Go.RowKit
set_option linter.unusedVariables false
set_option linter.unusedSimpArgs false

theorem IsR.at {w : World} {v : Value} {L : List Pr} (h : IsR w v L) {k : Nat} {x : Pr} (hx : L[k]? = some x) : ∃ b off c, v = .slice (some ⟨b, off, none⟩) L.length c ∧ b < w.heap.size ∧ w.cell? ⟨b, off + k * 4, none⟩ = some (.string x.nm) ∧ w.cell? ⟨b, off + k * 4 + 1, none⟩ = some (.int .i64 x.t) ∧ w.cell? ⟨b, off + k * 4 + 2, none⟩ = some (.int .i64 x.n) ∧ w.cell? ⟨b, off + k * 4 + 3, none⟩ = some (.string x.s) := by
  obtain ⟨ao, c, rfl, rfl | ⟨b, off, rfl, hb, hL⟩⟩ := h
  · simp at hx
  · exact ⟨b, off, c, rfl, hb, hL k x hx⟩

set_option maxHeartbeats 8000000 in
set_option maxRecDepth 100000 in
theorem unless119 {pp qq : Value} {vt : Value} {T : List Pr} {w : World} (g : Pr → Bool) (op : Pr → Opx) (hT : IsR w vt T) (hl : T.length ≤ 1000)
    (hh : ∀ W, Below w.heap.size w W → ∀ x ∈ T, Calls Try.prog 72 #[x.one, pp] W fun e w' => e = .returned (.bool (g x)) ∧ Below W.heap.size W w')
    (ho : ∀ W, Below w.heap.size w W → ∀ x ∈ T, Calls Try.prog 78 #[x.one, qq] W (MkPost W (op x))) :
    Calls Try.prog 77 #[vt, .func (.func 72) #[] #[pp], .func (.func 78) #[] #[qq]] w (OuPost w ((T.filter fun x => !g x).map fun x => (op x).c)) := by
  obtain ⟨i0, hi0, hz0, hz1, hz2⟩ := info_parts infoO
  have HH : Hid (IsR w vt T ∧ (∀ W, Below w.heap.size w W → ∀ x ∈ T, Calls Try.prog 72 #[x.one, pp] W fun e w' => e = .returned (.bool (g x)) ∧ Below W.heap.size W w') ∧ (∀ W, Below w.heap.size w W → ∀ x ∈ T, Calls Try.prog 78 #[x.one, qq] W (MkPost W (op x)))) := ⟨hT, hh, ho⟩
  obtain ⟨an, cn, hvn⟩ : ∃ an cn, vt = .slice an T.length cn := by
    obtain ⟨a, c, h, _⟩ := hT
    exact ⟨a, c, h⟩
  subst hvn
  clear hh ho hT
  go_enter Try.func77, Try.ntmps77
  go_wp2
  go_loopw [7, 12] (fun v i wr => OuI w T g op v i wr) (fun _ i _ => T.length - (intOf i).toNat)
  case atStart => exact ⟨0, [], Nat.zero_le _, rfl, Nat.le_refl _, OwnOs.nil _ _, rfl, Below.refl _ _⟩
  case round =>
    obtain ⟨k, L, hk, rfl, hLk, hO, hm, hB⟩ := hrel
    have HO : Hid (OwnOs wr w.heap.size u7 L ∧ L.map Opx.c = ((T.take k).filter fun x => !g x).map (fun x => (op x).c)) := ⟨hO, hm⟩
    have HB := Lib.hid hB
    by_cases hlt : k < T.length
    · obtain ⟨⟨nm, pt, pn, ps⟩, hx⟩ : ∃ x, T[k]? = some x := ⟨T[k], by simp [hlt]⟩
      have hxm := List.mem_of_getElem? hx
      obtain ⟨b, off, c, hv, hb, e0, e1, e2, e3⟩ := IsR.at HH.out.1 hx
      injection hv with hv1 hv2 hv3
      subst hv1
      clear hv2 hv3
      simp only at e0 e1 e2 e3
      have d0 := (hB.cell (p := ⟨b, off + k * 4, none⟩) hb).trans e0
      have d1 := (hB.cell (p := ⟨b, off + k * 4 + 1, none⟩) hb).trans e1
      have d2 := (hB.cell (p := ⟨b, off + k * 4 + 2, none⟩) hb).trans e2
      have d3 := (hB.cell (p := ⟨b, off + k * 4 + 3, none⟩) hb).trans e3
      have hbn : ¬ b = wr.heap.size := by have := hB.size; omega
      have hB1 : Below wr.heap.size wr (wr.alloc (.cells #[.string nm, .int .i64 pt, .int .i64 pn, .string ps] 38)) := b_alloc (Below.refl _ _) _
      have hBw1 := on1K hB hB1 (Nat.le_refl _)
      have hs := HH.out.2.1 _ hBw1 ⟨nm, pt, pn, ps⟩ hxm
      have HS : Hid (Below w.heap.size w (wr.alloc (.cells #[.string nm, .int .i64 pt, .int .i64 pn, .string ps] 38)) ∧ Below wr.heap.size wr (wr.alloc (.cells #[.string nm, .int .i64 pt, .int .i64 pn, .string ps] 38))) := ⟨hBw1, hB1⟩
      cases hgx : g ⟨nm, pt, pn, ps⟩ with
      | true =>
        have HN : Hid (∀ W2, Below (wr.alloc (.cells #[.string nm, .int .i64 pt, .int .i64 pn, .string ps] 38)).heap.size (wr.alloc (.cells #[.string nm, .int .i64 pt, .int .i64 pn, .string ps] 38)) W2 → OuI w T g op u7 (.int .i64 ((k : Int) + 1)) W2) := fun W2 hB2 => ⟨k + 1, L, hlt, by simp, by omega, HO.out.1.on (on1K hB1 hB2 (Nat.le_refl _)), filt_yes hx hgx HO.out.2, on1K hBw1 hB2 (Nat.le_refl _)⟩
        rw [hgx] at hs
        clear hgx hx hxm hO hm hB hB1 hBw1 e0 e1 e2 e3
        go_wp2_with (first | (go_at_call 72; refine hs.mono ?_; rintro e W2 ⟨rfl, hB2⟩; have HN2 := Lib.hid (HN.out W2 hB2)))
        go_roundw
        case rel => exact HN2.out
        case measure => simp [intOf]; omega
      | false =>
        have HN : Hid (∀ (W3 w5 : World) (o : Opx) (v' : Value) (base' : Nat), OwnRc W3 base' o.nd.rv o.nd.rc → w.heap.size ≤ base' → Below wr.heap.size wr W3 → o.c = (op ⟨nm, pt, pn, ps⟩).c → w5.ownsRow w.heap.size 42 11 v' (L.length + 1) (cellsO L ++ o.cells) → World.grownBy (W3.alloc (.cells o.cells.toArray 42)) w5 u7.ownBlock → OuI w T g op v' (.int .i64 ((k : Int) + 1)) w5) := fun W3 w5 o v' base' hr hb' hB3 hoc hown hgr => by
          refine ⟨k + 1, L ++ [o], hlt, by simp, by simp; omega, ou_step HO.out.1 hB3 hr hb' hown hgr, filt_no hx hgx hoc HO.out.2, ?_⟩
          have hb3 := on1K hB hB3 (Nat.le_refl _)
          exact below_grown (b_alloc hb3 _) hgr (by have := hb3.size; simp; omega) (fun q hq => (HO.out.1.1.lt q hq).1)
        have HC : Hid (∀ W2, Below (wr.alloc (.cells #[.string nm, .int .i64 pt, .int .i64 pn, .string ps] 38)).heap.size (wr.alloc (.cells #[.string nm, .int .i64 pt, .int .i64 pn, .string ps] 38)) W2 → W2.cell? ⟨wr.heap.size, 0, none⟩ = some (.string nm) ∧ W2.cell? ⟨wr.heap.size, 1, none⟩ = some (.int .i64 pt) ∧ W2.cell? ⟨wr.heap.size, 2, none⟩ = some (.int .i64 pn) ∧ W2.cell? ⟨wr.heap.size, 3, none⟩ = some (.string ps)) := fun W2 hB2 => by
          have n1 := (hB2.block wr.heap.size (by simp)).trans (heap_alloc_new wr (.cells #[.string nm, .int .i64 pt, .int .i64 pn, .string ps] 38))
          exact ⟨cell_at n1 rfl, cell_at n1 rfl, cell_at n1 rfl, cell_at n1 rfl⟩
        have HP : Hid (∀ W2, Below (wr.alloc (.cells #[.string nm, .int .i64 pt, .int .i64 pn, .string ps] 38)).heap.size (wr.alloc (.cells #[.string nm, .int .i64 pt, .int .i64 pn, .string ps] 38)) W2 → Calls Try.prog 78 #[(⟨nm, pt, pn, ps⟩ : Pr).one, qq] W2 (MkPost W2 (op ⟨nm, pt, pn, ps⟩))) := fun W2 h => HH.out.2.2 W2 (on1K hBw1 h (Nat.le_refl _)) _ hxm
        have HA : Hid (∀ (W3 : World) (o : Opx), Below wr.heap.size wr W3 → (W3.alloc (.cells o.cells.toArray 42)).ownsRow w.heap.size 42 11 u7 L.length (cellsO L) ∧ (∀ j u, o.cells[j]? = some u → (W3.alloc (.cells o.cells.toArray 42)).cell? ((⟨W3.heap.size, 0, none⟩ : Addr).add j) = some u) ∧ w.heap.size ≤ (W3.alloc (.cells o.cells.toArray 42)).heap.size) := fun W3 o hB3 => ⟨World.ownsRow.alloc (own_kt HO.out.1.1 (.of_below hB3)) _, new_at W3 o.cells 42, by have := (on1K hB hB3 (Nat.le_refl _)).size; simp; omega⟩
        have HM : Hid (L.length + 1 ≤ maxLen ∧ (L.length + 1) * 136 ≤ 140737488355328) := ⟨by unfold maxLen; omega, by omega⟩
        rw [hgx] at hs
        clear hgx hx hxm hO hm hB hB1 hBw1 e0 e1 e2 e3
        go_wp2_with (first | (go_at_call 72; refine hs.mono ?_; rintro e W2 ⟨rfl, hB2⟩; obtain ⟨z0, z1, z2, z3⟩ := HC.out W2 hB2) | (go_at_call 78; refine (HP.out W2 hB2).mono ?_; rintro e W3 ⟨⟨wh, ⟨oid, okd, orv, orc⟩, ⟨onm, opt, opn, ops⟩, ⟨obd, ofr, ott⟩⟩, rfl, hoc, hor, hB3⟩; obtain ⟨av, lv, cv, hov⟩ := hor.sl; simp only at hov; subst hov; have hB13 := on1K HS.out.2 (on1K hB2 hB3 (Nat.le_refl _)) (Nat.le_refl _)) | (at_builtin; obtain ⟨p1, p2, p3⟩ := HA.out W3 ⟨wh, ⟨oid, okd, .slice av lv cv, orc⟩, ⟨onm, opt, opn, ops⟩, ⟨obd, ofr, ott⟩⟩ hB13; refine wpList_append_own _ rfl (.tmp 20) (.tmp 24) 26 rfl w.heap.size 42 i0 _ 11 136 Try.underlying26 hi0 hz0 hz1 hz2 rfl (by decide) u7 L.length (cellsO L) rfl p1 ⟨W3.heap.size, 0, none⟩ 1 1 [.int .i64 wh, .int .i64 oid, .string okd, .slice av lv cv, .string onm, .int .i64 opt, .int .i64 opn, .string ops, .string obd, .int .i64 ofr, .int .i64 ott] rfl rfl p2 (op_one (o := ⟨wh, ⟨oid, okd, .slice av lv cv, orc⟩, ⟨onm, opt, opn, ops⟩, ⟨obd, ofr, ott⟩⟩) ⟨_, _, _, rfl⟩) HM.out.1 HM.out.2 p3 ?_; intro v5 w5 hown5 hgrow5 _; have HN5 := Lib.hid (HN.out W3 w5 _ v5 W2.heap.size hor (Nat.le_trans HS.out.1.size hB2.size) hB13 hoc hown5 hgrow5); clear hown5 hgrow5))
        refine ⟨?_, ?_⟩
        · first | exact HN5.out | ((repeat apply Exists.intro); refine ⟨?_, rfl⟩; exact HN5.out)
        · simp [intOf]
          try omega
    · obtain rfl : k = T.length := by omega
      rw [List.take_length] at HO
      obtain ⟨ao, cp, rfl⟩ := own_slice hO.1
      clear hO hm hlt
      go_wp2
      go_ret
      exact ⟨ao, cp, L, rfl, HO.out.1, HO.out.2, HB.out⟩

set_option maxHeartbeats 8000000 in
set_option maxRecDepth 100000 in
theorem unless120 {pp qq : Value} {vt : Value} {T : List Pr} {w : World} (g : Pr → Bool) (op : Pr → Opx) (hT : IsR w vt T) (hl : T.length ≤ 1000)
    (hh : ∀ W, Below w.heap.size w W → ∀ x ∈ T, Calls Try.prog 75 #[x.one, pp] W fun e w' => e = .returned (.bool (g x)) ∧ Below W.heap.size W w')
    (ho : ∀ W, Below w.heap.size w W → ∀ x ∈ T, Calls Try.prog 79 #[x.one, qq] W (MkPost W (op x))) :
    Calls Try.prog 77 #[vt, .func (.func 75) #[] #[pp], .func (.func 79) #[] #[qq]] w (OuPost w ((T.filter fun x => !g x).map fun x => (op x).c)) := by
  obtain ⟨i0, hi0, hz0, hz1, hz2⟩ := info_parts infoO
  have HH : Hid (IsR w vt T ∧ (∀ W, Below w.heap.size w W → ∀ x ∈ T, Calls Try.prog 75 #[x.one, pp] W fun e w' => e = .returned (.bool (g x)) ∧ Below W.heap.size W w') ∧ (∀ W, Below w.heap.size w W → ∀ x ∈ T, Calls Try.prog 79 #[x.one, qq] W (MkPost W (op x)))) := ⟨hT, hh, ho⟩
  obtain ⟨an, cn, hvn⟩ : ∃ an cn, vt = .slice an T.length cn := by
    obtain ⟨a, c, h, _⟩ := hT
    exact ⟨a, c, h⟩
  subst hvn
  clear hh ho hT
  go_enter Try.func77, Try.ntmps77
  go_wp2
  go_loopw [7, 12] (fun v i wr => OuI w T g op v i wr) (fun _ i _ => T.length - (intOf i).toNat)
  case atStart => exact ⟨0, [], Nat.zero_le _, rfl, Nat.le_refl _, OwnOs.nil _ _, rfl, Below.refl _ _⟩
  case round =>
    obtain ⟨k, L, hk, rfl, hLk, hO, hm, hB⟩ := hrel
    have HO : Hid (OwnOs wr w.heap.size u7 L ∧ L.map Opx.c = ((T.take k).filter fun x => !g x).map (fun x => (op x).c)) := ⟨hO, hm⟩
    have HB := Lib.hid hB
    by_cases hlt : k < T.length
    · obtain ⟨⟨nm, pt, pn, ps⟩, hx⟩ : ∃ x, T[k]? = some x := ⟨T[k], by simp [hlt]⟩
      have hxm := List.mem_of_getElem? hx
      obtain ⟨b, off, c, hv, hb, e0, e1, e2, e3⟩ := IsR.at HH.out.1 hx
      injection hv with hv1 hv2 hv3
      subst hv1
      clear hv2 hv3
      simp only at e0 e1 e2 e3
      have d0 := (hB.cell (p := ⟨b, off + k * 4, none⟩) hb).trans e0
      have d1 := (hB.cell (p := ⟨b, off + k * 4 + 1, none⟩) hb).trans e1
      have d2 := (hB.cell (p := ⟨b, off + k * 4 + 2, none⟩) hb).trans e2
      have d3 := (hB.cell (p := ⟨b, off + k * 4 + 3, none⟩) hb).trans e3
      have hbn : ¬ b = wr.heap.size := by have := hB.size; omega
      have hB1 : Below wr.heap.size wr (wr.alloc (.cells #[.string nm, .int .i64 pt, .int .i64 pn, .string ps] 38)) := b_alloc (Below.refl _ _) _
      have hBw1 := on1K hB hB1 (Nat.le_refl _)
      have hs := HH.out.2.1 _ hBw1 ⟨nm, pt, pn, ps⟩ hxm
      have HS : Hid (Below w.heap.size w (wr.alloc (.cells #[.string nm, .int .i64 pt, .int .i64 pn, .string ps] 38)) ∧ Below wr.heap.size wr (wr.alloc (.cells #[.string nm, .int .i64 pt, .int .i64 pn, .string ps] 38))) := ⟨hBw1, hB1⟩
      cases hgx : g ⟨nm, pt, pn, ps⟩ with
      | true =>
        have HN : Hid (∀ W2, Below (wr.alloc (.cells #[.string nm, .int .i64 pt, .int .i64 pn, .string ps] 38)).heap.size (wr.alloc (.cells #[.string nm, .int .i64 pt, .int .i64 pn, .string ps] 38)) W2 → OuI w T g op u7 (.int .i64 ((k : Int) + 1)) W2) := fun W2 hB2 => ⟨k + 1, L, hlt, by simp, by omega, HO.out.1.on (on1K hB1 hB2 (Nat.le_refl _)), filt_yes hx hgx HO.out.2, on1K hBw1 hB2 (Nat.le_refl _)⟩
        rw [hgx] at hs
        clear hgx hx hxm hO hm hB hB1 hBw1 e0 e1 e2 e3
        go_wp2_with (first | (go_at_call 75; refine hs.mono ?_; rintro e W2 ⟨rfl, hB2⟩; have HN2 := Lib.hid (HN.out W2 hB2)))
        go_roundw
        case rel => exact HN2.out
        case measure => simp [intOf]; omega
      | false =>
        have HN : Hid (∀ (W3 w5 : World) (o : Opx) (v' : Value) (base' : Nat), OwnRc W3 base' o.nd.rv o.nd.rc → w.heap.size ≤ base' → Below wr.heap.size wr W3 → o.c = (op ⟨nm, pt, pn, ps⟩).c → w5.ownsRow w.heap.size 42 11 v' (L.length + 1) (cellsO L ++ o.cells) → World.grownBy (W3.alloc (.cells o.cells.toArray 42)) w5 u7.ownBlock → OuI w T g op v' (.int .i64 ((k : Int) + 1)) w5) := fun W3 w5 o v' base' hr hb' hB3 hoc hown hgr => by
          refine ⟨k + 1, L ++ [o], hlt, by simp, by simp; omega, ou_step HO.out.1 hB3 hr hb' hown hgr, filt_no hx hgx hoc HO.out.2, ?_⟩
          have hb3 := on1K hB hB3 (Nat.le_refl _)
          exact below_grown (b_alloc hb3 _) hgr (by have := hb3.size; simp; omega) (fun q hq => (HO.out.1.1.lt q hq).1)
        have HC : Hid (∀ W2, Below (wr.alloc (.cells #[.string nm, .int .i64 pt, .int .i64 pn, .string ps] 38)).heap.size (wr.alloc (.cells #[.string nm, .int .i64 pt, .int .i64 pn, .string ps] 38)) W2 → W2.cell? ⟨wr.heap.size, 0, none⟩ = some (.string nm) ∧ W2.cell? ⟨wr.heap.size, 1, none⟩ = some (.int .i64 pt) ∧ W2.cell? ⟨wr.heap.size, 2, none⟩ = some (.int .i64 pn) ∧ W2.cell? ⟨wr.heap.size, 3, none⟩ = some (.string ps)) := fun W2 hB2 => by
          have n1 := (hB2.block wr.heap.size (by simp)).trans (heap_alloc_new wr (.cells #[.string nm, .int .i64 pt, .int .i64 pn, .string ps] 38))
          exact ⟨cell_at n1 rfl, cell_at n1 rfl, cell_at n1 rfl, cell_at n1 rfl⟩
        have HP : Hid (∀ W2, Below (wr.alloc (.cells #[.string nm, .int .i64 pt, .int .i64 pn, .string ps] 38)).heap.size (wr.alloc (.cells #[.string nm, .int .i64 pt, .int .i64 pn, .string ps] 38)) W2 → Calls Try.prog 79 #[(⟨nm, pt, pn, ps⟩ : Pr).one, qq] W2 (MkPost W2 (op ⟨nm, pt, pn, ps⟩))) := fun W2 h => HH.out.2.2 W2 (on1K hBw1 h (Nat.le_refl _)) _ hxm
        have HA : Hid (∀ (W3 : World) (o : Opx), Below wr.heap.size wr W3 → (W3.alloc (.cells o.cells.toArray 42)).ownsRow w.heap.size 42 11 u7 L.length (cellsO L) ∧ (∀ j u, o.cells[j]? = some u → (W3.alloc (.cells o.cells.toArray 42)).cell? ((⟨W3.heap.size, 0, none⟩ : Addr).add j) = some u) ∧ w.heap.size ≤ (W3.alloc (.cells o.cells.toArray 42)).heap.size) := fun W3 o hB3 => ⟨World.ownsRow.alloc (own_kt HO.out.1.1 (.of_below hB3)) _, new_at W3 o.cells 42, by have := (on1K hB hB3 (Nat.le_refl _)).size; simp; omega⟩
        have HM : Hid (L.length + 1 ≤ maxLen ∧ (L.length + 1) * 136 ≤ 140737488355328) := ⟨by unfold maxLen; omega, by omega⟩
        rw [hgx] at hs
        clear hgx hx hxm hO hm hB hB1 hBw1 e0 e1 e2 e3
        go_wp2_with (first | (go_at_call 75; refine hs.mono ?_; rintro e W2 ⟨rfl, hB2⟩; obtain ⟨z0, z1, z2, z3⟩ := HC.out W2 hB2) | (go_at_call 79; refine (HP.out W2 hB2).mono ?_; rintro e W3 ⟨⟨wh, ⟨oid, okd, orv, orc⟩, ⟨onm, opt, opn, ops⟩, ⟨obd, ofr, ott⟩⟩, rfl, hoc, hor, hB3⟩; obtain ⟨av, lv, cv, hov⟩ := hor.sl; simp only at hov; subst hov; have hB13 := on1K HS.out.2 (on1K hB2 hB3 (Nat.le_refl _)) (Nat.le_refl _)) | (at_builtin; obtain ⟨p1, p2, p3⟩ := HA.out W3 ⟨wh, ⟨oid, okd, .slice av lv cv, orc⟩, ⟨onm, opt, opn, ops⟩, ⟨obd, ofr, ott⟩⟩ hB13; refine wpList_append_own _ rfl (.tmp 20) (.tmp 24) 26 rfl w.heap.size 42 i0 _ 11 136 Try.underlying26 hi0 hz0 hz1 hz2 rfl (by decide) u7 L.length (cellsO L) rfl p1 ⟨W3.heap.size, 0, none⟩ 1 1 [.int .i64 wh, .int .i64 oid, .string okd, .slice av lv cv, .string onm, .int .i64 opt, .int .i64 opn, .string ops, .string obd, .int .i64 ofr, .int .i64 ott] rfl rfl p2 (op_one (o := ⟨wh, ⟨oid, okd, .slice av lv cv, orc⟩, ⟨onm, opt, opn, ops⟩, ⟨obd, ofr, ott⟩⟩) ⟨_, _, _, rfl⟩) HM.out.1 HM.out.2 p3 ?_; intro v5 w5 hown5 hgrow5 _; have HN5 := Lib.hid (HN.out W3 w5 _ v5 W2.heap.size hor (Nat.le_trans HS.out.1.size hB2.size) hB13 hoc hown5 hgrow5); clear hown5 hgrow5))
        refine ⟨?_, ?_⟩
        · first | exact HN5.out | ((repeat apply Exists.intro); refine ⟨?_, rfl⟩; exact HN5.out)
        · simp [intOf]
          try omega
    · obtain rfl : k = T.length := by omega
      rw [List.take_length] at HO
      obtain ⟨ao, cp, rfl⟩ := own_slice hO.1
      clear hO hm hlt
      go_wp2
      go_ret
      exact ⟨ao, cp, L, rfl, HO.out.1, HO.out.2, HB.out⟩
end Go.Proofs.Ytidmfdbckpficaa

/-
  The walks of the closures of propOps, with slices.ContainsFunc and slices.Contains.
-/
namespace Go.Proofs.Ytidmfdbckpficaa
open Go.RowKit
set_option linter.unusedVariables false
set_option linter.unusedSimpArgs false

/-- Where the first one stands. -/
def idxF (f : Pr → Bool) : List Pr → Nat → Int
  | [], _ => -1
  | t :: r, k => if f t = true then (k : Int) else idxF f r (k + 1)
theorem idxF_any (f : Pr → Bool) : ∀ (L : List Pr) (s : Nat), decide (0 ≤ idxF f L s) = L.any f
  | [], s => by simp [idxF]
  | t :: r, s => by
    unfold idxF
    by_cases h : f t = true
    · rw [if_pos h]
      simp [h]
    · rw [if_neg h, idxF_any f r (s + 1)]
      simp [h]
/-- Is there one of its name? -/
def namedP (b : List Pr) (p : Pr) : Bool := b.any fun q => q.nm.toList == p.nm.toList
/-- Is there the same one? -/
def sameP (a : List Pr) (p : Pr) : Bool := a.any fun q => p.eq q
/-- A record's slice behind a pointer. -/
def RcAt (w : World) (p : Nat) (L : List Pr) : Prop := ∃ a c, w.heap[p]? = some (.cells #[.slice a L.length c] 28 (0, 0)) ∧ IsR w (.slice a L.length c) L
theorem RcAt.on {w w' : World} {p : Nat} {L : List Pr} (h : RcAt w p L) (hB : Below w.heap.size w w') : RcAt w' p L := by
  obtain ⟨a, c, h1, h2⟩ := h
  exact ⟨a, c, (hB.block p (Array.getElem?_eq_some_iff.1 h1).1).trans h1, h2.on hB⟩

set_option maxHeartbeats 1000000 in
theorem nm1_any (q p : Pr) (x : Nat) (w : World) (hx : w.heap[x]? = some (.cells #[.string p.nm, .int .i64 p.t, .int .i64 p.n, .string p.s] 38 (0, 0))) :
    Calls Try.prog 74 #[q.one, .pointer (some ⟨x, 0, none⟩)] w fun e w' => e = .returned (.bool (q.nm.toList == p.nm.toList)) ∧ Below w.heap.size w w' := by
  obtain ⟨nm, pt, pn, ps⟩ := q
  have hB : Below w.heap.size w (w.alloc (.cells #[.string nm, .int .i64 pt, .int .i64 pn, .string ps] 38)) := b_alloc (Below.refl _ _) _
  have x0 : (w.alloc (.cells #[.string nm, .int .i64 pt, .int .i64 pn, .string ps] 38)).cell? ⟨x, 0, none⟩ = some (.string p.nm) := cell_at ((hB.block x (Array.getElem?_eq_some_iff.1 hx).1).trans hx) rfl
  have HB := Lib.hid hB
  clear hx hB
  go_enter Try.func74, Try.ntmps74
  go_wp2
  go_ret
  exact ⟨rfl, HB.out⟩

set_option maxHeartbeats 2000000 in
set_option maxRecDepth 100000 in
theorem indexNm_any {v : Value} {N : List Pr} {w : World} (hn : IsR w v N) (hl : N.length ≤ 1000) (p : Pr) (x : Nat) (hx : w.heap[x]? = some (.cells #[.string p.nm, .int .i64 p.t, .int .i64 p.n, .string p.s] 38 (0, 0))) :
    Calls Try.prog 86 #[v, .func (.func 74) #[] #[.pointer (some ⟨x, 0, none⟩)]] w fun e w' => e = .returned (.int .i64 (idxF (fun q => q.nm.toList == p.nm.toList) N 0)) ∧ Below w.heap.size w w' := by
  have HH : Hid (IsR w v N ∧ w.heap[x]? = some (.cells #[.string p.nm, .int .i64 p.t, .int .i64 p.n, .string p.s] 38 (0, 0))) := ⟨hn, hx⟩
  obtain ⟨an, cn, hv, _⟩ := hn
  subst hv
  clear hx
  generalize hf : (fun q : Pr => q.nm.toList == p.nm.toList) = f
  have C : Hid (∀ W, Below w.heap.size w W → ∀ q, Calls Try.prog 74 #[q.one, .pointer (some ⟨x, 0, none⟩)] W fun e w' => e = .returned (.bool (f q)) ∧ Below W.heap.size W w') := fun W hB q => by
    rw [← hf]
    exact nm1_any q p x W ((hB.block x (Array.getElem?_eq_some_iff.1 HH.out.2).1).trans HH.out.2)
  clear hf
  go_enter Try.func86, Try.ntmps86
  go_wp2
  go_loopw [8] (fun i wr => ∃ k : Nat, k ≤ N.length ∧ i = .int .i64 k ∧ idxF f N 0 = idxF f (N.drop k) k ∧ Below w.heap.size w wr) (fun i _ => N.length - (intOf i).toNat)
  case atStart => exact ⟨0, Nat.zero_le _, rfl, rfl, Below.refl _ _⟩
  case round =>
    obtain ⟨k, hk, rfl, hx, hB⟩ := hrel
    have HX : Hid (idxF f N 0 = idxF f (N.drop k) k) := hx
    clear hx
    by_cases hlt : k < N.length
    · obtain ⟨n, hn'⟩ : ∃ n, N[k]? = some n := ⟨N[k], by simp [hlt]⟩
      have HD : Hid (N.drop k = n :: N.drop (k + 1)) := dropN hn'
      obtain ⟨b, off, c, hv, hb, e0, e1, e2, e3⟩ := IsR.at HH.out.1 hn'
      injection hv with hv1 hv2 hv3
      subst hv1
      clear hv2 hv3
      have d0 := (hB.cell (p := ⟨b, off + k * 4, none⟩) hb).trans e0
      have d1 := (hB.cell (p := ⟨b, off + k * 4 + 1, none⟩) hb).trans e1
      have d2 := (hB.cell (p := ⟨b, off + k * 4 + 2, none⟩) hb).trans e2
      have d3 := (hB.cell (p := ⟨b, off + k * 4 + 3, none⟩) hb).trans e3
      have cf := C.out wr hB n
      clear e0 e1 e2 e3 hn'
      cases he : f n with
      | true =>
        have H : Hid (idxF f N 0 = (k : Int)) := by
          show _ = _
          rw [HX.out, HD.out]; unfold idxF; rw [if_pos he]
        rw [he] at cf
        clear HX HD he
        obtain ⟨nm, pt, pn, ps⟩ := n
        simp only at d0 d1 d2 d3 cf
        go_wp2_with (first | (go_at_call 74; refine cf.mono ?_; rintro e W2 ⟨rfl, hB2⟩))
        go_ret
        exact ⟨ret_v (congrArg (Value.int .i64) H.out.symm), on1 hB hB2⟩
      | false =>
        have H : Hid (idxF f N 0 = idxF f (N.drop (k + 1)) (k + 1)) := by
          show _ = _
          rw [HX.out, HD.out]; conv => lhs; unfold idxF; rw [if_neg (by rw [he]; decide)]
        rw [he] at cf
        clear HX HD he
        obtain ⟨nm, pt, pn, ps⟩ := n
        simp only at d0 d1 d2 d3 cf
        go_wp2_with (first | (go_at_call 74; refine cf.mono ?_; rintro e W2 ⟨rfl, hB2⟩))
        go_roundw
        case rel => exact ⟨k + 1, by omega, by go_num, H.out, on1 hB hB2⟩
        case measure => simp [intOf]; omega
    · have hd : N.drop k = [] := List.drop_eq_nil_of_le (by omega)
      have H : Hid (idxF f N 0 = -1) := by
        show _ = _
        rw [HX.out, hd]; rfl
      clear HX hd
      go_wp2
      go_ret
      exact ⟨ret_v (congrArg (Value.int .i64) H.out.symm), hB⟩

set_option maxHeartbeats 2000000 in
theorem contNm_any {v : Value} {N : List Pr} {w : World} (hn : IsR w v N) (hl : N.length ≤ 1000) (p : Pr) (x : Nat) (hx : w.heap[x]? = some (.cells #[.string p.nm, .int .i64 p.t, .int .i64 p.n, .string p.s] 38 (0, 0))) :
    Calls Try.prog 73 #[v, .func (.func 74) #[] #[.pointer (some ⟨x, 0, none⟩)]] w fun e w' => e = .returned (.bool (namedP N p)) ∧ Below w.heap.size w w' := by
  have c := indexNm_any hn hl p x hx
  have e : namedP N p = decide (0 ≤ idxF (fun q => q.nm.toList == p.nm.toList) N 0) := (idxF_any _ N 0).symm
  rw [e]
  obtain ⟨an, cn, hv, _⟩ := hn
  subst hv
  clear hx e
  generalize idxF (fun q => q.nm.toList == p.nm.toList) N 0 = j at *
  go_enter Try.func73, Try.ntmps73
  go_wp2_with (first | (go_at_call 86; refine c.mono ?_; rintro e W2 ⟨rfl, hB2⟩))
  go_ret
  exact ⟨rfl, hB2⟩

set_option maxHeartbeats 2000000 in
/-- named: a property's name is in the record behind the pointer. -/
theorem named_any {N : List Pr} {y : Nat} {w : World} (hy : RcAt w y N) (hl : N.length ≤ 1000) (p : Pr) :
    Calls Try.prog 72 #[p.one, .pointer (some ⟨y, 0, none⟩)] w fun e w' => e = .returned (.bool (namedP N p)) ∧ Below w.heap.size w w' := by
  have hB : Below w.heap.size w (w.alloc (.cells #[.string p.nm, .int .i64 p.t, .int .i64 p.n, .string p.s] 38)) := b_alloc (Below.refl _ _) _
  obtain ⟨a, c, h1, h2⟩ := hy.on hB
  have cc := contNm_any h2 hl p w.heap.size (heap_alloc_new w _)
  have y0 : (w.alloc (.cells #[.string p.nm, .int .i64 p.t, .int .i64 p.n, .string p.s] 38)).cell? ⟨y, 0, none⟩ = some (.slice a N.length c) := cell_at h1 rfl
  have HB := Lib.hid hB
  clear h1 h2 hB hy
  generalize namedP N p = g at *
  obtain ⟨nm, pt, pn, ps⟩ := p
  simp only at *
  go_enter Try.func72, Try.ntmps72
  go_wp2_with (first | (go_at_call 73; refine cc.mono ?_; rintro e W2 ⟨rfl, hB2⟩))
  go_ret
  exact ⟨rfl, on1K HB.out hB2 (Nat.le_refl _)⟩
end Go.Proofs.Ytidmfdbckpficaa
