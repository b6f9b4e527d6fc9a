/-
  The walks of opsUnless of nodes.
-/
import Derived.Test.YtidmfdbckpficaaM26
import Derived.Test.YtidmfdbckpficaaM29
import Derived.Deep.RegionHeld3
namespace Go.Proofs.Ytidmfdbckpficaa
open Go.RowKit
set_option linter.unusedVariables false
set_option linter.unusedSimpArgs false

set_option maxHeartbeats 8000000 in
set_option maxRecDepth 100000 in
theorem unless58 {st : Value} {vt : Value} {T : List Nd} {w : World} (g : Nd → Bool) (op : Nd → Opx) (hT : IsN w vt T) (hl : T.length ≤ 1000)
    (hh : ∀ W, Below w.heap.size w W → ∀ x ∈ T, Calls Try.prog 26 #[st, x.one] W fun e w' => e = .returned (.bool (g x)) ∧ Below W.heap.size W w')
    (ho : ∀ W, Below w.heap.size w W → ∀ x ∈ T, Calls Try.prog 33 #[x.one] W (MkPost W (op x))) :
    Calls Try.prog 32 #[vt, .func (.func 26) #[st] #[], .func (.func 33) #[] #[]] w (OuPost w ((T.filter fun x => !g x).map fun x => (op x).c)) := by
  obtain ⟨i0, hi0, hz0, hz1, hz2⟩ := info_parts infoO
  have HH : Hid (IsN w vt T ∧ (∀ W, Below w.heap.size w W → ∀ x ∈ T, Calls Try.prog 26 #[st, x.one] W fun e w' => e = .returned (.bool (g x)) ∧ Below W.heap.size W w') ∧ (∀ W, Below w.heap.size w W → ∀ x ∈ T, Calls Try.prog 33 #[x.one] W (MkPost W (op x)))) := ⟨hT, hh, ho⟩
  obtain ⟨an, cn, hvn⟩ : ∃ an cn, vt = .slice an T.length cn := by
    obtain ⟨a, c, h, _⟩ := hT
    exact ⟨a, c, h⟩
  subst hvn
  clear hh ho hT
  go_enter Try.func32, Try.ntmps32
  go_wp2
  go_loopw [7, 12] (fun v i wr => OuI w T g op v i wr) (fun _ i _ => T.length - (intOf i).toNat)
  case atStart => exact ⟨0, [], Nat.zero_le _, rfl, Nat.le_refl _, OwnOs.nil _ _, rfl, Below.refl _ _⟩
  case round =>
    obtain ⟨k, L, hk, rfl, hLk, hO, hm, hB⟩ := hrel
    have HO : Hid (OwnOs wr w.heap.size u7 L ∧ L.map Opx.c = ((T.take k).filter fun x => !g x).map (fun x => (op x).c)) := ⟨hO, hm⟩
    have HB := Lib.hid hB
    by_cases hlt : k < T.length
    · obtain ⟨⟨id, kd, rv, rc⟩, hx⟩ : ∃ x, T[k]? = some x := ⟨T[k], by simp [hlt]⟩
      have hxm := List.mem_of_getElem? hx
      obtain ⟨b, off, c, hv, hb, e0, e1, e2, hrr⟩ := IsN.at HH.out.1 hx
      injection hv with hv1 hv2 hv3
      subst hv1
      clear hv2 hv3
      obtain ⟨rva, rvl, rvc, hrv⟩ := hrr.sl
      simp only at hrv
      subst hrv
      clear hrr
      simp only at e0 e1 e2
      have d0 := (hB.cell (p := ⟨b, off + k * 3, none⟩) hb).trans e0
      have d1 := (hB.cell (p := ⟨b, off + k * 3 + 1, none⟩) hb).trans e1
      have d2 := (hB.cell (p := ⟨b, off + k * 3 + 2, none⟩) hb).trans e2
      have hbn : ¬ b = wr.heap.size := by have := hB.size; omega
      have hB1 : Below wr.heap.size wr (wr.alloc (.cells #[.int .i64 id, .string kd, .slice rva rvl rvc] 30)) := b_alloc (Below.refl _ _) _
      have hBw1 := on1K hB hB1 (Nat.le_refl _)
      have hs := HH.out.2.1 _ hBw1 ⟨id, kd, .slice rva rvl rvc, rc⟩ hxm
      have HS : Hid (Below w.heap.size w (wr.alloc (.cells #[.int .i64 id, .string kd, .slice rva rvl rvc] 30)) ∧ Below wr.heap.size wr (wr.alloc (.cells #[.int .i64 id, .string kd, .slice rva rvl rvc] 30))) := ⟨hBw1, hB1⟩
      cases hgx : g ⟨id, kd, .slice rva rvl rvc, rc⟩ with
      | true =>
        have HN : Hid (∀ W2, Below (wr.alloc (.cells #[.int .i64 id, .string kd, .slice rva rvl rvc] 30)).heap.size (wr.alloc (.cells #[.int .i64 id, .string kd, .slice rva rvl rvc] 30)) W2 → OuI w T g op u7 (.int .i64 ((k : Int) + 1)) W2) := fun W2 hB2 => ⟨k + 1, L, hlt, by simp, by omega, HO.out.1.on (on1K hB1 hB2 (Nat.le_refl _)), filt_yes hx hgx HO.out.2, on1K hBw1 hB2 (Nat.le_refl _)⟩
        rw [hgx] at hs
        clear hgx hx hxm hO hm hB hB1 hBw1 e0 e1 e2
        go_wp2_with (first | (go_at_call 26; refine hs.mono ?_; rintro e W2 ⟨rfl, hB2⟩; have HN2 := Lib.hid (HN.out W2 hB2)))
        go_roundw
        case rel => exact HN2.out
        case measure => simp [intOf]; omega
      | false =>
        have HN : Hid (∀ (W3 w5 : World) (o : Opx) (v' : Value) (base' : Nat), OwnRc W3 base' o.nd.rv o.nd.rc → w.heap.size ≤ base' → Below wr.heap.size wr W3 → o.c = (op ⟨id, kd, .slice rva rvl rvc, rc⟩).c → w5.ownsRow w.heap.size 42 11 v' (L.length + 1) (cellsO L ++ o.cells) → World.grownBy (W3.alloc (.cells o.cells.toArray 42)) w5 u7.ownBlock → OuI w T g op v' (.int .i64 ((k : Int) + 1)) w5) := fun W3 w5 o v' base' hr hb' hB3 hoc hown hgr => by
          refine ⟨k + 1, L ++ [o], hlt, by simp, by simp; omega, ou_step HO.out.1 hB3 hr hb' hown hgr, filt_no hx hgx hoc HO.out.2, ?_⟩
          have hb3 := on1K hB hB3 (Nat.le_refl _)
          exact below_grown (b_alloc hb3 _) hgr (by have := hb3.size; simp; omega) (fun q hq => (HO.out.1.1.lt q hq).1)
        have HC : Hid (∀ W2, Below (wr.alloc (.cells #[.int .i64 id, .string kd, .slice rva rvl rvc] 30)).heap.size (wr.alloc (.cells #[.int .i64 id, .string kd, .slice rva rvl rvc] 30)) W2 → W2.cell? ⟨wr.heap.size, 0, none⟩ = some (.int .i64 id) ∧ W2.cell? ⟨wr.heap.size, 1, none⟩ = some (.string kd) ∧ W2.cell? ⟨wr.heap.size, 2, none⟩ = some (.slice rva rvl rvc)) := fun W2 hB2 => by
          have n1 := (hB2.block wr.heap.size (by simp)).trans (heap_alloc_new wr (.cells #[.int .i64 id, .string kd, .slice rva rvl rvc] 30))
          exact ⟨cell_at n1 rfl, cell_at n1 rfl, cell_at n1 rfl⟩
        have HP : Hid (∀ W2, Below (wr.alloc (.cells #[.int .i64 id, .string kd, .slice rva rvl rvc] 30)).heap.size (wr.alloc (.cells #[.int .i64 id, .string kd, .slice rva rvl rvc] 30)) W2 → Calls Try.prog 33 #[(⟨id, kd, .slice rva rvl rvc, rc⟩ : Nd).one] W2 (MkPost W2 (op ⟨id, kd, .slice rva rvl rvc, rc⟩))) := fun W2 h => HH.out.2.2 W2 (on1K hBw1 h (Nat.le_refl _)) _ hxm
        have HA : Hid (∀ (W3 : World) (o : Opx), Below wr.heap.size wr W3 → (W3.alloc (.cells o.cells.toArray 42)).ownsRow w.heap.size 42 11 u7 L.length (cellsO L) ∧ (∀ j u, o.cells[j]? = some u → (W3.alloc (.cells o.cells.toArray 42)).cell? ((⟨W3.heap.size, 0, none⟩ : Addr).add j) = some u) ∧ w.heap.size ≤ (W3.alloc (.cells o.cells.toArray 42)).heap.size) := fun W3 o hB3 => ⟨World.ownsRow.alloc (own_kt HO.out.1.1 (.of_below hB3)) _, new_at W3 o.cells 42, by have := (on1K hB hB3 (Nat.le_refl _)).size; simp; omega⟩
        have HM : Hid (L.length + 1 ≤ maxLen ∧ (L.length + 1) * 136 ≤ 140737488355328) := ⟨by unfold maxLen; omega, by omega⟩
        rw [hgx] at hs
        clear hgx hx hxm hO hm hB hB1 hBw1 e0 e1 e2
        go_wp2_with (first | (go_at_call 26; refine hs.mono ?_; rintro e W2 ⟨rfl, hB2⟩; obtain ⟨z0, z1, z2⟩ := HC.out W2 hB2) | (go_at_call 33; refine (HP.out W2 hB2).mono ?_; rintro e W3 ⟨⟨wh, ⟨oid, okd, orv, orc⟩, ⟨onm, opt, opn, ops⟩, ⟨obd, ofr, ott⟩⟩, rfl, hoc, hor, hB3⟩; obtain ⟨av, lv, cv, hov⟩ := hor.sl; simp only at hov; subst hov; have hB13 := on1K HS.out.2 (on1K hB2 hB3 (Nat.le_refl _)) (Nat.le_refl _)) | (at_builtin; obtain ⟨p1, p2, p3⟩ := HA.out W3 ⟨wh, ⟨oid, okd, .slice av lv cv, orc⟩, ⟨onm, opt, opn, ops⟩, ⟨obd, ofr, ott⟩⟩ hB13; refine wpList_append_own _ rfl (.tmp 20) (.tmp 24) 26 rfl w.heap.size 42 i0 _ 11 136 Try.underlying26 hi0 hz0 hz1 hz2 rfl (by decide) u7 L.length (cellsO L) rfl p1 ⟨W3.heap.size, 0, none⟩ 1 1 [.int .i64 wh, .int .i64 oid, .string okd, .slice av lv cv, .string onm, .int .i64 opt, .int .i64 opn, .string ops, .string obd, .int .i64 ofr, .int .i64 ott] rfl rfl p2 (op_one (o := ⟨wh, ⟨oid, okd, .slice av lv cv, orc⟩, ⟨onm, opt, opn, ops⟩, ⟨obd, ofr, ott⟩⟩) ⟨_, _, _, rfl⟩) HM.out.1 HM.out.2 p3 ?_; intro v5 w5 hown5 hgrow5 _; have HN5 := Lib.hid (HN.out W3 w5 _ v5 W2.heap.size hor (Nat.le_trans HS.out.1.size hB2.size) hB13 hoc hown5 hgrow5); clear hown5 hgrow5))
        refine ⟨?_, ?_⟩
        · first | exact HN5.out | ((repeat apply Exists.intro); refine ⟨?_, rfl⟩; exact HN5.out)
        · simp [intOf]
          try omega
    · obtain rfl : k = T.length := by omega
      rw [List.take_length] at HO
      obtain ⟨ao, cp, rfl⟩ := own_slice hO.1
      clear hO hm hlt
      go_wp2
      go_ret
      exact ⟨ao, cp, L, rfl, HO.out.1, HO.out.2, HB.out⟩

set_option maxHeartbeats 8000000 in
set_option maxRecDepth 100000 in
theorem unless59 {st : Value} {vt : Value} {T : List Nd} {w : World} (g : Nd → Bool) (op : Nd → Opx) (hT : IsN w vt T) (hl : T.length ≤ 1000)
    (hh : ∀ W, Below w.heap.size w W → ∀ x ∈ T, Calls Try.prog 26 #[st, x.one] W fun e w' => e = .returned (.bool (g x)) ∧ Below W.heap.size W w')
    (ho : ∀ W, Below w.heap.size w W → ∀ x ∈ T, Calls Try.prog 34 #[x.one] W (MkPost W (op x))) :
    Calls Try.prog 32 #[vt, .func (.func 26) #[st] #[], .func (.func 34) #[] #[]] w (OuPost w ((T.filter fun x => !g x).map fun x => (op x).c)) := by
  obtain ⟨i0, hi0, hz0, hz1, hz2⟩ := info_parts infoO
  have HH : Hid (IsN w vt T ∧ (∀ W, Below w.heap.size w W → ∀ x ∈ T, Calls Try.prog 26 #[st, x.one] W fun e w' => e = .returned (.bool (g x)) ∧ Below W.heap.size W w') ∧ (∀ W, Below w.heap.size w W → ∀ x ∈ T, Calls Try.prog 34 #[x.one] W (MkPost W (op x)))) := ⟨hT, hh, ho⟩
  obtain ⟨an, cn, hvn⟩ : ∃ an cn, vt = .slice an T.length cn := by
    obtain ⟨a, c, h, _⟩ := hT
    exact ⟨a, c, h⟩
  subst hvn
  clear hh ho hT
  go_enter Try.func32, Try.ntmps32
  go_wp2
  go_loopw [7, 12] (fun v i wr => OuI w T g op v i wr) (fun _ i _ => T.length - (intOf i).toNat)
  case atStart => exact ⟨0, [], Nat.zero_le _, rfl, Nat.le_refl _, OwnOs.nil _ _, rfl, Below.refl _ _⟩
  case round =>
    obtain ⟨k, L, hk, rfl, hLk, hO, hm, hB⟩ := hrel
    have HO : Hid (OwnOs wr w.heap.size u7 L ∧ L.map Opx.c = ((T.take k).filter fun x => !g x).map (fun x => (op x).c)) := ⟨hO, hm⟩
    have HB := Lib.hid hB
    by_cases hlt : k < T.length
    · obtain ⟨⟨id, kd, rv, rc⟩, hx⟩ : ∃ x, T[k]? = some x := ⟨T[k], by simp [hlt]⟩
      have hxm := List.mem_of_getElem? hx
      obtain ⟨b, off, c, hv, hb, e0, e1, e2, hrr⟩ := IsN.at HH.out.1 hx
      injection hv with hv1 hv2 hv3
      subst hv1
      clear hv2 hv3
      obtain ⟨rva, rvl, rvc, hrv⟩ := hrr.sl
      simp only at hrv
      subst hrv
      clear hrr
      simp only at e0 e1 e2
      have d0 := (hB.cell (p := ⟨b, off + k * 3, none⟩) hb).trans e0
      have d1 := (hB.cell (p := ⟨b, off + k * 3 + 1, none⟩) hb).trans e1
      have d2 := (hB.cell (p := ⟨b, off + k * 3 + 2, none⟩) hb).trans e2
      have hbn : ¬ b = wr.heap.size := by have := hB.size; omega
      have hB1 : Below wr.heap.size wr (wr.alloc (.cells #[.int .i64 id, .string kd, .slice rva rvl rvc] 30)) := b_alloc (Below.refl _ _) _
      have hBw1 := on1K hB hB1 (Nat.le_refl _)
      have hs := HH.out.2.1 _ hBw1 ⟨id, kd, .slice rva rvl rvc, rc⟩ hxm
      have HS : Hid (Below w.heap.size w (wr.alloc (.cells #[.int .i64 id, .string kd, .slice rva rvl rvc] 30)) ∧ Below wr.heap.size wr (wr.alloc (.cells #[.int .i64 id, .string kd, .slice rva rvl rvc] 30))) := ⟨hBw1, hB1⟩
      cases hgx : g ⟨id, kd, .slice rva rvl rvc, rc⟩ with
      | true =>
        have HN : Hid (∀ W2, Below (wr.alloc (.cells #[.int .i64 id, .string kd, .slice rva rvl rvc] 30)).heap.size (wr.alloc (.cells #[.int .i64 id, .string kd, .slice rva rvl rvc] 30)) W2 → OuI w T g op u7 (.int .i64 ((k : Int) + 1)) W2) := fun W2 hB2 => ⟨k + 1, L, hlt, by simp, by omega, HO.out.1.on (on1K hB1 hB2 (Nat.le_refl _)), filt_yes hx hgx HO.out.2, on1K hBw1 hB2 (Nat.le_refl _)⟩
        rw [hgx] at hs
        clear hgx hx hxm hO hm hB hB1 hBw1 e0 e1 e2
        go_wp2_with (first | (go_at_call 26; refine hs.mono ?_; rintro e W2 ⟨rfl, hB2⟩; have HN2 := Lib.hid (HN.out W2 hB2)))
        go_roundw
        case rel => exact HN2.out
        case measure => simp [intOf]; omega
      | false =>
        have HN : Hid (∀ (W3 w5 : World) (o : Opx) (v' : Value) (base' : Nat), OwnRc W3 base' o.nd.rv o.nd.rc → w.heap.size ≤ base' → Below wr.heap.size wr W3 → o.c = (op ⟨id, kd, .slice rva rvl rvc, rc⟩).c → w5.ownsRow w.heap.size 42 11 v' (L.length + 1) (cellsO L ++ o.cells) → World.grownBy (W3.alloc (.cells o.cells.toArray 42)) w5 u7.ownBlock → OuI w T g op v' (.int .i64 ((k : Int) + 1)) w5) := fun W3 w5 o v' base' hr hb' hB3 hoc hown hgr => by
          refine ⟨k + 1, L ++ [o], hlt, by simp, by simp; omega, ou_step HO.out.1 hB3 hr hb' hown hgr, filt_no hx hgx hoc HO.out.2, ?_⟩
          have hb3 := on1K hB hB3 (Nat.le_refl _)
          exact below_grown (b_alloc hb3 _) hgr (by have := hb3.size; simp; omega) (fun q hq => (HO.out.1.1.lt q hq).1)
        have HC : Hid (∀ W2, Below (wr.alloc (.cells #[.int .i64 id, .string kd, .slice rva rvl rvc] 30)).heap.size (wr.alloc (.cells #[.int .i64 id, .string kd, .slice rva rvl rvc] 30)) W2 → W2.cell? ⟨wr.heap.size, 0, none⟩ = some (.int .i64 id) ∧ W2.cell? ⟨wr.heap.size, 1, none⟩ = some (.string kd) ∧ W2.cell? ⟨wr.heap.size, 2, none⟩ = some (.slice rva rvl rvc)) := fun W2 hB2 => by
          have n1 := (hB2.block wr.heap.size (by simp)).trans (heap_alloc_new wr (.cells #[.int .i64 id, .string kd, .slice rva rvl rvc] 30))
          exact ⟨cell_at n1 rfl, cell_at n1 rfl, cell_at n1 rfl⟩
        have HP : Hid (∀ W2, Below (wr.alloc (.cells #[.int .i64 id, .string kd, .slice rva rvl rvc] 30)).heap.size (wr.alloc (.cells #[.int .i64 id, .string kd, .slice rva rvl rvc] 30)) W2 → Calls Try.prog 34 #[(⟨id, kd, .slice rva rvl rvc, rc⟩ : Nd).one] W2 (MkPost W2 (op ⟨id, kd, .slice rva rvl rvc, rc⟩))) := fun W2 h => HH.out.2.2 W2 (on1K hBw1 h (Nat.le_refl _)) _ hxm
        have HA : Hid (∀ (W3 : World) (o : Opx), Below wr.heap.size wr W3 → (W3.alloc (.cells o.cells.toArray 42)).ownsRow w.heap.size 42 11 u7 L.length (cellsO L) ∧ (∀ j u, o.cells[j]? = some u → (W3.alloc (.cells o.cells.toArray 42)).cell? ((⟨W3.heap.size, 0, none⟩ : Addr).add j) = some u) ∧ w.heap.size ≤ (W3.alloc (.cells o.cells.toArray 42)).heap.size) := fun W3 o hB3 => ⟨World.ownsRow.alloc (own_kt HO.out.1.1 (.of_below hB3)) _, new_at W3 o.cells 42, by have := (on1K hB hB3 (Nat.le_refl _)).size; simp; omega⟩
        have HM : Hid (L.length + 1 ≤ maxLen ∧ (L.length + 1) * 136 ≤ 140737488355328) := ⟨by unfold maxLen; omega, by omega⟩
        rw [hgx] at hs
        clear hgx hx hxm hO hm hB hB1 hBw1 e0 e1 e2
        go_wp2_with (first | (go_at_call 26; refine hs.mono ?_; rintro e W2 ⟨rfl, hB2⟩; obtain ⟨z0, z1, z2⟩ := HC.out W2 hB2) | (go_at_call 34; refine (HP.out W2 hB2).mono ?_; rintro e W3 ⟨⟨wh, ⟨oid, okd, orv, orc⟩, ⟨onm, opt, opn, ops⟩, ⟨obd, ofr, ott⟩⟩, rfl, hoc, hor, hB3⟩; obtain ⟨av, lv, cv, hov⟩ := hor.sl; simp only at hov; subst hov; have hB13 := on1K HS.out.2 (on1K hB2 hB3 (Nat.le_refl _)) (Nat.le_refl _)) | (at_builtin; obtain ⟨p1, p2, p3⟩ := HA.out W3 ⟨wh, ⟨oid, okd, .slice av lv cv, orc⟩, ⟨onm, opt, opn, ops⟩, ⟨obd, ofr, ott⟩⟩ hB13; refine wpList_append_own _ rfl (.tmp 20) (.tmp 24) 26 rfl w.heap.size 42 i0 _ 11 136 Try.underlying26 hi0 hz0 hz1 hz2 rfl (by decide) u7 L.length (cellsO L) rfl p1 ⟨W3.heap.size, 0, none⟩ 1 1 [.int .i64 wh, .int .i64 oid, .string okd, .slice av lv cv, .string onm, .int .i64 opt, .int .i64 opn, .string ops, .string obd, .int .i64 ofr, .int .i64 ott] rfl rfl p2 (op_one (o := ⟨wh, ⟨oid, okd, .slice av lv cv, orc⟩, ⟨onm, opt, opn, ops⟩, ⟨obd, ofr, ott⟩⟩) ⟨_, _, _, rfl⟩) HM.out.1 HM.out.2 p3 ?_; intro v5 w5 hown5 hgrow5 _; have HN5 := Lib.hid (HN.out W3 w5 _ v5 W2.heap.size hor (Nat.le_trans HS.out.1.size hB2.size) hB13 hoc hown5 hgrow5); clear hown5 hgrow5))
        refine ⟨?_, ?_⟩
        · first | exact HN5.out | ((repeat apply Exists.intro); refine ⟨?_, rfl⟩; exact HN5.out)
        · simp [intOf]
          try omega
    · obtain rfl : k = T.length := by omega
      rw [List.take_length] at HO
      obtain ⟨ao, cp, rfl⟩ := own_slice hO.1
      clear hO hm hlt
      go_wp2
      go_ret
      exact ⟨ao, cp, L, rfl, HO.out.1, HO.out.2, HB.out⟩
end Go.Proofs.Ytidmfdbckpficaa

/-
  The walk of between: its stocks, in whatever order they are made.
-/
namespace Go.Proofs.Ytidmfdbckpficaa
open Go.RowKit
set_option linter.unusedVariables false
set_option linter.unusedSimpArgs false

/-- The blocks of between ahead of its stocks. -/
abbrev beW (w : World) (a b c d : Value) : World := (w.alloc (.cells #[a, b] 25)).alloc (.cells #[c, d] 25)
/-- What holds behind the stocks. -/
def StR (W0 : World) (N : List Nd) (T : List Te) (M : List Nd) (U : List Te) (s t : Value) (wx : World) : Prop := ∃ p q, s = .pointer (some ⟨p, 0, none⟩) ∧ t = .pointer (some ⟨q, 0, none⟩) ∧ StAt wx p N T ∧ StAt wx q M U ∧ Below W0.heap.size W0 wx
/-- A stock that has nothing yet. -/
abbrev zO : Obj := .cells #[.map none, .map none] 73
def Zs (W : World) (b : Nat) : Prop := W.heap[b]? = some (.cells #[.map none, .map none] 73 (0, 0))
theorem Zs.lt {W : World} {b : Nat} (h : Zs W b) : b < W.heap.size := (Array.getElem?_eq_some_iff.1 h).1
theorem Zs.on {W W' : World} {b : Nat} (h : Zs W b) (hB : Below W.heap.size W W') : Zs W' b := (hB.block b h.lt).trans h
theorem Zs.all {W : World} {b : Nat} (h : Zs W b) : W.cell? ⟨b, 0, none⟩ = some (.map none) ∧ W.cell? ⟨b, 1, none⟩ = some (.map none) ∧ W.frozen? ⟨b, 0, none⟩ = false ∧ W.frozen? ⟨b, 1, none⟩ = false := ⟨cell_at h rfl, cell_at h rfl, frz_at h, frz_at h⟩
theorem Zs.all2 {W : World} {b : Nat} (h : Zs W b) : (∀ o, (W.alloc o).cell? ⟨b, 0, none⟩ = some (.map none)) ∧ (∀ o, (W.alloc o).cell? ⟨b, 1, none⟩ = some (.map none)) ∧ (∀ o, (W.alloc o).frozen? ⟨b, 0, none⟩ = false) ∧ (∀ o, (W.alloc o).frozen? ⟨b, 1, none⟩ = false) := by
  have k : ∀ o, Zs (W.alloc o) b := fun o => h.on (b_alloc (Below.refl _ _) _)
  exact ⟨fun o => (k o).all.1, fun o => (k o).all.2.1, fun o => (k o).all.2.2.1, fun o => (k o).all.2.2.2⟩
theorem zs_one {W W' : World} (hB : Below (W.alloc zO).heap.size (W.alloc zO) W') : Zs W' W.heap.size := (hB.block _ (by simp)).trans (heap_alloc_new W zO)
theorem zs_two {W W' : World} (hB : Below ((W.alloc zO).alloc zO).heap.size ((W.alloc zO).alloc zO) W') : Zs W' W.heap.size ∧ Zs W' (W.heap.size + 1) := by
  refine ⟨(hB.block _ (by simp; omega)).trans ((heap_alloc_old _ _ (by simp)).trans (heap_alloc_new W zO)), (hB.block _ (by simp)).trans ?_⟩
  have := heap_alloc_new (W.alloc zO) zO
  rw [World.size_alloc] at this
  exact this
theorem zs_oneD {W W' : World} (hB : Below (W.drew.alloc zO).heap.size (W.drew.alloc zO) W') : Zs W' W.heap.size := zs_one (W := W.drew) hB
theorem zs_twoD {W W' : World} (hB : Below ((W.drew.alloc zO).alloc zO).heap.size ((W.drew.alloc zO).alloc zO) W') : Zs W' W.heap.size ∧ Zs W' (W.heap.size + 1) := zs_two (W := W.drew) hB
theorem zs_oneE {W W' : World} (hB : Below (W.alloc zO).drew.heap.size (W.alloc zO).drew W') : Zs W' W.heap.size := zs_one (W := W) ⟨hB.os, hB.tape, hB.output, hB.size, hB.block⟩
theorem zs_twoE {W W' : World} (hB : Below ((W.alloc zO).alloc zO).drew.heap.size ((W.alloc zO).alloc zO).drew W') : Zs W' W.heap.size ∧ Zs W' (W.heap.size + 1) := zs_two (W := W) ⟨hB.os, hB.tape, hB.output, hB.size, hB.block⟩
theorem zs_map {W : World} {b p : Nat} (h : Zs W b) {es : Array MapEntry} {n : Nat} (hp : W.heap[p]? = some (.map es n)) : p ≠ b := fun e => by
  subst e
  unfold Zs at h
  rw [h] at hp
  cases hp
theorem zs_st {W : World} {b p : Nat} {N : List Nd} {T : List Te} (h : Zs W b) (hp : StAt W p N T) : p ≠ b := fun e => by
  subst e
  obtain ⟨b1, b2, h1, _⟩ := hp
  unfold Zs at h
  rw [h] at h1
  simp at h1
section
variable {W : World} {b x y : Nat} {N : List Nd} {T : List Te}
/-- A stock is filled. -/
abbrev fillW (W : World) (b x y : Nat) : World := (W.setCell ⟨b, 0, none⟩ (.map (some x))).setCell ⟨b, 1, none⟩ (.map (some y))
theorem fill_block (h : Zs W b) : (fillW W b x y).heap[b]? = some (.cells #[.map (some x), .map (some y)] 73 (0, 0)) := heap_setCell_same _ _ 1 _ 73 _ (heap_setCell_same _ _ 0 _ 73 _ h)
theorem fill_other {p : Nat} (h : p ≠ b) : (fillW W b x y).heap[p]? = W.heap[p]? := (heap_setCell_other _ _ _ _ (by simpa using h)).trans (heap_setCell_other _ _ _ _ (by simpa using h))
theorem IsSt.fill {v : Value} (hs : IsSt W v N T) (h : Zs W b) : IsSt (fillW W b x y) v N T := by
  obtain ⟨b1, b2, rfl, h1, h2⟩ := hs
  refine ⟨b1, b2, rfl, h1.of_block (fill_other ?_), h2.of_block (fill_other ?_)⟩
  · obtain ⟨es, n, e, _⟩ := h1; exact zs_map h e
  · obtain ⟨es, n, e, _⟩ := h2; exact zs_map h e
theorem StAt.fill {p : Nat} (hs : StAt W p N T) (h : Zs W b) : StAt (fillW W b x y) p N T := by
  have hne := zs_st h hs
  obtain ⟨b1, b2, e1, e2⟩ := hs
  exact ⟨b1, b2, (fill_other hne).trans e1, e2.fill h⟩
theorem StAt.filled (hs : IsSt W (.agg #[.map (some x), .map (some y)]) N T) (h : Zs W b) : StAt (fillW W b x y) b N T := ⟨x, y, fill_block h, hs.fill h⟩
theorem below_fill {B : Nat} {W0 : World} (hB : Below B W0 W) (hb : B ≤ b) : Below B W0 (fillW W b x y) := (hB.setCell hb _).setCell hb _
theorem Zs.fill {p : Nat} (h : Zs W p) (hne : p ≠ b) : Zs (fillW W b x y) p := (fill_other hne).trans h
end
section
variable {W0 W : World} {b5 b6 x1 x2 x3 x4 : Nat} {N M : List Nd} {T U : List Te}
theorem cl_oo (k5 : Zs W b5) (k6 : Zs W b6) (hne : b6 ≠ b5) (s1 : IsSt W (.agg #[.map (some x1), .map (some x2)]) N T) (s2 : IsSt W (.agg #[.map (some x3), .map (some x4)]) M U) (hB : Below W0.heap.size W0 W) (h5 : W0.heap.size ≤ b5) (h6 : W0.heap.size ≤ b6) :
    StR W0 N T M U (.pointer (some ⟨b5, 0, none⟩)) (.pointer (some ⟨b6, 0, none⟩)) (fillW (fillW W b5 x1 x2) b6 x3 x4) :=
  ⟨b5, b6, rfl, rfl, (StAt.filled s1 k5).fill (k6.fill hne), StAt.filled (s2.fill k5) (k6.fill hne), below_fill (below_fill hB h5) h6⟩
theorem stAt_new (s : IsSt W (.agg #[.map (some x1), .map (some x2)]) N T) : StAt (W.alloc (.cells #[.map (some x1), .map (some x2)] 73)) W.heap.size N T := ⟨x1, x2, heap_alloc_new W _, s.on (b_alloc (Below.refl _ _) _)⟩
theorem fill_size (W : World) (b x y : Nat) : (fillW W b x y).heap.size = W.heap.size := by simp [fillW]
theorem cl_on (k5 : Zs W b5) (s1 : IsSt W (.agg #[.map (some x1), .map (some x2)]) N T) (s2 : IsSt W (.agg #[.map (some x3), .map (some x4)]) M U) (hB : Below W0.heap.size W0 W) (h5 : W0.heap.size ≤ b5) :
    StR W0 N T M U (.pointer (some ⟨b5, 0, none⟩)) (.pointer (some ⟨W.heap.size, 0, none⟩)) (fillW (fillW (W.alloc zO) b5 x1 x2) W.heap.size x3 x4) := by
  have hx : Below W.heap.size W (W.alloc zO) := b_alloc (Below.refl _ _) _
  exact cl_oo (k5.on hx) (heap_alloc_new W zO) (Nat.ne_of_gt k5.lt) (s1.on hx) (s2.on hx) (b_alloc hB _) h5 hB.size
theorem cl_no (k6 : Zs W b6) (s1 : IsSt W (.agg #[.map (some x1), .map (some x2)]) N T) (s2 : IsSt W (.agg #[.map (some x3), .map (some x4)]) M U) (hB : Below W0.heap.size W0 W) (h6 : W0.heap.size ≤ b6) :
    StR W0 N T M U (.pointer (some ⟨W.heap.size, 0, none⟩)) (.pointer (some ⟨b6, 0, none⟩)) (fillW (W.alloc (.cells #[.map (some x1), .map (some x2)] 73)) b6 x3 x4) := by
  have hx : Below W.heap.size W (W.alloc (.cells #[.map (some x1), .map (some x2)] 73)) := b_alloc (Below.refl _ _) _
  exact ⟨W.heap.size, b6, rfl, rfl, (stAt_new s1).fill (k6.on hx), StAt.filled (s2.on hx) (k6.on hx), below_fill (b_alloc hB _) h6⟩
theorem cl_nn (s1 : IsSt W (.agg #[.map (some x1), .map (some x2)]) N T) (s2 : IsSt W (.agg #[.map (some x3), .map (some x4)]) M U) (hB : Below W0.heap.size W0 W) :
    StR W0 N T M U (.pointer (some ⟨W.heap.size, 0, none⟩)) (.pointer (some ⟨W.heap.size + 1, 0, none⟩)) ((W.alloc (.cells #[.map (some x1), .map (some x2)] 73)).alloc (.cells #[.map (some x3), .map (some x4)] 73)) := by
  have hx : Below W.heap.size W (W.alloc (.cells #[.map (some x1), .map (some x2)] 73)) := b_alloc (Below.refl _ _) _
  have h := stAt_new (s2.on hx)
  rw [World.size_alloc] at h
  exact ⟨_, _, rfl, rfl, (stAt_new s1).on (b_alloc (Below.refl _ _) _), h, b_alloc (b_alloc hB _) _⟩
theorem cl_nm (s1 : IsSt W (.agg #[.map (some x1), .map (some x2)]) N T) (s2 : IsSt W (.agg #[.map (some x3), .map (some x4)]) M U) (hB : Below W0.heap.size W0 W) :
    StR W0 N T M U (.pointer (some ⟨W.heap.size + 1, 0, none⟩)) (.pointer (some ⟨W.heap.size, 0, none⟩)) ((W.alloc (.cells #[.map (some x3), .map (some x4)] 73)).alloc (.cells #[.map (some x1), .map (some x2)] 73)) := by
  have hx : Below W.heap.size W (W.alloc (.cells #[.map (some x3), .map (some x4)] 73)) := b_alloc (Below.refl _ _) _
  have h := stAt_new (s1.on hx)
  rw [World.size_alloc] at h
  exact ⟨_, _, rfl, rfl, h, (stAt_new s2).on (b_alloc (Below.refl _ _) _), b_alloc (b_alloc hB _) _⟩
end
end Go.Proofs.Ytidmfdbckpficaa
