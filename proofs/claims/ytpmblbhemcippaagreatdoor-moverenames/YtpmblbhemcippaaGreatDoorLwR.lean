/-
  The walk of the law MoveRenames.
-/
import Derived.Test.YtpmblbhemcippaaGreatDoorRnF
import Derived.Deep.CutBlock
import Derived.Deep.DeepCutAuto
import Derived.Deep.RegionHeld
import Derived.Maps.RangeWalk
namespace Go.Proofs.YtpmblbhemcippaaGreatDoor
open Go.RowKit
set_option linter.unusedVariables false
set_option linter.unusedSimpArgs false

abbrev Bl (w w1 : World) : Prop := Below w.heap.size w w1
theorem kp {w w1 : World} {b : Nat} {o : Obj} (hB : Bl w w1) (h : w.heap[b]? = some o) : w1.heap[b]? = some o := (hB.block _ (Array.getElem?_eq_some_iff.1 h).1).trans h
theorem onK {w w1 w2 : World} (h1 : Bl w w1) (h2 : Bl w1 w2) : Bl w w2 := on1K h1 h2 (Nat.le_refl _)
def S6 (t : Nm) (x y : Value) (p q : Nat) (w : World) : Prop := w.heap[p]? = some (.cells (csR [107] t) 38 (0, 0)) ∧ w.heap[q]? = some (.cells #[x, y] 25 (0, 0))
variable {t : Nm} {x y : Value} {p q : Nat} {w : World}
theorem S6.drew (h : S6 t x y p q w) : S6 t x y p q w.drew := h
theorem S6.lt (h : S6 t x y p q w) : p < w.heap.size ∧ q < w.heap.size := ⟨(Array.getElem?_eq_some_iff.1 h.1).1, (Array.getElem?_eq_some_iff.1 h.2).1⟩
theorem S6.on {w' : World} (h : S6 t x y p q w) (hB : Bl w w') : S6 t x y p q w' := ⟨(hB.block _ h.lt.1).trans h.1, (hB.block _ h.lt.2).trans h.2⟩
theorem S6.alloc (h : S6 t x y p q w) (o : Obj) : S6 t x y p q (w.alloc o) := h.on (b_alloc (Below.refl _ _) _)
theorem S6.set2 {b : Nat} (h : S6 t x y p q w) (hn : ¬ p = b ∧ ¬ q = b) (u v : Value) : S6 t x y p q (Go.Proofs.YtpmblbhemcippaaGreatDoor.set2 w b u v) :=
  ⟨(heap_setCell_other _ ⟨b, 1, none⟩ p v hn.1).trans ((heap_setCell_other _ ⟨b, 0, none⟩ p u hn.1).trans h.1), (heap_setCell_other _ ⟨b, 1, none⟩ q v hn.2).trans ((heap_setCell_other _ ⟨b, 0, none⟩ q u hn.2).trans h.2)⟩
theorem S6.ne {n : Nat} (h : S6 t x y p q w) (hn : w.heap.size ≤ n) : ¬ p = n ∧ ¬ q = n := by
  have := h.lt
  constructor <;> omega
theorem zero2 {t : TypeId} (h : w.heap[p]? = some (.cells #[x, y] t (0, 0))) : (w.cell? ⟨p, 0, none⟩ = some x ∧ w.cell? ⟨p, 1, none⟩ = some y) ∧ w.frozen? ⟨p, 0, none⟩ = false ∧ w.frozen? ⟨p, 1, none⟩ = false := ⟨⟨cell_at h rfl, cell_at h rfl⟩, frz_at h, frz_at h⟩
theorem yieldsIf_row {ops : Array Oper} {S : World → Prop} {op : Oper} {a : Act} (hw : Region.wanted op (yielded ops a.tmps) = true) (ty : TypeId) (x : Operand) (ho : op.op = .load ty x)
    (b : Nat) (hx : a.eval x = .pointer (some ⟨b, 0, none⟩)) (cs : Array Value) (hl : ∀ w, S w → (loadVar ty ⟨b, 0, none⟩).run Tryz.prog w = .ok (.agg cs) w) : YieldsIf Tryz.prog ops S op (.agg cs) a :=
  .inl ⟨hw, fun w hw' => by
    unfold execOp
    simp only [ho, hx, Instr.loadAt, Instr.sureAddr, Sem.run_bind, Sem.run_pure, Result.andThen_ok, hl w hw']⟩
theorem infoC (o t : Nm) : (Tryz.prog.info? 38).map (fun i => i.size) = some (csR o t).size := (by kernel_rfl : (Tryz.prog.info? 38).map (fun i => i.size) = some 18)
theorem infoG : (Tryz.prog.info? 25).map (fun i => i.size) = some 2 := by kernel_rfl
theorem takeD {P : Program} {md : Region.Mode} {ops : Array Oper} {Q : Exit → Act → World → Prop} {S : World → Prop} {i : Nat} (d : Option Tmp) {oi : Oper} {v : Value} {fuel : Nat} {listed : Array Bool} {a : Act} {w : World} (hi : ops[i]? = some oi) (hd : oi.dst = d)
    (hr : (Region.noSelect ops && Region.free md ops listed i && (Region.ready md ops listed).contains i) = true)
    (hQ : ∀ c a w, Q (.panic c) (a.put oi.dst v) w → Q (.panic c) a w) (hy : YieldsIf P ops S oi v a) (hS : S w)
    (h : wpAnyH P md ops Q S fuel (listed.setIfInBounds i true) (a.put d v) w) : wpAnyH P md ops Q S (fuel + 1) listed a w := by
  subst hd
  simp only [Bool.and_eq_true] at hr
  exact wpAnyH_take hi hr.1.1 hr.1.2 hr.2 hQ hy hS h
theorem ready1 {P : Program} {md : Region.Mode} {ops : Array Oper} {Q : Exit → Act → World → Prop} {S : World → Prop} {i : Nat} {fuel : Nat} {listed : Array Bool} {a : Act} {w : World} {o : Oper} (hr : Region.ready md ops listed = [i]) (ho : ops[i]? = some o)
    (h : ∀ K' : Act → World → Prop, Shut (∀ a w, S w → (S w → wpAnyH P md ops Q S fuel (listed.setIfInBounds i true) a w) → K' a w) → if Region.wanted o (yielded ops a.tmps) = true then Oper.wp P o a w K' Q else K' (a.put o.dst undef) w) : wpAnyH P md ops Q S (fuel + 1) listed a w :=
  wpAnyH_ready hr (by simp) (AllReadyH.cons ho h AllReadyH.nil)
theorem Hnd.on {w w' : World} (h : Hnd w) (hB : Bl w w') : Hnd w' := by
  have hlt : 0 < w.heap.size := by
    rcases Nat.eq_zero_or_pos w.heap.size with h0 | h1
    · have hg' : w.cell? ⟨0, 0, none⟩ = _ := h
      simp [World.cell?, h0] at hg'
    · exact h1
  exact (hB.cell (p := ⟨0, 0, none⟩) hlt).trans h
set_option maxHeartbeats 4000000 in
set_option maxRecDepth 100000 in
theorem mr_out (n : Int) (hn : n < 0 ∨ 50 < n) (s : ByteArray) (w : World) : Calls Tryz.prog 3 #[.int .i64 n, .string s] w fun e w' => e = .returned (.bool true) ∧ Bl w w' := by
  rcases hn with h | h
  · go_enter Tryz.func3, Tryz.ntmps3
    go_wp2
    go_ret
    exact ⟨rfl, Below.refl _ _⟩
  · have h0 : 0 ≤ n := by omega
    go_enter Tryz.func3, Tryz.ntmps3
    go_wp2
    go_ret
    exact ⟨rfl, Below.refl _ _⟩
set_option maxHeartbeats 16000000 in
set_option maxRecDepth 100000 in
theorem mr_go (k : Nat) (hk : k ≤ 50) (t : Nm) (htm : t.length ≤ maxLen) (w : World) (hg : Hnd w) : Calls Tryz.prog 3 #[.int .i64 k, .string (bs t)] w fun e w' => e = .returned (.bool true) ∧ Bl w w' := by
  have cM : Calls Tryz.prog 4 #[.int .i64 k, .int .i64 0] w (ManyP w k 0) := many_any k 0 (by omega) (by decide) w
  have hk0 : (0 : Int) ≤ (k : Int) := by omega
  have hk5 : (k : Int) ≤ 50 := by omega
  have HNm : Hid (∀ W, Calls Tryz.prog 7 #[.string (bs t)] W fun e w' => e = .returned (errV (nErr t)) ∧ w' = W) := fun W => by
    have := name_any (bs t) W (by rw [bs_size]; exact htm)
    rwa [bs_data] at this
  have HK := Lib.hid hk
  have HT := Lib.hid htm
  have HH : Hid (∀ W, Bl w W → Hnd W) := fun W h => hg.on h
  clear hk htm hg
  go_enter Tryz.func3, Tryz.ntmps3
  go_upto_region 4 with (go_at_call 4; refine cM.mono ?_; rintro e W1 ⟨an, cn, am, cm, rfl, hR, hT, hB1⟩)
  obtain ⟨W2, hW2⟩ : ∃ W2, W2 = W1.alloc (.cells #[.slice an k cn, .slice am 0 cm] 25) := ⟨_, rfl⟩
  have n5 : W2.heap[W1.heap.size]? = some (.cells #[.slice an k cn, .slice am 0 cm] 25 (0, 0)) := by rw [hW2]; exact heap_alloc_new W1 _
  have hB12 : Bl W1 W2 := by rw [hW2]; exact b_alloc (Below.refl _ _) _
  rw [← hW2]
  clear hW2
  obtain ⟨N, base, _, hNl, hN, hRow, _⟩ := hR
  have hRow' : RowPn [107] N := hRow
  have hT' : IsT W1 (.slice am 0 cm) [] := hT
  have HA := Lib.hid (And.intro hNl (And.intro hRow' (And.intro (hN.on hB12) (And.intro (hT'.on hB12) (And.intro (onK hB1 hB12) n5)))))
  clear hNl hRow hRow' hN hT hT' hB1 hB12 n5 cM
  generalize W1.heap.size = p5 at *
  go_cut [6] (fun s6 wx => s6 = .pointer (some ⟨W2.heap.size, 0, none⟩) ∧ wx = W2.alloc (.cells (csR [107] t) 38))
  case first =>
    go_wp2
    go_meet
    exact ⟨rfl, rfl⟩
  case rest =>
  obtain ⟨rfl, hwc⟩ := hcut
  have n6 : wc.heap[W2.heap.size]? = some (.cells (csR [107] t) 38 (0, 0)) := by rw [hwc]; exact heap_alloc_new W2 _
  have hB23 : Bl W2 wc := by rw [hwc]; exact b_alloc (Below.refl _ _) _
  obtain ⟨hNl, hRow, hN, hT, hBw, n5⟩ := HA.out
  have n5' := kp hB23 n5
  have HB := Lib.hid (And.intro hNl (And.intro hRow (And.intro (hN.on hB23) (And.intro (hT.on hB23) (And.intro (onK hBw hB23) (And.intro n5' n6))))))
  clear hwc n6 hB23 hNl hRow hN hT hBw n5 n5' HA
  generalize wc = W3 at *
  generalize W2.heap.size = p6 at *
  have x6 : S6 t (.slice an k cn) (.slice am 0 cm) p6 p5 W3 := ⟨HB.out.2.2.2.2.2.2, HB.out.2.2.2.2.2.1⟩
  have HG : Hid (∀ W a1 c1 a2 c2, Sc1 W [107] (.slice a1 1 c1) (.slice a2 1 c2) ∧ Bl W3 W → Calls Tryz.prog 5 #[.agg #[.slice a1 1 c1, .slice a2 1 c2], .agg (csR [107] t), .agg #[.slice an k cn, .slice am 0 cm]] W fun e w' => ∃ b1 l1 d1 b2 l2 d2, e = .returned (.tuple #[.agg #[.slice b1 l1 d1, .slice b2 l2 d2], errV (rnE [107] t)]) ∧ (nErr t = 0 → ¬ [107] = t → Rn1 w' t k (.slice b1 l1 d1) (.slice b2 l2 d2)) ∧ Bl W w') := fun W a1 c1 a2 c2 h => by
    have := ren_any (t := t) (by decide : nErr [107] = 0) HT.out h.1 (HB.out.2.2.1.on h.2) HB.out.2.1 (by have := HB.out.1; have := HK.out; omega) (HB.out.2.2.2.1.on h.2)
    rw [HB.out.1] at this
    exact this
  go_upto_region 5 with fail
  go_cut [7, 8] (fun s7 s8 wx => ∃ q b1 l1 d1 b2 l2 d2, s7 = .pointer (some ⟨q, 0, none⟩) ∧ s8 = errV (rnE [107] t) ∧ wx.heap[q]? = some (.cells #[.slice b1 l1 d1, .slice b2 l2 d2] 25 (0, 0)) ∧ (nErr t = 0 → ¬ [107] = t → Rn1 wx t k (.slice b1 l1 d1) (.slice b2 l2 d2)) ∧ Bl W3 wx)
  case first =>
    refine wp_region_held_drew (S := S6 t (.slice an k cn) (.slice am 0 cm) p6 p5) (by kernel_rfl) (S6.drew x6) (fun hHeld => ?_)
    refine takeD (i := 1) (some 28) rfl rfl (by kernel_rfl) (fun _ _ _ h => h) (yieldsIf_row (by rfl) 38 (.tmp 6) rfl p6 rfl (csR [107] t) (fun w h => run_loadVar_row w p6 38 38 (csR [107] t) (0, 0) _ h.1 Tryz.underlying38 rfl (infoC [107] t))) hHeld ?_
    go_frame
    refine takeD (i := 2) (some 29) rfl rfl (by kernel_rfl) (fun _ _ _ h => h) (yieldsIf_row (by rfl) 25 (.tmp 5) rfl p5 rfl #[.slice an k cn, .slice am 0 cm] (fun w h => run_loadVar_row w p5 25 25 #[.slice an k cn, .slice am 0 cm] (0, 0) _ h.2 Tryz.underlying25 rfl infoG)) hHeld ?_
    go_frame
    refine wpAnyH_ready (rs := [0, 7]) (by kernel_rfl) (by simp) ?_
    refine AllReadyH.cons rfl (fun K hK => ?_) ?_
    · go_simp
      go_wp2_with (go_at_call 6; refine (sim_any _).mono ?_; rintro e W4 ⟨a1, c1, a2, c2, rfl, hS4, hB4q⟩; have hb4 : Hid (Bl W3 W4) := on1K (Below.refl _ W3).drew hB4q (Nat.le_refl _); have x4 := x6.on hb4.out; have HS4 := Lib.hid hS4; clear hS4 hB4q)
      refine hK.out _ _ x4 (fun hHeld => ?_); clear hK K
      refine wpAnyH_ready (rs := [3, 7]) (by kernel_rfl) (by simp) ?_
      refine AllReadyH.cons rfl (fun K hK => ?_) ?_
      · go_simp
        go_wp2_with (go_at_call 5; refine (HG.out _ a1 c1 a2 c2 ⟨HS4.out, hb4.out⟩).mono ?_; rintro e W5 ⟨b1, l1, d1, b2, l2, d2, rfl, hy5, hB5q⟩; have hb5 := Lib.hid (onK hb4.out hB5q); have HY5 := Lib.hid hy5; have x5 := x6.on hb5.out; clear hy5 hB5q)
        refine hK.out _ _ x5 (fun hHeld => ?_); clear hK K
        refine takeD (i := 4) (v := ?_) (some 26) rfl rfl (by kernel_rfl) (fun _ _ _ h => h) (Or.inl ⟨by rfl, ?_⟩) hHeld ?_; rotate_left
        · intro w hSw; go_simp; try with_reducible rfl
        go_frame
        refine takeD (i := 5) (v := ?_) (some 31) rfl rfl (by kernel_rfl) (fun _ _ _ h => h) (Or.inl ⟨by rfl, ?_⟩) hHeld ?_; rotate_left
        · intro w hSw; go_simp; try with_reducible rfl
        go_frame
        refine takeD (i := 6) (v := ?_) (some 32) rfl rfl (by kernel_rfl) (fun _ _ _ h => h) (Or.inl ⟨by rfl, ?_⟩) hHeld ?_; rotate_left
        · intro w hSw; go_simp; try with_reducible rfl
        go_frame
        refine ready1 (i := 7) (by kernel_rfl) rfl (fun K hK => ?_); go_simp
        refine hK.out _ _ (S6.alloc hHeld _) (fun hHeld => ?_); clear hK K
        refine ready1 (i := 8) (by kernel_rfl) rfl (fun K hK => ?_); go_simp
        refine hK.out _ _ (S6.alloc x5 _) (fun hHeld => ?_); clear hK K
        refine takeD (i := 9) (v := ?_) (some 8) rfl rfl (by kernel_rfl) (fun _ _ _ h => h) (Or.inl ⟨by rfl, ?_⟩) hHeld ?_; rotate_left
        · intro w hSw; go_simp; try with_reducible rfl
        go_frame
        refine wpAnyH_done (by kernel_rfl) ?_ _
        as_aux_lemma =>
        go_wp2
        go_meet
        exact ⟨_, _, _, _, _, _, _, rfl, rfl, heap_alloc_new W5 _, fun h1 h2 => (HY5.out h1 h2).on (b_alloc (Below.refl _ _) _), b_alloc hb5.out _⟩
      refine AllReadyH.cons rfl (fun K hK => ?_) ?_
      · go_simp
        refine hK.out _ _ (S6.alloc hHeld _) (fun hHeld => ?_); clear hK K
        refine ready1 (i := 3) (by kernel_rfl) rfl (fun K hK => ?_); go_simp
        go_wp2_with (go_at_call 5; have hbz := b_alloc (Below.refl _ W4) (.cells #[.slice none 0 0, .slice none 0 0] 25); refine (HG.out _ a1 c1 a2 c2 ⟨HS4.out.on hbz, onK hb4.out hbz⟩).mono ?_; rintro e W5 ⟨b1, l1, d1, b2, l2, d2, rfl, hy5, hB5q⟩; have hb5 := Lib.hid (onK (onK hb4.out hbz) hB5q); have kc := (hB5q.block _ (by simp)).trans (heap_alloc_new W4 (.cells #[.slice none 0 0, .slice none 0 0] 25)); obtain ⟨⟨yk0, yk1⟩, fk0, fk1⟩ := zero2 kc; replace kc := Lib.hid kc; have HY5 := Lib.hid hy5; have x5 := x6.on hb5.out; clear hy5 hB5q hbz)
        refine hK.out _ _ x5 (fun hHeld => ?_); clear hK K
        refine takeD (i := 4) (v := ?_) (some 26) rfl rfl (by kernel_rfl) (fun _ _ _ h => h) (Or.inl ⟨by rfl, ?_⟩) hHeld ?_; rotate_left
        · intro w hSw; go_simp; try with_reducible rfl
        go_frame
        refine takeD (i := 5) (v := ?_) (some 31) rfl rfl (by kernel_rfl) (fun _ _ _ h => h) (Or.inl ⟨by rfl, ?_⟩) hHeld ?_; rotate_left
        · intro w hSw; go_simp; try with_reducible rfl
        go_frame
        refine takeD (i := 6) (v := ?_) (some 32) rfl rfl (by kernel_rfl) (fun _ _ _ h => h) (Or.inl ⟨by rfl, ?_⟩) hHeld ?_; rotate_left
        · intro w hSw; go_simp; try with_reducible rfl
        go_frame
        refine ready1 (i := 8) (by kernel_rfl) rfl (fun K hK => ?_); go_simp
        refine hK.out _ _ (S6.set2 x5 (x4.ne (Nat.le_refl _)) _ _) (fun hHeld => ?_); clear hK K
        refine takeD (i := 9) (v := ?_) (some 8) rfl rfl (by kernel_rfl) (fun _ _ _ h => h) (Or.inl ⟨by rfl, ?_⟩) hHeld ?_; rotate_left
        · intro w hSw; go_simp; try with_reducible rfl
        go_frame
        refine wpAnyH_done (by kernel_rfl) ?_ _
        as_aux_lemma =>
        go_wp2
        go_meet
        exact ⟨_, _, _, _, _, _, _, rfl, rfl, set2_heap kc.out _ _, fun h1 h2 => (HY5.out h1 h2).st2 kc.out _ _, set2_below hb5.out hb4.out.size _ _⟩
      exact AllReadyH.nil
    refine AllReadyH.cons rfl (fun K hK => ?_) ?_
    · go_simp
      refine hK.out _ _ (S6.alloc hHeld _) (fun hHeld => ?_); clear hK K
      refine ready1 (i := 0) (by kernel_rfl) rfl (fun K hK => ?_); go_simp
      go_wp2_with (go_at_call 6; refine (sim_any _).mono ?_; rintro e W4 ⟨a1, c1, a2, c2, rfl, hS4, hB4q⟩; have hb4 : Hid (Bl W3 W4) := onK (b_alloc (Below.refl _ W3).drew _) hB4q; have x4 := x6.on hb4.out; have kb := Lib.hid ((hB4q.block _ (by simp)).trans (heap_alloc_new W3.drew (.cells #[.slice none 0 0, .slice none 0 0] 25))); have HS4 := Lib.hid hS4; clear hS4 hB4q)
      refine hK.out _ _ x4 (fun hHeld => ?_); clear hK K
      refine ready1 (i := 3) (by kernel_rfl) rfl (fun K hK => ?_); go_simp
      go_wp2_with (go_at_call 5; refine (HG.out _ a1 c1 a2 c2 ⟨HS4.out, hb4.out⟩).mono ?_; rintro e W5 ⟨b1, l1, d1, b2, l2, d2, rfl, hy5, hB5q⟩; have hb5 := Lib.hid (onK hb4.out hB5q); have kc : W5.heap[W3.heap.size]? = _ := kp hB5q kb.out; obtain ⟨⟨yk0, yk1⟩, fk0, fk1⟩ := zero2 kc; replace kc := Lib.hid kc; have HY5 := Lib.hid hy5; have x5 := x6.on hb5.out; clear hy5 hB5q)
      refine hK.out _ _ x5 (fun hHeld => ?_); clear hK K
      refine takeD (i := 4) (v := ?_) (some 26) rfl rfl (by kernel_rfl) (fun _ _ _ h => h) (Or.inl ⟨by rfl, ?_⟩) hHeld ?_; rotate_left
      · intro w hSw; go_simp; try with_reducible rfl
      go_frame
      refine takeD (i := 5) (v := ?_) (some 31) rfl rfl (by kernel_rfl) (fun _ _ _ h => h) (Or.inl ⟨by rfl, ?_⟩) hHeld ?_; rotate_left
      · intro w hSw; go_simp; try with_reducible rfl
      go_frame
      refine takeD (i := 6) (v := ?_) (some 32) rfl rfl (by kernel_rfl) (fun _ _ _ h => h) (Or.inl ⟨by rfl, ?_⟩) hHeld ?_; rotate_left
      · intro w hSw; go_simp; try with_reducible rfl
      go_frame
      refine ready1 (i := 8) (by kernel_rfl) rfl (fun K hK => ?_); go_simp
      refine hK.out _ _ (S6.set2 x5 (x6.ne (Nat.le_refl _)) _ _) (fun hHeld => ?_); clear hK K
      refine takeD (i := 9) (v := ?_) (some 8) rfl rfl (by kernel_rfl) (fun _ _ _ h => h) (Or.inl ⟨by rfl, ?_⟩) hHeld ?_; rotate_left
      · intro w hSw; go_simp; try with_reducible rfl
      go_frame
      refine wpAnyH_done (by kernel_rfl) ?_ _
      as_aux_lemma =>
      go_wp2
      go_meet
      exact ⟨_, _, _, _, _, _, _, rfl, rfl, set2_heap kc.out _ _, fun h1 h2 => (HY5.out h1 h2).st2 kc.out _ _, set2_below hb5.out (Nat.le_refl _) _ _⟩
    exact AllReadyH.nil
  case rest =>
  obtain ⟨q7, b1, l1, d1, b2, l2, d2, rfl, hs8, h7, hy, hBX⟩ := hcut
  have HY := Lib.hid (And.intro h7 (And.intro hy hBX))
  have HBw : Hid (Bl w wc) := onK HB.out.2.2.2.2.1 hBX
  have x7 := x6.on hBX
  clear h7 hy hBX x6 HG
  generalize wc = WA at *
  have cNm := HNm.out WA
  clear HNm
  by_cases h0 : nErr t = 0
  · rw [h0, errV_0] at cNm
    by_cases hk : [107] = t
    · have er : rnE [107] t = 7 := by unfold rnE; rw [if_pos h0, if_pos hk]
      rw [er, errV_ne (by decide)] at hs8
      subst hs8
      have hks : bs t = ⟨#[107]⟩ := by rw [← hk]; rfl
      rw [hks] at cNm
      have cE := error_any 7 WA (HH.out WA HBw.out)
      rw [errV_ne (by decide)] at cE
      clear er HY x7 HB HK HT hk h0 HH
      go_wp2_with (first | (go_at_call 7; refine cNm.mono ?_; rintro e W6 ⟨rfl, rfl⟩) | (go_at_call 8; refine cE.mono ?_; rintro e W7 ⟨rfl, hB7⟩))
      go_ret
      exact ⟨rfl, onK HBw.out hB7⟩
    · have er : rnE [107] t = 0 := by unfold rnE; rw [if_pos h0, if_neg hk]
      rw [er, errV_0] at hs8
      subst hs8
      obtain ⟨ql1, ql2⟩ := (HY.out.2.1 h0 hk).len
      obtain rfl : k = l1 := ql1.symm
      obtain rfl : 0 = l2 := ql2.symm
      have hkt : ¬ t = [107] := fun e => hk e.symm
      have hkb : (t == [107]) = false := by simpa using hkt
      have H0 := Lib.hid (And.intro h0 hk)
      have hYr := HY.out.2.1 h0 hk
      have HYr := Lib.hid (And.intro hYr HY.out.2.2)
      have H7 := Lib.hid HY.out.1
      have x6 := x7
      clear er hk h0 hYr HY HH x7
      have HD : Hid (∀ W a1 c1 a2 c2, Sc1 W [107] (.slice a1 1 c1) (.slice a2 1 c2) ∧ Bl WA W → Calls Tryz.prog 9 #[.agg #[.slice a1 1 c1, .slice a2 1 c2], .agg (csR [107] t)] W fun e w' => ∃ b1 d1 b2 d2, e = .returned (.tuple #[.agg #[.slice b1 1 d1, .slice b2 1 d2], .nilIface]) ∧ Sc2 w' t (.slice b1 1 d1) (.slice b2 1 d2) ∧ Bl W w') := fun W a1 c1 a2 c2 h => chd_any (by decide : nErr [107] = 0) H0.out.1 H0.out.2 h.1
      go_upto_region 10 with (go_at_call 7; refine cNm.mono ?_; rintro e WA ⟨rfl, rfl⟩)
      go_cut [9, 10] (fun s9 s10 wx => ∃ q b1 d1 b2 d2, s9 = .pointer (some ⟨q, 0, none⟩) ∧ s10 = .nilIface ∧ wx.heap[q]? = some (.cells #[.slice b1 1 d1, .slice b2 1 d2] 46 (0, 0)) ∧ Sc2 wx t (.slice b1 1 d1) (.slice b2 1 d2) ∧ Bl WA wx)
      case first =>
        refine wp_region_held_drew (S := S6 t (.slice an k cn) (.slice am 0 cm) p6 p5) (by kernel_rfl) (S6.drew x6) (fun hHeld => ?_)
        refine takeD (i := 1) (some 44) rfl rfl (by kernel_rfl) (fun _ _ _ h => h) (yieldsIf_row (by rfl) 38 (.tmp 6) rfl p6 rfl (csR [107] t) (fun w h => run_loadVar_row w p6 38 38 (csR [107] t) (0, 0) _ h.1 Tryz.underlying38 rfl (infoC [107] t))) hHeld ?_
        go_frame
        refine wpAnyH_ready (rs := [0, 6]) (by kernel_rfl) (by simp) ?_
        refine AllReadyH.cons rfl (fun K hK => ?_) ?_
        · go_simp
          go_wp2_with (go_at_call 6; refine (sim_any _).mono ?_; rintro e W4 ⟨a1, c1, a2, c2, rfl, hS4, hB4q⟩; have hb4 : Hid (Bl WA W4) := on1K (Below.refl _ WA).drew hB4q (Nat.le_refl _); have x4 := x6.on hb4.out; have HS4 := Lib.hid hS4; clear hS4 hB4q)
          refine hK.out _ _ x4 (fun hHeld => ?_); clear hK K
          refine wpAnyH_ready (rs := [2, 6]) (by kernel_rfl) (by simp) ?_
          refine AllReadyH.cons rfl (fun K hK => ?_) ?_
          · go_simp
            go_wp2_with (go_at_call 9; refine (HD.out _ a1 c1 a2 c2 ⟨HS4.out, hb4.out⟩).mono ?_; rintro e W5 ⟨b3, d3, b4, d4, rfl, hy5, hB5q⟩; have hb5 := Lib.hid (onK hb4.out hB5q); have HY5 := Lib.hid hy5; have x5 := x6.on hb5.out; clear hy5 hB5q)
            refine hK.out _ _ x5 (fun hHeld => ?_); clear hK K
            refine takeD (i := 3) (v := ?_) (some 42) rfl rfl (by kernel_rfl) (fun _ _ _ h => h) (Or.inl ⟨by rfl, ?_⟩) hHeld ?_; rotate_left
            · intro w hSw; go_simp; try with_reducible rfl
            go_frame
            refine takeD (i := 4) (v := ?_) (some 46) rfl rfl (by kernel_rfl) (fun _ _ _ h => h) (Or.inl ⟨by rfl, ?_⟩) hHeld ?_; rotate_left
            · intro w hSw; go_simp; try with_reducible rfl
            go_frame
            refine takeD (i := 5) (v := ?_) (some 47) rfl rfl (by kernel_rfl) (fun _ _ _ h => h) (Or.inl ⟨by rfl, ?_⟩) hHeld ?_; rotate_left
            · intro w hSw; go_simp; try with_reducible rfl
            go_frame
            refine ready1 (i := 6) (by kernel_rfl) rfl (fun K hK => ?_); go_simp
            refine hK.out _ _ (S6.alloc hHeld _) (fun hHeld => ?_); clear hK K
            refine ready1 (i := 7) (by kernel_rfl) rfl (fun K hK => ?_); go_simp
            refine hK.out _ _ (S6.alloc x5 _) (fun hHeld => ?_); clear hK K
            refine takeD (i := 8) (v := ?_) (some 10) rfl rfl (by kernel_rfl) (fun _ _ _ h => h) (Or.inl ⟨by rfl, ?_⟩) hHeld ?_; rotate_left
            · intro w hSw; go_simp; try with_reducible rfl
            go_frame
            refine wpAnyH_done (by kernel_rfl) ?_ _
            as_aux_lemma =>
            go_wp2
            go_meet
            exact ⟨_, _, _, _, _, rfl, rfl, heap_alloc_new W5 _, HY5.out.on (b_alloc (Below.refl _ _) _), b_alloc hb5.out _⟩
          refine AllReadyH.cons rfl (fun K hK => ?_) ?_
          · go_simp
            refine hK.out _ _ (S6.alloc hHeld _) (fun hHeld => ?_); clear hK K
            refine ready1 (i := 2) (by kernel_rfl) rfl (fun K hK => ?_); go_simp
            go_wp2_with (go_at_call 9; have hbz := b_alloc (Below.refl _ W4) (.cells #[.slice none 0 0, .slice none 0 0] 46); refine (HD.out _ a1 c1 a2 c2 ⟨HS4.out.on hbz, onK hb4.out hbz⟩).mono ?_; rintro e W5 ⟨b3, d3, b4, d4, rfl, hy5, hB5q⟩; have hb5 := Lib.hid (onK (onK hb4.out hbz) hB5q); have kc := (hB5q.block _ (by simp)).trans (heap_alloc_new W4 (.cells #[.slice none 0 0, .slice none 0 0] 46)); obtain ⟨⟨yk0, yk1⟩, fk0, fk1⟩ := zero2 kc; replace kc := Lib.hid kc; have HY5 := Lib.hid hy5; have x5 := x6.on hb5.out; clear hy5 hB5q hbz)
            refine hK.out _ _ x5 (fun hHeld => ?_); clear hK K
            refine takeD (i := 3) (v := ?_) (some 42) rfl rfl (by kernel_rfl) (fun _ _ _ h => h) (Or.inl ⟨by rfl, ?_⟩) hHeld ?_; rotate_left
            · intro w hSw; go_simp; try with_reducible rfl
            go_frame
            refine takeD (i := 4) (v := ?_) (some 46) rfl rfl (by kernel_rfl) (fun _ _ _ h => h) (Or.inl ⟨by rfl, ?_⟩) hHeld ?_; rotate_left
            · intro w hSw; go_simp; try with_reducible rfl
            go_frame
            refine takeD (i := 5) (v := ?_) (some 47) rfl rfl (by kernel_rfl) (fun _ _ _ h => h) (Or.inl ⟨by rfl, ?_⟩) hHeld ?_; rotate_left
            · intro w hSw; go_simp; try with_reducible rfl
            go_frame
            refine ready1 (i := 7) (by kernel_rfl) rfl (fun K hK => ?_); go_simp
            refine hK.out _ _ (S6.set2 x5 (x4.ne (Nat.le_refl _)) _ _) (fun hHeld => ?_); clear hK K
            refine takeD (i := 8) (v := ?_) (some 10) rfl rfl (by kernel_rfl) (fun _ _ _ h => h) (Or.inl ⟨by rfl, ?_⟩) hHeld ?_; rotate_left
            · intro w hSw; go_simp; try with_reducible rfl
            go_frame
            refine wpAnyH_done (by kernel_rfl) ?_ _
            as_aux_lemma =>
            go_wp2
            go_meet
            exact ⟨_, _, _, _, _, rfl, rfl, set2_heap kc.out _ _, HY5.out.st2 kc.out _ _, set2_below hb5.out hb4.out.size _ _⟩
          exact AllReadyH.nil
        refine AllReadyH.cons rfl (fun K hK => ?_) ?_
        · go_simp
          refine hK.out _ _ (S6.alloc hHeld _) (fun hHeld => ?_); clear hK K
          refine ready1 (i := 0) (by kernel_rfl) rfl (fun K hK => ?_); go_simp
          go_wp2_with (go_at_call 6; refine (sim_any _).mono ?_; rintro e W4 ⟨a1, c1, a2, c2, rfl, hS4, hB4q⟩; have hb4 : Hid (Bl WA W4) := onK (b_alloc (Below.refl _ WA).drew _) hB4q; have x4 := x6.on hb4.out; have kb := Lib.hid ((hB4q.block _ (by simp)).trans (heap_alloc_new WA.drew (.cells #[.slice none 0 0, .slice none 0 0] 46))); have HS4 := Lib.hid hS4; clear hS4 hB4q)
          refine hK.out _ _ x4 (fun hHeld => ?_); clear hK K
          refine ready1 (i := 2) (by kernel_rfl) rfl (fun K hK => ?_); go_simp
          go_wp2_with (go_at_call 9; refine (HD.out _ a1 c1 a2 c2 ⟨HS4.out, hb4.out⟩).mono ?_; rintro e W5 ⟨b3, d3, b4, d4, rfl, hy5, hB5q⟩; have hb5 := Lib.hid (onK hb4.out hB5q); have kc : W5.heap[WA.heap.size]? = _ := kp hB5q kb.out; obtain ⟨⟨yk0, yk1⟩, fk0, fk1⟩ := zero2 kc; replace kc := Lib.hid kc; have HY5 := Lib.hid hy5; have x5 := x6.on hb5.out; clear hy5 hB5q)
          refine hK.out _ _ x5 (fun hHeld => ?_); clear hK K
          refine takeD (i := 3) (v := ?_) (some 42) rfl rfl (by kernel_rfl) (fun _ _ _ h => h) (Or.inl ⟨by rfl, ?_⟩) hHeld ?_; rotate_left
          · intro w hSw; go_simp; try with_reducible rfl
          go_frame
          refine takeD (i := 4) (v := ?_) (some 46) rfl rfl (by kernel_rfl) (fun _ _ _ h => h) (Or.inl ⟨by rfl, ?_⟩) hHeld ?_; rotate_left
          · intro w hSw; go_simp; try with_reducible rfl
          go_frame
          refine takeD (i := 5) (v := ?_) (some 47) rfl rfl (by kernel_rfl) (fun _ _ _ h => h) (Or.inl ⟨by rfl, ?_⟩) hHeld ?_; rotate_left
          · intro w hSw; go_simp; try with_reducible rfl
          go_frame
          refine ready1 (i := 7) (by kernel_rfl) rfl (fun K hK => ?_); go_simp
          refine hK.out _ _ (S6.set2 x5 (x6.ne (Nat.le_refl _)) _ _) (fun hHeld => ?_); clear hK K
          refine takeD (i := 8) (v := ?_) (some 10) rfl rfl (by kernel_rfl) (fun _ _ _ h => h) (Or.inl ⟨by rfl, ?_⟩) hHeld ?_; rotate_left
          · intro w hSw; go_simp; try with_reducible rfl
          go_frame
          refine wpAnyH_done (by kernel_rfl) ?_ _
          as_aux_lemma =>
          go_wp2
          go_meet
          exact ⟨_, _, _, _, _, rfl, rfl, set2_heap kc.out _ _, HY5.out.st2 kc.out _ _, set2_below hb5.out (Nat.le_refl _) _ _⟩
        exact AllReadyH.nil
      case rest =>
      obtain ⟨q9, e1, f1, e2, f2, rfl, rfl, h9, hS9, hB9⟩ := hcut
      obtain ⟨hNl, hRow, hN, hT, hBw0, n5, n6⟩ := HB.out
      have hB39 := onK HYr.out.2 hB9
      have h5 := kp hB39 n5
      have h7 := kp hB9 H7.out
      obtain ⟨base7, X, hXl, hXr, hX1, hX2⟩ := HYr.out.1.on hB9
      have iX := hX1.isN
      have iXT : IsT wc (.slice b2 0 d2) [] := hX2.isT
      have hk50 := HK.out
      have HR : Hid (∀ W, Bl wc W → Calls Tryz.prog 5 #[.agg #[.slice e1 1 f1, .slice e2 1 f2], .agg (csR t [107]), .agg #[.slice b1 k d1, .slice b2 0 d2]] W fun e w' => ∃ x1 y1 x2 y2, e = .returned (.tuple #[.agg #[.slice x1 k y1, .slice x2 0 y2], .nilIface]) ∧ Rn1 w' [107] k (.slice x1 k y1) (.slice x2 0 y2) ∧ Bl W w') := fun W h => by
        have hc := ren_any (o := t) (t := [107]) H0.out.1 max1 (hS9.sc.on h) (iX.on h) hXr (by omega) (iXT.on h)
        refine Calls.mono hc ?_
        rintro e w' ⟨x1, m1, y1, x2, m2, y2, he, hy, hB⟩
        have er : rnE t [107] = 0 := by unfold rnE; rw [if_pos (by decide), if_neg (fun e => H0.out.2 e.symm)]
        have hr := hy (by decide) (fun e => H0.out.2 e.symm)
        rw [hXl] at hr
        obtain ⟨q1, q2⟩ := hr.len
        subst q1 q2
        rw [er, errV_0] at he
        exact ⟨x1, y1, x2, y2, he, hr, hB⟩
      have HS : Hid (∀ W x1 y1 x2 y2, Bl wc W → Rn1 W [107] k (.slice x1 k y1) (.slice x2 0 y2) → Calls Tryz.prog 11 #[.agg #[.slice x1 k y1, .slice x2 0 y2], .agg #[.slice an k cn, .slice am 0 cm]] W fun e w' => e = .returned (.bool true) ∧ Bl W w') := fun W x1 y1 x2 y2 h hr => by
        obtain ⟨b, Y, hYl, hYr, hY1, hY2⟩ := hr
        have h' := onK hB39 h
        exact sam_any hY1.isN hY2.isT (hN.on h') (hT.on h') hYr hRow (hYl.trans hNl.symm) (by rw [hYl]; omega)
      have HX : Hid (k = 0 ∨ ∃ b off, b1 = some ⟨b, off, none⟩ ∧ ∀ W, Bl wc W → ∀ j, j < k → ∃ ao cp, W.cell? ⟨b, off + j * 3 + 2, none⟩ = some (.slice ao 1 cp) ∧ IsR W (.slice ao 1 cp) [prN t ((j : Int) + 1)]) := by
        obtain ⟨ao, cp, e, _, hnil | ⟨b, off, eb, hb, hL⟩⟩ := iX
        · refine .inl ?_
          rw [← hXl, hnil]
          rfl
        · injection e with q1 _ _
          refine .inr ⟨b, off, q1.trans eb, fun W h j hj => ?_⟩
          obtain ⟨v, hv, hR⟩ := row_at (hL.on hb h) hXr (show j < List.length X by omega)
          obtain ⟨ao, cp, rfl, hR2⟩ := hR
          exact ⟨ao, cp, hv, ao, cp, rfl, hR2⟩
      have HW : Hid (∀ W, Bl wc W → (W.cell? ⟨p5, 0, none⟩ = some (.slice an k cn) ∧ W.cell? ⟨p5, 1, none⟩ = some (.slice am 0 cm)) ∧ (W.cell? ⟨q7, 0, none⟩ = some (.slice b1 k d1) ∧ W.cell? ⟨q7, 1, none⟩ = some (.slice b2 0 d2)) ∧ W.cell? ⟨q9, 0, none⟩ = some (.slice e1 1 f1) ∧ W.cell? ⟨q9, 1, none⟩ = some (.slice e2 1 f2)) := fun W h => by
        have k1 := kp h h5
        have k2 := kp h h7
        have k3 := kp h h9
        exact ⟨⟨cell_at k1 rfl, cell_at k1 rfl⟩, ⟨cell_at k2 rfl, cell_at k2 rfl⟩, cell_at k3 rfl, cell_at k3 rfl⟩
      have HBz : Hid (Bl w wc) := onK hBw0 hB39
      clear hNl hRow hN hT hBw0 n5 n6 hB39 h5 h7 hXl hXr hX1 hX2 iX iXT hk50 h9 hS9 hB9 x6 HD HB HYr H7 HBw
      generalize wc = WC at *
      obtain ⟨⟨r0, r1⟩, ⟨t0, t1⟩, u0, u1⟩ := HW.out WC (Below.refl _ _)
      go_wp2_with fail
      go_loopw [11] (fun s wr => ∃ j : Nat, s = .int .i64 j ∧ j ≤ k ∧ Bl WC wr) (fun s _ => k - (intOf s).toNat)
      case atStart => exact ⟨0, rfl, Nat.zero_le _, Below.refl _ _⟩
      case round =>
        obtain ⟨j, rfl, hj, hBr⟩ := hrel
        have HBr := Lib.hid hBr
        clear r0 r1 t0 t1 u0 u1
        obtain ⟨⟨r0, r1⟩, ⟨t0, t1⟩, u0, u1⟩ := HW.out wr hBr
        clear hBr
        by_cases hlt : j < k
        · have hlti : (j : Int) < (k : Int) := by omega
          have hk50 := HK.out
          rcases HX.out with h | ⟨b, off, rfl, hx⟩
          · omega
          obtain ⟨ao, cp, hv, hR⟩ := hx wr HBr.out j hlt
          have cG := got_any H0.out.1 (by omega) (by omega) hR
          have hj0 : (0 : Int) ≤ (j : Int) := by omega
          have hwj : IntKind.i64.wrap ((j : Int) + 1) = (j : Int) + 1 := by rw [IntKind.wrap_i64]; omega
          have HXx := Lib.hid hx
          clear hR hx HX hk50
          go_upto_region 17 with (go_at_call 10; refine cG.mono ?_; rintro e W8 ⟨rfl, hB8⟩)
          obtain ⟨W9, hW9⟩ : ∃ W9, W9 = W8.alloc (.cells #[.int .i64 1, .int .i64 ((j : Int) + 1), .string ⟨#[]⟩] 36) := ⟨_, rfl⟩
          have k1 : W9.cell? ⟨W8.heap.size, 1, none⟩ = some (.int .i64 ((j : Int) + 1)) := by rw [hW9]; exact cell_at (heap_alloc_new W8 _) rfl
          have hB89 : Bl W8 W9 := by rw [hW9]; exact b_alloc (Below.refl _ _) _
          have hB9 := onK HBr.out (onK hB8 hB89)
          rw [← hW9]
          have hv9 := ((onK hB8 hB89).cell (p := ⟨b, off + j * 3 + 2, none⟩) (cell_lt hv)).trans hv
          clear hv r0 r1 t0 t1 u0 u1 cG hW9 hB8 hB89
          obtain ⟨⟨r0, r1⟩, ⟨t0, t1⟩, u0, u1⟩ := HW.out W9 hB9
          have HB9 := Lib.hid hB9
          clear hB9
          generalize W8.heap.size = q12 at *
          go_wp2
          refine ⟨⟨j + 1, ?_, hlt, HB9.out⟩, ?_⟩
          · go_num
          · simp [intOf]
            omega
        · obtain rfl : k = j := by omega
          have cR := HR.out wr HBr.out
          go_upto_region 20 with (go_at_call 5; refine cR.mono ?_; rintro e W10 ⟨x1, y1, x2, y2, rfl, hr, hB10⟩; have HQ := Lib.hid hr; clear hr)
          obtain ⟨W11, hW11⟩ : ∃ W11, W11 = W10.alloc (.cells #[.slice x1 k y1, .slice x2 0 y2] 25) := ⟨_, rfl⟩
          have hB101 : Bl W10 W11 := by rw [hW11]; exact b_alloc (Below.refl _ _) _
          have n14 : W11.heap[W10.heap.size]? = some (.cells #[.slice x1 k y1, .slice x2 0 y2] 25 (0, 0)) := by rw [hW11]; exact heap_alloc_new W10 _
          rw [← hW11]
          have k0 : W11.cell? ⟨W10.heap.size, 0, none⟩ = some (.slice x1 k y1) := cell_at n14 rfl
          have k1 : W11.cell? ⟨W10.heap.size, 1, none⟩ = some (.slice x2 0 y2) := cell_at n14 rfl
          have hBz := onK HBr.out (onK hB10 hB101)
          have cS := HS.out W11 x1 y1 x2 y2 hBz (HQ.out.on hB101)
          clear r0 r1 t0 t1 u0 u1 cR hW11 hB10 hB101 n14
          obtain ⟨⟨r0, r1⟩, ⟨t0, t1⟩, u0, u1⟩ := HW.out W11 hBz
          have HBe : Hid (Bl w W11) := onK HBz.out hBz
          clear hBz
          generalize W10.heap.size = q14 at *
          go_wp2_with (go_at_call 11; refine cS.mono ?_; rintro e W12 ⟨rfl, hB12⟩)
          go_ret
          exact ⟨rfl, onK HBe.out hB12⟩
  · have e2 := nErr_two h0
    rw [e2, errV_ne (by decide)] at cNm
    have er : rnE [107] t = 2 := by unfold rnE; rw [if_neg h0]
    rw [er, errV_ne (by decide)] at hs8
    subst hs8
    have cE := error_any 2 WA (HH.out WA HBw.out)
    rw [errV_ne (by decide)] at cE
    clear er HY x7 HB HK HT e2 h0 HH
    go_wp2_with (first | (go_at_call 7; refine cNm.mono ?_; rintro e W6 ⟨rfl, rfl⟩) | (go_at_call 8; refine cE.mono ?_; rintro e W7 ⟨rfl, hB7⟩))
    go_ret
    exact ⟨rfl, onK HBw.out hB7⟩
end Go.Proofs.YtpmblbhemcippaaGreatDoor
