import Derived.Test.YtahamkajkkkjdaaGreatDoorM36
import Derived.Test.YtahamkajkkkjdaaGreatDoorM10
import Derived.Test.YtahamkajkkkjdaaGreatDoorM03
import Derived.Test.YtahamkajkkkjdaaGreatDoorM35
import Derived.Test.YtahamkajkkkjdaaGreatDoorM01
namespace Go.Proofs.YtahamkajkkkjdaaGreatDoor
open Go.RowKit
set_option linter.unusedVariables false
set_option linter.unusedSimpArgs false
def Sm (L : List Kd) (B : List Bd) : Prop := L.length ≤ 1000 ∧ B.length ≤ 1000 ∧ ∀ k ∈ L, k.of.length ≤ 1000 ∧ k.fs.length ≤ 1000
theorem Sm.kq {L L' : List Kd} {B : List Bd} (h : Sm L B) (e : L'.map kq3 = L.map kq3) : Sm L' B := by
  obtain ⟨h1, h2, h3⟩ := h
  have hl : L'.length = L.length := by have := congrArg List.length e; simpa using this
  refine ⟨by omega, h2, fun k hk => ?_⟩
  have : kq3 k ∈ L.map kq3 := by rw [← e]; exact List.mem_map.2 ⟨k, hk, rfl⟩
  obtain ⟨k', hk', e'⟩ := List.mem_map.1 this
  have e1 : k'.of = k.of := congrArg (·.2.1) e'
  have e2 : k'.fs = k.fs := congrArg (·.2.2) e'
  rw [← e1, ← e2]
  exact h3 k' hk'
def newS (L : List Kd) (B : List Bd) : Lg := ⟨L, B, L, B, [], [], [], 0, -1, false⟩
theorem info34 : (Tryz.prog.info? 34).map (fun i => i.size) = some 2 := by kernel_rfl
theorem gr_nil (w : World) (base : Nat) : GrAt w base (.slice none 0 0) (.slice none 0 0) [] [] :=
  ⟨[], rfl, ⟨World.ownsRow_nil w _ _ _, fun n hn => by cases hn⟩, World.ownsRow_nil w _ _ _, by decide⟩
set_option maxHeartbeats 8000000 in
set_option maxRecDepth 100000 in
theorem newlog_at {w : World} {base : Nat} {vk vb : Value} {L : List Kd} {B : List Bd} (h : IsSc w (.agg #[vk, vb]) L B) (hs : (sErr L B).2 = 0) (hm : Sm L B) (hb : base ≤ w.heap.size) :
    Calls Tryz.prog 4 #[.agg #[vk, vb]] w fun e w' => ∃ q, e = .returned (.tuple #[.pointer (some ⟨q, 0, none⟩), .nilIface]) ∧ LgAt w' base q (newS L B) ∧ FrL base w w' := by
  obtain ⟨vk', vb', e1, hK, hP, hz, hB, hzb⟩ := id h
  injection e1 with e1
  simp only [Array.mk.injEq, List.cons.injEq, and_true] at e1
  obtain ⟨rfl, rfl⟩ := e1
  obtain ⟨w1, hw1⟩ : ∃ w1, w1 = w.alloc (.cells #[vk, vb] 34) := ⟨_, rfl⟩
  have hB1 : Below w.heap.size w w1 := by rw [hw1]; exact bA (Below.refl _ _) (Nat.le_refl _) _
  have k0 : w1.heap[w.heap.size]? = some (.cells #[vk, vb] 34 (0, 0)) := by rw [hw1]; exact heap_alloc_new w _
  have c1 := scheck_any (hK.on hB1) (hP.on hB1) hz (hB.on hB1) hzb
  rw [hs, errV_0] at c1
  have c2 : Hid (∀ W, Below w1.heap.size w1 W → Calls Tryz.prog 13 #[.agg #[vk, vb]] W fun e w' => ∃ a n c a' n' c', e = .returned (.agg #[.slice a n c, .slice a' n' c']) ∧ ScAt w' W.heap.size (.slice a n c) (.slice a' n' c') L B ∧ Below W.heap.size W w') := fun W hW => by
    have hWw := hB1.trans (hW.mono hB1.size)
    refine (scopy_any (hK.on hWw) (hP.on hWw) (hB.on hWw) hm.1 hm.2.1 hm.2.2).mono ?_
    rintro e w' ⟨uk, ub, M, rfl, q1, q2, q3, q4⟩
    obtain ⟨a, c, rfl⟩ := own_slice q2.1
    obtain ⟨a', c', rfl⟩ := own_slice q3
    exact ⟨a, _, c, a', _, c', rfl, ⟨M, q1, q2, q3⟩, q4⟩
  have HK : Hid (∀ W, Below w1.heap.size w1 W → W.cell? ⟨w.heap.size, 0, none⟩ = some vk ∧ W.cell? ⟨w.heap.size, 1, none⟩ = some vb) := fun W hW => by
    have hz1 : w.heap.size < w1.heap.size := by rw [hw1]; simp
    have := (hW.block _ hz1).trans k0
    exact ⟨cell_at this rfl, cell_at this rfl⟩
  have y0 : w1.cell? ⟨w.heap.size, 0, none⟩ = some vk := cell_at k0 rfl
  have y1 : w1.cell? ⟨w.heap.size, 1, none⟩ = some vb := cell_at k0 rfl
  have HB1 := Lib.hid hB1
  clear h hK hP hz hB hzb hs hm k0 hB1
  subst hw1
  go_enter Tryz.func4, Tryz.ntmps4
  go_wp2_with (first
    | (go_at_call 12; refine c1.mono ?_; rintro e W1 ⟨rfl, hb1⟩; obtain ⟨z0, z1⟩ := HK.out W1 hb1; have c2' := c2.out W1 hb1; have HW1 := Lib.hid hb1; clear hb1)
    | (go_at_call 13; refine c2'.mono ?_; rintro e W2 ⟨a, n, c, a', n', c', rfl, hsc, hb2⟩; have HW2 := Lib.hid (And.intro hsc hb2); clear hsc hb2)
    | fail)
  go_ret2
  obtain ⟨hsc, hb2⟩ := HW2.out
  have hb0 : Below w.heap.size w W2 := (HB1.out.trans (HW1.out.mono HB1.out.size)).trans (hb2.mono (by have := HB1.out.size; have := HW1.out.size; omega))
  have hbs := hb0.size
  have ha1 := bA (Below.refl W2.heap.size W2) (Nat.le_refl _) (.cells #[.slice a n c, .slice a' n' c'] 34)
  have ha2 := bA ha1 (Nat.le_refl _) (.cells #[.slice a n c, .slice a' n' c', .slice a n c, .slice a' n' c', .slice none 0 0, .slice none 0 0, .slice none 0 0, .int .i64 0, .int .i64 (-1), .bool false] 72)
  have hsc' : ScAt ((W2.alloc (.cells #[.slice a n c, .slice a' n' c'] 34)).alloc (.cells #[.slice a n c, .slice a' n' c', .slice a n c, .slice a' n' c', .slice none 0 0, .slice none 0 0, .slice none 0 0, .int .i64 0, .int .i64 (-1), .bool false] 72)) base (.slice a n c) (.slice a' n' c') L B := by
    obtain ⟨K, q1, q2, q3⟩ := hsc.kt (fun t _ _ _ => .of_below ha2)
    have hle : base ≤ W1.heap.size := by have := HB1.out.size; have := HW1.out.size; omega
    exact ⟨K, q1, ⟨own_base q2.1 hle, fun k hk => ⟨own_base (q2.2 k hk).1 hle, own_base (q2.2 k hk).2 hle⟩⟩, own_base q3 hle⟩
  have hn := heap_alloc_new (W2.alloc (.cells #[.slice a n c, .slice a' n' c'] 34)) (.cells #[.slice a n c, .slice a' n' c', .slice a n c, .slice a' n' c', .slice none 0 0, .slice none 0 0, .slice none 0 0, .int .i64 0, .int .i64 (-1), .bool false] 72)
  rw [World.size_alloc] at hn
  exact ⟨W2.heap.size + 1, rfl, ⟨_, _, _, _, _, _, _, hn, by omega, hsc', hsc', gr_nil _ _, World.ownsRow_nil _ _ _ _⟩, (hb0.trans (ha2.mono hbs)).mono hb, fun t _ _ => (Kt.of_below hb0).trans (.of_below ha2)⟩
set_option maxHeartbeats 8000000 in
set_option maxRecDepth 100000 in
theorem schema_at {w : World} {base p : Nat} {s : Lg} (h : LgAt w base p s) (hm : Sm s.L s.B) :
    Calls Tryz.prog 11 #[.pointer (some ⟨p, 0, none⟩)] w fun e w' => (∃ a c a2 n2 c2, e = .returned (.agg #[.slice a s.L.length c, .slice a2 n2 c2])) ∧ Below w.heap.size w w' := by
  obtain ⟨vk0, vb0, vk, vb, vn, vt, vy, hp, hbp, _, h1, _⟩ := id h
  obtain ⟨w1, hw1⟩ : ∃ w1, w1 = w.alloc (.cells #[.slice none 0 0, .slice none 0 0] 34) := ⟨_, rfl⟩
  have hB1 : Below w.heap.size w w1 := by rw [hw1]; exact bA (Below.refl _ _) (Nat.le_refl _) _
  have hp1 := (hB1.block p (Array.getElem?_eq_some_iff.1 hp).1).trans hp
  have y2 : w1.cell? ⟨p, 2, none⟩ = some vk := cell_at hp1 rfl
  have y3 : w1.cell? ⟨p, 3, none⟩ = some vb := cell_at hp1 rfl
  have k0 : w1.heap[w.heap.size]? = some (.cells #[.slice none 0 0, .slice none 0 0] 34 (0, 0)) := by rw [hw1]; exact heap_alloc_new w _
  obtain ⟨K, q1, q2, q3⟩ := h1.kt (fun t _ _ _ => .of_below hB1)
  have hm' := hm.kq q1
  have hl : K.length = s.L.length := by have := congrArg List.length q1; simpa using this
  have c2 : Calls Tryz.prog 13 #[.agg #[vk, vb]] w1 fun e w' => ∃ a c a' n' c', e = .returned (.agg #[.slice a s.L.length c, .slice a' n' c']) ∧ w'.heap[w.heap.size]? = some (.cells #[.slice none 0 0, .slice none 0 0] 34 (0, 0)) ∧ Below w.heap.size w w' := by
    refine (scopy_any (own_isK q2.1) (fun k hk => ⟨own_isS (q2.2 k hk).1, own_isF (q2.2 k hk).2⟩) (own_isB q3) hm'.1 hm'.2.1 hm'.2.2).mono ?_
    rintro e w' ⟨uk, ub, M, rfl, r1, r2, r3, r4⟩
    have hl2 : M.length = s.L.length := by have := congrArg List.length r1; simp at this; omega
    obtain ⟨a, c, rfl⟩ := own_slice r2.1
    obtain ⟨a', c', rfl⟩ := own_slice r3
    exact ⟨a, c, a', _, c', by rw [hl2], (r4.block _ (by rw [hw1]; simp)).trans k0, on1K hB1 r4 (Nat.le_refl _)⟩
  clear h hp hm hp1 hB1 k0 h1 q1 q2 q3 hm' hl
  subst hw1
  go_enter Tryz.func11, Tryz.ntmps11
  go_wp2_with (first
    | (go_at_call 13; refine c2.mono ?_; rintro e W2 ⟨a, c, a', n', c', rfl, hb, hb2⟩; have HB2 := Lib.hid hb2; clear hb2; have z0 : W2.cell? ⟨w.heap.size, 0, none⟩ = some (.slice none 0 0) := cell_at hb rfl; have z1 : W2.cell? ⟨w.heap.size, 1, none⟩ = some (.slice none 0 0) := cell_at hb rfl; have f0 : W2.frozen? ⟨w.heap.size, 0, none⟩ = false := frz_at hb; have f1 : W2.frozen? ⟨w.heap.size, 1, none⟩ = false := frz_at hb; have HB := Lib.hid hb; clear hb)
    | fail)
  have s0 := heap_setCell_same W2 w.heap.size 0 _ 34 (.slice a s.L.length c) HB.out
  have s1 := heap_setCell_same _ w.heap.size 1 _ 34 (.slice a' n' c') s0
  exact bodyPost_ret (v := .agg #[.slice a s.L.length c, .slice a' n' c']) (results_cell_row (p := 2) (ty := 34) rfl _ _ w.heap.size 34 _ (0, 0) _ rfl s1 Tryz.underlying34 rfl info34) rfl ⟨⟨_, _, _, _, _, rfl⟩, (HB2.out.setCell (Nat.le_refl _) _).setCell (Nat.le_refl _) _⟩
abbrev zEv : Value := .agg zE.toArray
theorem zE_one : zE.toArray.all (·.oneCell') = true := by simp [Value.oneCell']
theorem whole_none {r : List UInt8} (h : whole r = none) : (∀ v, Lib.atoiAll (cutN r) ≠ .ok v) ∨ ∃ n : Int, Lib.atoiAll (cutN r) = .ok n ∧ ((cutR r).length : Int) < n := by
  unfold whole at h
  cases ha : Lib.atoiAll (cutN r) with
  | ok n =>
    right
    rw [ha] at h
    simp only at h
    refine ⟨n, rfl, ?_⟩
    by_cases hn : n > (cutR r).length
    · exact hn
    · rw [if_neg hn] at h; cases h
  | «syntax» => left; intro v h; cases h
  | range => left; intro v h; cases h
def RdI (w : World) (r : List UInt8) (p2 : Option Addr) (n2 c2 : Nat) (W : World) : Prop := By W (.slice p2 n2 c2) (cutR r) ∧ W.heap[w.heap.size]? = some (.cells zE.toArray 75 (0, 0)) ∧ Below w.heap.size w W
set_option maxHeartbeats 8000000 in
set_option maxRecDepth 100000 in
theorem read_no {w : World} {v : Value} {r : List UInt8} (hE : Env w) (hv : By w v r) (hl : r.length ≤ 4294967280) (hw : whole r = none) :
    Calls Tryz.prog 23 #[v] w fun e w' => e = .returned (.tuple #[zEv, .int .i64 0, .bool false]) ∧ Below w.heap.size w w' := by
  obtain ⟨p, c, rfl, _⟩ := id hv
  obtain ⟨p1, n1, c1, p2, n2, c2, f, hcut, hd, hrst⟩ := cut_by hv
  obtain ⟨w0, hw0⟩ : ∃ w0, w0 = w.alloc (.cells zE.toArray 75) := ⟨_, rfl⟩
  have hB0 : Below w.heap.size w w0 := by rw [hw0]; exact bA (Below.refl _ _) (Nat.le_refl _) _
  have hs0 : w0.heap.size = w.heap.size + 1 := by rw [hw0]; simp
  obtain ⟨w1, hw1⟩ : ∃ w1, w1 = w0.alloc (.cells #[.int .u8 32] 5 (1, 2)) := ⟨_, rfl⟩
  have hB1 : Below w.heap.size w w1 := on1K hB0 (by rw [hw1]; exact bA (Below.refl _ _) (Nat.le_refl _) _) (Nat.le_refl _)
  have hcs := conv_blank w0
  have cC := cut_any (w := w1) (d := 1) (hv.kt (.of_below hB1)) (g := w0.heap.size) (by rw [hw1]; exact (World.cell?_alloc_mark w0 #[.int .u8 32] 5 (1, 2) 0).trans rfl) (hE.on (hB1.mono hE.sz)) hl
  rw [hcut] at cC
  have cv := fun q => conv_text (w := w1.drewN q) ((hd.kt (.of_below hB1)).kt (.of_below (b_drewK (Below.refl _ _) q)))
  have hdl : (cutN r).length ≤ 4294967280 := by
    unfold cutN
    split
    · rw [List.length_take]; omega
    · exact hl
  have hb1 : w1.heap[w.heap.size]? = some (.cells zE.toArray 75 (0, 0)) := by
    rw [hw1, Below.heap_alloc _ _ _ (by omega), hw0]
    exact heap_alloc_new w _
  have cA : Hid (∀ q, Calls Tryz.prog 38 #[.string ⟨(cutN r).toArray⟩] (w1.drewN q) fun e w' => ∃ (z : Int) (ev : Value), e = .returned (.tuple #[.int .i64 z, ev]) ∧ ((∃ t x, ev = .iface t x) ∨ (ev = .nilIface ∧ ((n2 : Nat) : Int) < z)) ∧ RdI w r p2 n2 c2 w') := fun q => by
    have hBq : Below w.heap.size w (w1.drewN q) := b_drewK hB1 q
    refine (atoi_any (hE.on (hBq.mono hE.sz)) (cutN r) hdl).mono ?_
    rintro e w' ⟨z, ev, rfl, h1, h2, hB⟩
    have hBw := on1K hBq hB (Nat.le_refl _)
    refine ⟨z, ev, rfl, ?_, hrst.kt (.of_below hBw), ?_, hBw⟩
    · rcases whole_none hw with h3 | ⟨n, h3, h4⟩
      · exact .inl (h2 h3)
      · obtain ⟨rfl, rfl⟩ := h1 n h3
        exact .inr ⟨rfl, by rw [hrst.len.1]; exact h4⟩
    · exact (hB.block _ (by show w.heap.size < w1.heap.size; rw [hw1]; simp; omega)).trans hb1
  rw [hs0] at hcs cC
  generalize hds : (⟨(cutN r).toArray⟩ : ByteArray) = ds at *
  clear hds hd hrst hcut hv hw hE hdl hb1 hB0 hB1
  subst hw1
  subst hw0
  go_enter Tryz.func23, Tryz.ntmps23
  go_wp2_with (first | (go_at_call 37; refine cC.mono ?_; rintro e W1 ⟨rfl, q, rfl⟩; have cvq := cv q; have cAq := cA.out q; refine Hid.out ?_))
  refine Lib.hid ?_
  clear cv cA cC
  go_wp2_with (first | (go_at_call 38; refine cAq.mono ?_; rintro e W2 ⟨z, ev, rfl, hz, hI⟩; have HZ := Lib.hid hz; have HI := Lib.hid hI; clear hz hI; refine Hid.out ?_))
  refine Lib.hid ?_
  obtain ⟨_, hblk, hB⟩ := HI.out
  have fin : ∀ tmps : Array Value, tmps.getD 2 undef = .pointer (some ⟨w.heap.size, 0, none⟩) → tmps.getD 3 undef = .int .i64 0 → tmps.getD 4 undef = .bool false → (results Tryz.f23 tmps).run Tryz.prog (W2.setRow w.heap.size zE.toArray) = .ok (.tuple #[zEv, .int .i64 0, .bool false]) (W2.setRow w.heap.size zE.toArray) := fun tmps h2 h3 h4 => by
    rw [results_cell3 (p := 2) (u := 3) (v := 4) (ty := 75) rfl tmps _ w.heap.size 75 zE.toArray (0, 0) _ h2 (setRow_heap W2 _ _ _ 75 (0, 0) hblk) Tryz.underlying75 rfl info75, h3, h4]
  have HB : Hid (Below w.heap.size w (W2.setRow w.heap.size zE.toArray)) := ⟨hB.os, hB.tape, hB.output, by rw [size_setRow]; exact hB.size, fun k hk => (setRow_other W2 _ k _ (by omega)).trans (hB.block k hk)⟩
  clear HI hB
  rcases HZ.out with ⟨t, x, rfl⟩ | ⟨rfl, hlt⟩
  · clear HZ
    go_wp2_with (first | (refine wpList_store_row rfl 75 (.tmp 2) (.tmp 32) rfl w.heap.size zE.toArray zE.toArray rfl rfl hblk info75 rfl zE_one ?_))
    exact bodyPost_ret (v := .tuple #[zEv, .int .i64 0, .bool false]) (fin _ rfl rfl rfl) rfl ⟨rfl, HB.out⟩
  · clear HZ
    have hd : decide ((n2 : Int) < z) = true := by simpa using hlt
    go_wp2_with (first | (refine wpList_store_row rfl 75 (.tmp 2) (.tmp 32) rfl w.heap.size zE.toArray zE.toArray rfl rfl hblk info75 rfl zE_one ?_))
    exact bodyPost_ret (v := .tuple #[zEv, .int .i64 0, .bool false]) (fin _ rfl rfl rfl) rfl ⟨rfl, HB.out⟩
theorem setRow_same {w : World} {g : Nat} {cs : Array Value} {t : TypeId} {fr : Nat × Nat} (h : w.heap[g]? = some (.cells cs t fr)) : w.setRow g cs = w := by
  have hh : (w.setRow g cs).heap = w.heap := by
    apply Array.ext_getElem?
    intro k
    by_cases hk : k = g
    · subst hk
      rw [setRow_heap w k cs cs t fr h, h]
    · exact setRow_other w g k cs hk
  have e : w.setRow g cs = { w with heap := (w.setRow g cs).heap } := rfl
  rw [e, hh]
def RdP (w : World) (F : List Value → World → Prop) (n : Nat) (e : Ending) (w' : World) : Prop := ∃ cs, e = .returned (.tuple #[.agg cs.toArray, .int .i64 (n : Int), .bool true]) ∧ F cs w' ∧ Below w.heap.size w w'
set_option maxHeartbeats 8000000 in
set_option maxRecDepth 100000 in
theorem read_yes {w : World} {v : Value} {body rest : List UInt8} {F : List Value → World → Prop} (hE : Env w) (hv : By w v (recL body ++ rest)) (hl : (recL body ++ rest).length ≤ 4294967280)
    (hF : ∀ cs W, F cs W → cs.length = 20 ∧ ∀ u ∈ cs, u.oneCell' = true)
    (hp : ∀ b t W, Tg b t 75 → Rs w b t 75 body zE W → Calls Tryz.prog 31 #[.pointer (some ⟨t, 0, none⟩), rpt b] W (Ret fun W' => ∃ cs, Rs w b t 75 [] cs W' ∧ F cs W')) :
    Calls Tryz.prog 23 #[v] w (RdP w F (recL body).length) := by
  obtain ⟨p, c, rfl⟩ : ∃ p c, v = .slice p (recL body ++ rest).length c := by obtain ⟨p, c, e, _⟩ := hv; exact ⟨p, c, e⟩
  obtain ⟨p1, n1, c1, p2, n2, c2, f, hcut, hd, hrst⟩ := cut_by hv
  have hbl : body.length ≤ 4294967280 := by unfold recL encT at hl; simp only [List.length_append] at hl; omega
  obtain ⟨e1, e2, _⟩ := whole_yes body rest (by omega)
  rw [e1] at hd
  rw [e2] at hrst
  have hn2 := hrst.len.1
  have hc2 := hrst.len.2
  have htk := hrst.take (k := body.length) (by simp)
  rw [List.take_left] at htk
  obtain ⟨w0, hw0⟩ : ∃ w0, w0 = w.alloc (.cells zE.toArray 75) := ⟨_, rfl⟩
  have hB0 : Below w.heap.size w w0 := by rw [hw0]; exact bA (Below.refl _ _) (Nat.le_refl _) _
  have hs0 : w0.heap.size = w.heap.size + 1 := by rw [hw0]; simp
  obtain ⟨w1, hw1⟩ : ∃ w1, w1 = w0.alloc (.cells #[.int .u8 32] 5 (1, 2)) := ⟨_, rfl⟩
  have hB1 : Below w.heap.size w w1 := on1K hB0 (by rw [hw1]; exact bA (Below.refl _ _) (Nat.le_refl _) _) (Nat.le_refl _)
  have hcs := conv_blank w0
  have cC := cut_any (w := w1) (d := 1) (hv.kt (.of_below hB1)) (g := w0.heap.size) (by rw [hw1]; exact (World.cell?_alloc_mark w0 #[.int .u8 32] 5 (1, 2) 0).trans rfl) (hE.on (hB1.mono hE.sz)) hl
  rw [hcut] at cC
  have cv := fun q => conv_text (w := w1.drewN q) ((hd.kt (.of_below hB1)).kt (.of_below (b_drewK (Below.refl _ _) q)))
  have hdl : (Lib.itoa (body.length : Int)).length ≤ 4294967280 := by
    unfold recL encT encN at hl
    simp only [List.length_append] at hl
    omega
  have hb1 : w1.heap[w.heap.size]? = some (.cells zE.toArray 75 (0, 0)) := by
    rw [hw1, Below.heap_alloc _ _ _ (by omega), hw0]
    exact heap_alloc_new w _
  have cA : Hid (∀ q, Calls Tryz.prog 38 #[.string ⟨(Lib.itoa (body.length : Int)).toArray⟩] (w1.drewN q) fun e w' => e = .returned (.tuple #[.int .i64 (body.length : Int), .nilIface]) ∧ By w' (.slice p2 body.length c2) body ∧ w'.heap[w.heap.size]? = some (.cells zE.toArray 75 (0, 0)) ∧ Below w.heap.size w w') := fun q => by
    have hBq : Below w.heap.size w (w1.drewN q) := b_drewK hB1 q
    refine (atoi_any (hE.on (hBq.mono hE.sz)) _ hdl).mono ?_
    rintro e w' ⟨z, ev, rfl, h1, h2, hB⟩
    have hBw := on1K hBq hB (Nat.le_refl _)
    obtain ⟨rfl, rfl⟩ := h1 _ (atoi_itoa _ (by omega) (by omega))
    exact ⟨rfl, htk.kt (.of_below hBw), (hB.block _ (by show w.heap.size < w1.heap.size; rw [hw1]; simp; omega)).trans hb1, hBw⟩
  have hsl := fun W => slHi p2 n2 c2 body.length (by simp at hc2; omega) W
  have cP : Hid (∀ W, By W (.slice p2 body.length c2) body → W.heap[w.heap.size]? = some (.cells zE.toArray 75 (0, 0)) → Below w.heap.size w W → Calls Tryz.prog 31 #[.pointer (some ⟨w.heap.size, 0, none⟩), rpt W.heap.size] (W.alloc (.cells #[.slice p2 body.length c2] 121)) (Ret fun W' => ∃ cs, W'.heap[w.heap.size]? = some (.cells cs.toArray 75 (0, 0)) ∧ F cs W' ∧ Below w.heap.size w W')) := fun W hBy hblk hB => by
    have hn := heap_alloc_new W (.cells #[.slice p2 body.length c2] 121)
    have hBa := bA (Below.refl W.heap.size W) (Nat.le_refl _) (.cells #[.slice p2 body.length c2] 121)
    have hB2 := on1K hB hBa (Nat.le_refl _)
    refine (hp W.heap.size w.heap.size _ ⟨by decide, by decide, Nat.le_trans hE.sz hB.size, hE.sz⟩ ⟨⟨_, hn, hBy.kt (.of_below hBa)⟩, (hBa.block _ (Array.getElem?_eq_some_iff.1 hblk).1).trans hblk, .of_below hB2 (Nat.le_refl _), hE.on (hB2.mono hE.sz)⟩).mono fun e w' q => ⟨q.1, ?_⟩
    obtain ⟨cs, q1, q2⟩ := q.2
    refine ⟨cs, q1.tg, q2, q1.fr.below (Nat.le_refl _) ?_⟩
    intro x hx
    simp only [List.mem_cons, List.not_mem_nil, or_false] at hx
    have := hB.size
    omega
  have hnn : ((recL body ++ rest).length : Int) - (n2 : Int) + (body.length : Int) = ((recL body).length : Int) := by
    rw [hn2]
    simp only [List.length_append]
    unfold recL encT
    simp only [List.length_append]
    omega
  have hd2 : decide ((n2 : Int) < (body.length : Int)) = false := by rw [decide_eq_false_iff_not, hn2, List.length_append]; omega
  have hd3 : ¬ (n2 : Int) < (body.length : Int) := by rw [hn2, List.length_append]; omega
  have hd4 : ¬ n2 < body.length := by rw [hn2, List.length_append]; omega
  have hd5 : (body.length : Int) ≤ (n2 : Int) := by omega
  have hnl : n2 ≤ (recL body ++ rest).length := by rw [hn2]; unfold recL encT; simp only [List.length_append]; omega
  rw [hs0] at hcs cC
  generalize hds : (⟨(Lib.itoa (body.length : Int)).toArray⟩ : ByteArray) = ds at *
  clear hds hd hrst hcut hv hE hdl hb1 hB0 hB1 htk e1 e2 hn2 hc2
  generalize (recL body ++ rest).length = nn at *
  generalize hbb : body.length = bl at *
  generalize (recL body).length = rl at *
  have HN := Lib.hid hnn
  have HFF := Lib.hid hF
  clear hnn hF
  subst hw1
  subst hw0
  go_enter Tryz.func23, Tryz.ntmps23
  go_wp2_with (first | (go_at_call 37; refine cC.mono ?_; rintro e W1 ⟨rfl, q, rfl⟩; have cvq := cv q; have cAq := cA.out q; refine Hid.out ?_))
  refine Lib.hid ?_
  clear cv cA cC
  go_wp2_with (first | (go_at_call 38; refine cAq.mono ?_; rintro e W2 ⟨rfl, hBy, hblk, hB⟩; have cPq := cP.out W2 hBy hblk hB; clear hBy hblk hB; refine Hid.out ?_))
  refine Lib.hid ?_
  go_wp2_with (first | (go_at_call 31; refine cPq.mono ?_; rintro e W3 ⟨rfl, cs, hblk, hF3, hB3⟩; refine Hid.out ?_))
  refine Lib.hid ?_
  obtain ⟨hcl, hone⟩ := HFF.out cs W3 hF3
  have hone' : cs.toArray.all (·.oneCell') = true := all_oneCell_toArray hone
  have hsz : (Tryz.prog.info? 75).map (fun i => i.size) = some cs.toArray.size := by rw [info75]; simp [hcl]
  have hsame := setRow_same hblk
  have HR := Lib.hid (And.intro hF3 hB3)
  clear hF3 hB3 hone
  go_wp2_with (first | (refine wpList_load_row rfl 75 (.tmp 2) rfl w.heap.size rfl 75 cs.toArray (0, 0) _ hblk Tryz.underlying75 rfl hsz ?_) | (refine wpList_store_row rfl 75 (.tmp 2) (.tmp 40) rfl w.heap.size cs.toArray cs.toArray rfl rfl hblk hsz rfl hone' ?_; rw [hsame]))
  refine bodyPost_ret (v := .tuple #[.agg cs.toArray, .int .i64 ((nn : Int) - n2 + bl), .bool true]) ?_ rfl ⟨cs, by rw [HN.out], HR.out⟩
  exact (results_cell3 (p := 2) (u := 3) (v := 4) (ty := 75) rfl _ _ w.heap.size 75 cs.toArray (0, 0) _ rfl hblk Tryz.underlying75 rfl hsz).trans rfl
theorem run_clear_row {P : Program} (w : World) (t e ty : TypeId) (z : Value) (ht : P.underlying t = some (.slice e)) (hv : ∀ w, (zeroValue e).run P w = .ok z w) (g o n c : Nat) (hn : 0 < n) (cur : Array Value) (hg : w.heap[g]? = some (.cells cur e (0, 0)))
    (hfit : o + n * z.cells.size ≤ cur.size) (h1 : ∀ u ∈ (Builtin.zeroCells z.cells n).toList, u.oneCell' = true) :
    (Builtin.clear_ #[t] ty #[.slice (some ⟨g, o, none⟩) n c]).run P w = .ok (.tuple #[]) (w.setRow g (cur.toList.take o ++ (Builtin.zeroCells z.cells n).toList ++ cur.toList.drop (o + n * z.cells.size)).toArray) := by
  have hl : (Builtin.zeroCells z.cells n).toList.length = n * z.cells.size := by simp [Builtin.zeroCells]
  have hst := run_storeCells_at P g o e (Builtin.zeroCells z.cells n).toList 0 cur w hg (by rw [hl]; simpa using hfit) h1
  simp only [Nat.add_zero, hl] at hst
  obtain ⟨m, rfl⟩ : ∃ m, n = m + 1 := ⟨n - 1, by omega⟩
  simp [Builtin.clear_, run_underlying ht, hv, hst]
theorem setRow_grown (w : World) (g : Nat) (r : Array Value) : w.grownBy (w.setRow g r) (some g) := ⟨rfl, rfl, rfl, by simp [World.setRow], fun k hk hne => setRow_other w g k r (fun e => hne (by rw [e]))⟩
structure Ch where
  wh : Int
  nm : Nm
  kd : Kd
  bd : Bd
  fd : Fd
  vt : Int
  vn : Int
  vs : Nm
  tn : Nm
def Ch.cells (c : Ch) : List Value := [.int .i64 c.wh, .string (bs c.nm), .string (bs c.kd.nm), c.kd.vo, c.kd.vf, .string (bs c.bd.nm), .string (bs c.bd.fr), .string (bs c.bd.tt), .int .i64 c.bd.mn, .int .i64 c.bd.mx, .string (bs c.fd.nm), .int .i64 c.fd.t, .bool c.fd.must, .bool c.fd.key, .int .i64 c.vt, .int .i64 c.vn, .string (bs c.vs), .string (bs c.tn)]
abbrev Ch.one (c : Ch) : Value := .agg #[.int .i64 c.wh, .string (bs c.nm), .string (bs c.kd.nm), c.kd.vo, c.kd.vf, .string (bs c.bd.nm), .string (bs c.bd.fr), .string (bs c.bd.tt), .int .i64 c.bd.mn, .int .i64 c.bd.mx, .string (bs c.fd.nm), .int .i64 c.fd.t, .bool c.fd.must, .bool c.fd.key, .int .i64 c.vt, .int .i64 c.vn, .string (bs c.vs), .string (bs c.tn)]
def ChSz (c : Ch) : Prop := (c.kd.nm.length ≤ maxLen ∧ ∀ f ∈ c.kd.fs, f.nm.length ≤ maxLen) ∧ (c.kd.of.length * 16 ≤ 140737488355328 ∧ c.kd.fs.length * 32 ≤ 140737488355328) ∧ c.bd.nm.length ≤ maxLen ∧ c.fd.nm.length ≤ maxLen ∧ c.vs.length ≤ maxLen ∧ c.tn.length ≤ maxLen ∧ c.wh = 1
theorem ChSz.wh1 {c : Ch} (h : ChSz c) : c.wh = 1 := h.2.2.2.2.2.2
def ChIs (w : World) (c : Ch) : Prop := IsS w c.kd.vo c.kd.of ∧ IsF w c.kd.vf c.kd.fs
theorem ChIs.on {w w' : World} {c : Ch} (h : ChIs w c) (hB : Below w.heap.size w w') : ChIs w' c := ⟨h.1.on hB, h.2.on hB⟩
def fdsAt (L : List Kd) (n : Nm) : List Fd := match L[nmAt L n]? with
  | some k => k.fs
  | none => []
def adE (f : Fd) (t n : Int) (s : Nm) : Int := if f.key = true then 3 else if t = 0 then (if f.must = true then 3 else 0) else if vErr t n s = 0 then (if t = f.t then 0 else 8) else vErr t n s
def insA (l : List Fd) (f : Fd) : List Fd := l.take (lo f.nm l) ++ f :: l.drop (lo f.nm l)
def rnF (l : List Fd) (o t : Nm) : List Fd := match l[lo o l]? with
  | some f => insA (l.eraseIdx (lo o l)) { f with nm := t }
  | none => l
def usK (L : List Kd) (n : Nm) : Bool := L.any fun k => hasN k.of n
def usB (B : List Bd) (n : Nm) : Bool := B.any fun x => x.fr == n || x.tt == n
def setFs (L : List Kd) (n : Nm) (g : List Fd) : List Kd := match L[nmAt L n]? with
  | some k => L.set (nmAt L n) { k with fs := g }
  | none => L
def bAt (B : List Bd) (n : Nm) : Nat := (idxB n B 0).toNat
def setR (B : List Bd) (n : Nm) (mn mx : Int) : List Bd := match B[bAt B n]? with
  | some x => B.set (bAt B n) { x with mn := mn, mx := mx }
  | none => B
def e2 (L : List Kd) (B : List Bd) (n : Nm) : Int := if idxK n L 0 = -1 then 5 else if usK L n = true then 6 else if usB B n = true then 6 else 0
def e3 (L : List Kd) (c : Ch) : Int := if idxK c.nm L 0 = -1 then 5 else if fnd c.fd.nm (fdsAt L c.nm) = true then 7 else adE c.fd c.vt c.vn c.vs
def e4 (L : List Kd) (n f : Nm) : Int := if idxK n L 0 = -1 then 5 else if fnd f (fdsAt L n) = true then 0 else 5
def e6 (B : List Bd) (n : Nm) : Int := if idxB n B 0 = -1 then 5 else 0
def e7 (L : List Kd) (n f t : Nm) : Int := if e4 L n f = 0 then (if nErr t = 0 then (if fnd t (fdsAt L n) = true then 7 else 0) else nErr t) else e4 L n f
def cE (L : List Kd) (B : List Bd) (c : Ch) : Int :=
  if c.wh = 1 then 0 else if c.wh = 2 then e2 L B c.nm else if c.wh = 3 then e3 L c else if c.wh = 4 then e4 L c.nm c.fd.nm else if c.wh = 5 then 0 else if c.wh = 6 then e6 B c.nm else if c.wh = 7 then e7 L c.nm c.fd.nm c.tn else if c.wh = 8 then e6 B c.nm else 1
def cK (L : List Kd) (c : Ch) : List Kd :=
  if c.wh = 1 then L ++ [c.kd] else if c.wh = 2 then L.eraseIdx (nmAt L c.nm) else if c.wh = 3 then setFs L c.nm (insA (fdsAt L c.nm) c.fd) else if c.wh = 4 then setFs L c.nm ((fdsAt L c.nm).eraseIdx (lo c.fd.nm (fdsAt L c.nm))) else if c.wh = 7 then setFs L c.nm (rnF (fdsAt L c.nm) c.fd.nm c.tn) else L
def cB (B : List Bd) (c : Ch) : List Bd :=
  if c.wh = 5 then B ++ [c.bd] else if c.wh = 6 then B.eraseIdx (bAt B c.nm) else if c.wh = 8 then setR B c.nm c.bd.mn c.bd.mx else B
def apE (L : List Kd) (B : List Bd) (c : Ch) : Int := if cE L B c = 0 then (sErr (cK L c) (cB B c)).2 else cE L B c
def doE (L : List Kd) (B : List Bd) (c : Ch) : Int := if (sErr L B).2 = 0 then apE L B c else (sErr L B).2
def OSc (w : World) (base p : Nat) (L : List Kd) (B : List Bd) : Prop := ∃ vk vb, base ≤ p ∧ w.heap[p]? = some (.cells #[vk, vb] 34 (0, 0)) ∧ OwnKs w base vk L ∧ Apt L ∧ OwnBs w base vb B
theorem OSc.on {w w' : World} {base p : Nat} {L : List Kd} {B : List Bd} (h : OSc w base p L B) (hB : Below w.heap.size w w') : OSc w' base p L B := by
  obtain ⟨vk, vb, h1, h2, h3, h4, h5⟩ := h
  exact ⟨vk, vb, h1, (hB.block p (Array.getElem?_eq_some_iff.1 h2).1).trans h2, h3.kt (.of_below hB) (.of_below hB) (.of_below hB), h4, own_kt h5 (.of_below hB)⟩
theorem OwnKs.isK {w : World} {base : Nat} {v : Value} {L : List Kd} (h : OwnKs w base v L) : IsK w v L := own_isK h.1
theorem OwnKs.parts {w : World} {base : Nat} {v : Value} {L : List Kd} (h : OwnKs w base v L) : Parts w L := fun k hk => ⟨own_isS (h.2 k hk).1, own_isF (h.2 k hk).2⟩
theorem OwnKs.one {w : World} {base : Nat} {v : Value} {L : List Kd} (h : OwnKs w base v L) : ∀ u ∈ cellsK L, u.oneCell' = true := cellsK_one h.parts.one
theorem OwnBs.isB {w : World} {base : Nat} {v : Value} {B : List Bd} (h : OwnBs w base v B) : IsB w v B := by
  rcases h.2 with ⟨rfl, h0⟩ | ⟨g, cap, cur, rfl, hb, hg, hle, hcm, hcs, ht⟩
  · exact .inl ⟨rfl, List.eq_nil_of_length_eq_zero h0⟩
  · refine .inr ⟨g, 0, cap, rfl, hle, hcm, (Array.getElem?_eq_some_iff.1 hg).1, fun i x hx => ?_⟩
    have c : ∀ j u, j < 5 → x.cells[j]? = some u → w.cell? ⟨g, 0 + i * 5 + j, none⟩ = some u := fun j u hj hu => by
      have := World.ownsRow.cells h (g := g) rfl (i * 5 + j) u ((flatK bd_len B i x j hx hj).trans hu)
      rw [Addr.add_lit] at this
      rw [Nat.add_assoc]
      exact this
    exact ⟨c 0 _ (by omega) rfl, c 1 _ (by omega) rfl, c 2 _ (by omega) rfl, c 3 _ (by omega) rfl, c 4 _ (by omega) rfl⟩
theorem osc_setK {w w' : World} {base p : Nat} {L M : List Kd} {B : List Bd} {vk vb v' : Value} (hp : base ≤ p) (hX : w.heap[p]? = some (.cells #[vk, vb] 34 (0, 0))) (hK : OwnKs w base vk L) (hM : Apt M) (hT : OwnBs w base vb B) (hbase : base ≤ w.heap.size)
    (hg : w.grownBy w' vk.ownBlock) (ho : w'.ownsRow base 30 3 v' M.length (cellsK M)) (hs : ∀ k ∈ M, w.ownsRow base 9 1 k.vo k.of.length (cellsS k.of) ∧ w.ownsRow base 56 4 k.vf k.fs.length (cellsF k.fs)) :
    (w'.cell? ⟨p, 0, none⟩ = some vk ∧ w'.frozen? ⟨p, 0, none⟩ = false) ∧ OSc (w'.setCell ⟨p, 0, none⟩ v') base p M B ∧ Below base w (w'.setCell ⟨p, 0, none⟩ v') := by
  have hX1 := (hg.block p (Array.getElem?_eq_some_iff.1 hX).1 (fun e => row_apart hK.1 hX (by decide) e.symm)).trans hX
  have kk : ∀ t : TypeId, t ≠ 30 → t ≠ 34 → Kt t w (w'.setCell ⟨p, 0, none⟩ v') := fun t n1 n2 => (Kt.of_own hK.1 (Ne.symm n1) hg).set hX1 (Ne.symm n2) _ _
  refine ⟨⟨cell_at hX1 rfl, frz_at hX1⟩, ⟨v', vb, hp, (heap_setCell_same w' p 0 _ 34 _ hX1).trans rfl, ⟨own_set ho (row_apart ho hX1 (by decide)) _ _, fun k hk => ⟨own_kt (hs k hk).1 (kk 9 (by decide) (by decide)), own_kt (hs k hk).2 (kk 56 (by decide) (by decide))⟩⟩, hM, own_kt hT (kk 54 (by decide) (by decide))⟩, ?_⟩
  exact (below_grown (Below.refl _ _) hg hbase (fun g hg' => (hK.1.lt g hg').1)).setCell (p := ⟨p, 0, none⟩) hp _
theorem Apt.at {L : List Kd} (h : Apt L) : ∀ (i j : Nat) (x y : Kd), L[i]? = some x → L[j]? = some y → i ≠ j → ∀ g, x.vf.ownBlock = some g → y.vf.ownBlock ≠ some g := by
  intro i j x y hi hj hne g h1 h2
  obtain ⟨hi', ei⟩ := List.getElem?_eq_some_iff.1 hi
  obtain ⟨hj', ej⟩ := List.getElem?_eq_some_iff.1 hj
  have hp := List.pairwise_iff_getElem.1 h
  rcases Nat.lt_or_gt_of_ne hne with hlt | hlt
  · exact hp i j hi' hj' hlt g (by rw [ei]; exact h1) (by rw [ej]; exact h2)
  · exact hp j i hj' hi' hlt g (by rw [ej]; exact h2) (by rw [ei]; exact h1)
theorem Apt.of_at {L : List Kd} (h : ∀ (i j : Nat) (x y : Kd), L[i]? = some x → L[j]? = some y → i < j → ∀ g, x.vf.ownBlock = some g → y.vf.ownBlock ≠ some g) : Apt L :=
  List.pairwise_iff_getElem.2 fun i j hi hj hlt => h i j _ _ (by simp [hi]) (by simp [hj]) hlt
theorem Apt.set {w : World} {L : List Kd} (h : Apt L) {i : Nat} {k k' : Kd} (hk : L[i]? = some k) (hm : Moved w k.vf k'.vf) (hlt : ∀ x ∈ L, ∀ g, x.vf.ownBlock = some g → g < w.heap.size) : Apt (L.set i k') := by
  have key : ∀ (j : Nat) (y : Kd), L[j]? = some y → i ≠ j → ∀ g, k'.vf.ownBlock = some g → y.vf.ownBlock ≠ some g := fun j y hj hne g h1 h2 => by
    rcases hm with e | ⟨g', e, hge⟩
    · exact h.at i j k y hk hj hne g (by rw [← e]; exact h1) h2
    · have := hlt y (List.mem_of_getElem? hj) g h2
      rw [e] at h1
      obtain rfl := Option.some.inj h1
      omega
  refine .of_at fun a b x y ha hb hab g h1 h2 => ?_
  rw [List.getElem?_set] at ha hb
  split at ha
  · rename_i e
    subst e
    split at hb
    · omega
    · split at ha
      · obtain rfl := Option.some.inj ha
        exact key b y hb (by omega) g h1 h2
      · cases ha
  · split at hb
    · rename_i e
      subst e
      split at hb
      · obtain rfl := Option.some.inj hb
        exact key a x ha (by omega) g h2 h1
      · cases hb
    · exact h.at a b x y ha hb (by omega) g h1 h2
end Go.Proofs.YtahamkajkkkjdaaGreatDoor
