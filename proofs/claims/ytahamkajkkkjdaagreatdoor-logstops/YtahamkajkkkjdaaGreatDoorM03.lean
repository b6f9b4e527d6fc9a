import Derived.Test.YtahamkajkkkjdaaGreatDoorM02
import Derived.Deep.RegionHeld
import Derived.Deep.RegionLaw
import Derived.Deep.DeepCutAuto
import Derived.BigQuiet
import Derived.Shelf.Bytes.SlSmallAll
import Derived.OwnWalk
import Derived.Deep.MidRow
import Derived.Test.YtahamkajkkkjdaaGreatDoorProg
import Derived.WalkKit
import Derived.BigCall
import Derived.Lib.Strings
namespace Go.Proofs.YtahamkajkkkjdaaGreatDoor
open Go.RowKit
set_option linter.unusedVariables false
set_option linter.unusedSimpArgs false
theorem elem70 : Tryz.prog.elem 70 = 5 := by simp [Program.elem, Tryz.underlying70]
theorem slHi (p : Option Addr) (n c k : Nat) (hk : k ≤ c) (W : World) : (Instr.slice 70 (.slice p n c) none (some (.int .i64 (k : Int))) none).run Tryz.prog W = .ok (.slice p k c) W := by
  rw [run_slice_h W 70 p n c (by rw [elem70]; exact Tryz.underlying70) .i64 (k : Int) (by omega) (by omega), elem70, Tryz.sizeOf5]
  cases p <;> simp [Result.andThen, sliced]
  intro h; first | exact Addr.add_zero _ | (simp [Addr.add]) | (trace_state; fail)
theorem slLo (p : Option Addr) (n c k : Nat) (hk : k ≤ n) (hc : n ≤ c) (hp : p = none → c = 0) (W : World) : (Instr.slice 70 (.slice p n c) (some (.int .i64 (k : Int))) none none).run Tryz.prog W = .ok (Lib.fromV p n c k) W := by
  rw [run_slice_l W 70 p n c (by rw [elem70]; exact Tryz.underlying70) .i64 (k : Int) (by omega) (by omega), elem70, Tryz.sizeOf5]
  cases p <;> simp [Result.andThen, sliced, Lib.fromV]
theorem By.cap {w : World} {p : Option Addr} {n c : Nat} {r : List UInt8} (h : By w (.slice p n c) r) : p = none → c = 0 := by
  obtain ⟨p', c', e, h1, h2, h3⟩ := h
  injection e with e1 e2 e3
  subst e1 e3
  exact h2
theorem Rd.lt {w : World} {b : Nat} {r : List UInt8} (h : Rd w b r) : b < w.heap.size := by
  obtain ⟨v, h1, _⟩ := h
  exact (Array.getElem?_eq_some_iff.1 h1).1
theorem Rd.ne {w : World} {b t : Nat} {r : List UInt8} {L : List Value} {ty : TypeId} (h : Rd w b r) (ht : w.heap[t]? = some (.cells L.toArray ty (0, 0))) (hT : ty ≠ 121) : t ≠ b := fun e => by
  obtain ⟨v, h1, _⟩ := h
  subst e
  rw [h1] at ht
  injection ht with e1
  injection e1 with _ e2
  exact hT e2.symm
theorem Rd.on {w w' : World} {b : Nat} {r : List UInt8} (h : Rd w b r) (hB : Below w.heap.size w w') : Rd w' b r := by
  obtain ⟨v, h1, h2⟩ := h
  exact ⟨v, (hB.block b (Array.getElem?_eq_some_iff.1 h1).1).trans h1, h2.kt (.of_below hB)⟩
theorem rs_up {w w1 W : World} {b s t : Nat} {ty ty' : TypeId} {r : List UInt8} {L L' : List Value} (hB : Below w.heap.size w w1) (hs : w.heap.size ≤ s) (h : Rs w1 b s ty' r L' W) (ht : w.heap[t]? = some (.cells L.toArray ty (0, 0))) (hne : t ≠ b) : Rs w b t ty r L W := by
  have htl := (Array.getElem?_eq_some_iff.1 ht).1
  have blk : ∀ k, k < w.heap.size → k ≠ b → W.heap[k]? = w.heap[k]? := fun k hk hb => (h.fr.block k (Nat.lt_of_lt_of_le hk hB.size) (by simp; omega)).trans (hB.block k hk)
  exact ⟨h.rd, (blk t htl hne).trans ht, ⟨h.fr.os.trans hB.os, h.fr.tape.trans hB.tape, h.fr.output.trans hB.output, Nat.le_trans hB.size h.fr.size, fun k hk hn => blk k hk (fun e => hn (by simp [e]))⟩, h.env⟩
theorem rs_store {u0 W : World} {b t : Nat} {ty : TypeId} {r : List UInt8} {L : List Value} (h : Rs u0 b t ty r L W) (hT : Tg b t ty) (o : Nat) (v : Value) : Rs u0 b t ty r (L.set o v) (W.setCell ⟨t, o, none⟩ v) := by
  have hne := h.rd.ne h.tg hT.h121
  obtain ⟨u, h1, h2⟩ := h.rd
  have fr := bx_set h.fr (g := t) (.inl (by simp)) o v
  refine ⟨⟨u, (heap_setCell_other W ⟨t, o, none⟩ b v (Ne.symm hne)).trans h1, h2.set h.tg hT.h5 o v⟩, set_cells h.tg v, fr, h.env.on ?_⟩
  exact (Below.refl _ _).setCell (p := ⟨t, o, none⟩) hT.t7 v
theorem rs_rest {u0 W : World} {b t : Nat} {ty : TypeId} {r r' : List UInt8} {L : List Value} (h : Rs u0 b t ty r L W) (hT : Tg b t ty) {v : Value} (hv : By W v r') : Rs u0 b t ty r' L (W.setCell ⟨b, 0, none⟩ v) := by
  have hne := h.rd.ne h.tg hT.h121
  obtain ⟨u, h1, h2⟩ := h.rd
  refine ⟨⟨v, heap_setCell_same W b 0 _ 121 v h1, hv.set h1 (by decide) _ _⟩, (heap_setCell_other W ⟨b, 0, none⟩ t v hne).trans h.tg, bx_set h.fr (g := b) (.inl (by simp)) 0 v, h.env.on ?_⟩
  exact (Below.refl _ _).setCell (p := ⟨b, 0, none⟩) hT.b7 v
theorem Rs.drew {u0 W : World} {b t : Nat} {ty : TypeId} {r : List UInt8} {L : List Value} (h : Rs u0 b t ty r L W) : Rs u0 b t ty r L W.drew :=
  ⟨h.rd, h.tg, bx_drew h.fr, h.env.on (bD (Below.refl _ _))⟩
theorem conv_text {w : World} {p : Option Addr} {n c : Nat} {r : List UInt8} (h : By w (.slice p n c) r) : (convert 70 9 (.slice p n c)).run Tryz.prog w = .ok (.string ⟨r.toArray⟩) w := by
  by_cases hr : r = []
  · have hn : n = 0 := by rw [h.len.1, hr]; rfl
    rw [hn, hr]
    exact run_convert_bytes_zero w 70 5 Tryz.underlying70 Tryz.underlying5 p c 9 Tryz.underlying9
  · exact conv_any h hr
set_option maxHeartbeats 8000000 in
set_option maxRecDepth 100000 in
theorem rtru_any {w : World} {b t o : Nat} {ty : TypeId} {L : List Value} {x : Bool} {r : List UInt8} (hT : Tg b t ty) (hE : Env w) (hR : Rd w b (encB x ++ r)) (ht : w.heap[t]? = some (.cells L.toArray ty (0, 0))) (ho : o < L.length) (hl : (encB x ++ r).length ≤ 4294967280) :
    Calls Tryz.prog 286 #[.pointer (some ⟨b, 0, none⟩), .pointer (some ⟨t, o, none⟩)] w (Ret (Rs w b t ty r (L.set o (.bool x)))) := by
  have hB := bA (Below.refl w.heap.size w) (Nat.le_refl _) (.cells #[.int .i64 0] 3)
  have hne := hR.ne ht hT.h121
  obtain ⟨k, hk, hkx⟩ : ∃ k : Int, k = (if x = true then 1 else 0) ∧ (k == 1) = x := ⟨_, rfl, by cases x <;> rfl⟩
  have cN := rnum_any (w := w.alloc (.cells #[.int .i64 0] 3)) (t := w.heap.size) (o := 0) (ty := 3) (L := [.int .i64 0]) (n := k) (r := r) ⟨by decide, by decide, hT.b7, hE.sz⟩ (hE.on (hB.mono hE.sz)) (by rw [hk]; exact hR.on hB) (heap_alloc_new w _) (by decide) ⟨by rw [hk]; split <;> omega, by rw [hk]; split <;> omega⟩ (by rw [hk]; exact hl)
  have HF : Hid (∀ W, Rs (w.alloc (.cells #[.int .i64 0] 3)) b w.heap.size 3 r (List.set [.int .i64 0] 0 (.int .i64 k)) W → W.cell? ⟨w.heap.size, 0, none⟩ = some (.int .i64 k) ∧ W.cell? ⟨t, o, none⟩ = some L[o] ∧ W.frozen? ⟨t, o, none⟩ = false ∧ Rs w b t ty r (L.set o (.bool x)) (W.setCell ⟨t, o, none⟩ (.bool x))) := fun W h => by
    have h2 := rs_up hB (Nat.le_refl _) h ht hne
    exact ⟨cell_at h.tg rfl, cell_at h2.tg (by simp [ho]), frz_at h2.tg, rs_store h2 hT o _⟩
  clear hR ht hE hB hl hk hne hT
  go_enter Tryz.func286, Tryz.ntmps286
  go_wp2_with (first | (go_at_call 284; refine cN.mono ?_; rintro e W1 ⟨rfl, h1⟩; obtain ⟨y0, y1, y2, y3⟩ := HF.out W1 h1; have HR := Lib.hid y3; clear y3 h1))
  go_end0
  exact ⟨rfl, HR.out⟩
set_option maxHeartbeats 8000000 in
set_option maxRecDepth 100000 in
theorem rtext_any {w : World} {b t o : Nat} {ty : TypeId} {L : List Value} {x r : List UInt8} (hT : Tg b t ty) (hE : Env w) (hR : Rd w b (encT x ++ r)) (ht : w.heap[t]? = some (.cells L.toArray ty (0, 0))) (ho : o < L.length) (hl : (encT x ++ r).length ≤ 4294967280) :
    Calls Tryz.prog 285 #[.pointer (some ⟨b, 0, none⟩), .pointer (some ⟨t, o, none⟩)] w (Ret (Rs w b t ty r (L.set o (.string ⟨x.toArray⟩)))) := by
  have hB := bA (Below.refl w.heap.size w) (Nat.le_refl _) (.cells #[.int .i64 0] 3)
  have hne := hR.ne ht hT.h121
  have hex : encT x ++ r = encN x.length ++ (x ++ r) := by unfold encT; rw [List.append_assoc]
  rw [hex] at hR hl
  have hxl : x.length ≤ 4294967280 := by simp only [List.length_append] at hl; omega
  have cN := rnum_any (w := w.alloc (.cells #[.int .i64 0] 3)) (t := w.heap.size) (o := 0) (ty := 3) (L := [.int .i64 0]) (n := (x.length : Int)) (r := x ++ r) ⟨by decide, by decide, hT.b7, hE.sz⟩ (hE.on (hB.mono hE.sz)) (hR.on hB) (heap_alloc_new w _) (by decide) ⟨by omega, by omega⟩ hl
  have HF : Hid (∀ W, Rs (w.alloc (.cells #[.int .i64 0] 3)) b w.heap.size 3 (x ++ r) (List.set [.int .i64 0] 0 (.int .i64 (x.length : Int))) W → ∃ p n c p2 n2 c2, W.cell? ⟨b, 0, none⟩ = some (.slice p n c) ∧ W.cell? ⟨w.heap.size, 0, none⟩ = some (.int .i64 (x.length : Int)) ∧ W.cell? ⟨t, o, none⟩ = some L[o] ∧ W.frozen? ⟨t, o, none⟩ = false ∧ (∀ W', (Instr.slice 70 (.slice p n c) none (some (.int .i64 (x.length : Int))) none).run Tryz.prog W' = .ok (.slice p x.length c) W') ∧ (convert 70 9 (.slice p x.length c)).run Tryz.prog W.drew = .ok (.string ⟨x.toArray⟩) W.drew ∧
      (∀ W', (Instr.slice 70 (.slice p n c) (some (.int .i64 (x.length : Int))) none none).run Tryz.prog W' = .ok (.slice p2 n2 c2) W') ∧
      ∀ W1, W1 = W.setCell ⟨t, o, none⟩ (.string ⟨x.toArray⟩) → W1.cell? ⟨b, 0, none⟩ = some (.slice p n c) ∧ W1.cell? ⟨w.heap.size, 0, none⟩ = some (.int .i64 (x.length : Int)) ∧ W1.frozen? ⟨b, 0, none⟩ = false ∧ Rs w b t ty r (L.set o (.string ⟨x.toArray⟩)) (W1.setCell ⟨b, 0, none⟩ (.slice p2 n2 c2)).drew.drew) := fun W h => by
    have h2 := rs_up hB (Nat.le_refl _) h ht hne
    obtain ⟨v, k1, k2⟩ := h.rd
    obtain ⟨p, c, hv, _, _, _⟩ := id k2
    subst hv
    obtain ⟨e1, e2⟩ := k2.len
    have hp := k2.cap
    have ktk := k2.take (k := x.length) (by simp)
    have kdr := k2.drop (k := x.length) (by simp)
    rw [List.take_left] at ktk
    rw [List.drop_left] at kdr
    obtain ⟨p2, n2, c2, hV⟩ : ∃ p2 n2 c2, Lib.fromV p (x ++ r).length c x.length = .slice p2 n2 c2 := ⟨_, _, _, rfl⟩
    rw [hV] at kdr
    refine ⟨p, _, c, p2, n2, c2, cell_at k1 rfl, cell_at h.tg rfl, cell_at h2.tg (by simp [ho]), frz_at h2.tg, slHi p _ c x.length (by simp at e2; omega), conv_text (ktk.kt (.of_below (bD (Below.refl _ _)))), fun W' => by rw [slLo p _ c x.length (by simp) e2 hp, hV], ?_⟩
    rintro W1 rfl
    have h4 := rs_store h2 hT o (.string ⟨x.toArray⟩)
    have hbb : (W.setCell ⟨t, o, none⟩ (.string ⟨x.toArray⟩)).heap[b]? = some (.cells #[.slice p (x ++ r).length c] 121 (0, 0)) := (heap_setCell_other W ⟨t, o, none⟩ b _ (Ne.symm hne)).trans k1
    have htn : t ≠ w.heap.size := Nat.ne_of_lt (Array.getElem?_eq_some_iff.1 ht).1
    have hss : (W.setCell ⟨t, o, none⟩ (.string ⟨x.toArray⟩)).heap[w.heap.size]? = some (.cells (List.set [.int .i64 0] 0 (.int .i64 (x.length : Int))).toArray 3 (0, 0)) := (heap_setCell_other W ⟨t, o, none⟩ w.heap.size _ (Ne.symm htn)).trans h.tg
    refine ⟨cell_at hbb rfl, cell_at hss rfl, frz_at hbb, ?_⟩
    have h5 := rs_rest h4 hT (kdr.set (g := t) h2.tg hT.h5 o (.string ⟨x.toArray⟩))
    exact h5.drew.drew
  clear hR ht hE hB hl hex hne hT hxl
  generalize (⟨x.toArray⟩ : ByteArray) = xs at *
  generalize x.length = n0 at *
  generalize hLo : L.set o (.string xs) = L2 at *
  go_enter Tryz.func285, Tryz.ntmps285
  go_wp2_with (first | (go_at_call 284; refine cN.mono ?_; rintro e W1 ⟨rfl, h1⟩; obtain ⟨p, n, c, p2, n2, c2, y0, y1, y2, y3, y4, y5, y6, y7⟩ := HF.out W1 h1; have HR := Lib.hid y7; clear y7 h1))
  clear cN HF
  go_upto_region 2 with fail
  go_region_law fail
  all_goals
    obtain ⟨z0, z1, z2, z3⟩ := HR.out _ rfl
    have HZ := Lib.hid z3
    clear z3 y0 y1 y2 y3 y4
    go_upto_region 3 with fail
    go_region_law fail
    all_goals
      go_end0
      exact ⟨rfl, HZ.out⟩
section
variable {P : Program}
theorem wpList_store_row {ops : Array Oper} {rest : List Oper} {o : Oper} {a : Act} {w : World} {Q : Exit → Act → World → Prop} (hgd : o.guard = none) (ty : TypeId) (x y : Operand) (ho : o.op = .store ty x y) (g : Nat) (old cells : Array Value)
    (hx : a.eval x = .pointer (some ⟨g, 0, none⟩)) (hy : a.eval y = .agg cells) (hg : w.heap[g]? = some (.cells old ty (0, 0))) (hi : (P.info? ty).map (·.size) = some cells.size) (hs : old.size = cells.size) (h1 : cells.all (·.oneCell') = true)
    (h : wpList P ops Q rest (a.put o.dst undef) (w.setRow g cells)) : wpList P ops Q (o :: rest) a w := by
  refine wpList_plain hgd fun K hK => ?_
  unfold Oper.wp execOp
  simp only [ho, hx, hy, Instr.storeAt, Instr.sureAddr, Sem.run_bind, Sem.run_pure, Result.andThen_ok, run_storeVar_row (P := P) w g ty ty old cells hg hi hs h1]
  exact hK _ _ h
theorem results_cell3 {fn : Func} {p u v : Tmp} {ty : TypeId} (h : fn.results = #[.cell p ty, .tmp u, .tmp v]) (tmps : Array Value) (w : World) (g : Nat) (t : TypeId) (cs : Array Value) (fr : Nat × Nat) (d : TypeDesc)
    (hp : tmps.getD p undef = .pointer (some ⟨g, 0, none⟩)) (hg : w.heap[g]? = some (.cells cs t fr))
    (hu : P.underlying ty = some d) (hd : (match d with | .struct _ | .array _ _ => true | _ => false) = true) (hi : (P.info? ty).map (·.size) = some cs.size) :
    (results fn tmps).run P w = .ok (.tuple #[.agg cs, tmps.getD u undef, tmps.getD v undef]) w := by
  have hp' : tmps[p]?.getD undef = .pointer (some ⟨g, 0, none⟩) := by simpa using hp
  simp [results, h, hp', asAddr, run_loadVar_row w g t ty cs fr d hg hu hd hi, Sem.run_bind, Result.andThen]
theorem results_cell2 {fn : Func} {p u : Tmp} {ty : TypeId} (h : fn.results = #[.cell p ty, .tmp u]) (tmps : Array Value) (w : World) (g : Nat) (t : TypeId) (cs : Array Value) (fr : Nat × Nat) (d : TypeDesc)
    (hp : tmps.getD p undef = .pointer (some ⟨g, 0, none⟩)) (hg : w.heap[g]? = some (.cells cs t fr))
    (hu : P.underlying ty = some d) (hd : (match d with | .struct _ | .array _ _ => true | _ => false) = true) (hi : (P.info? ty).map (·.size) = some cs.size) :
    (results fn tmps).run P w = .ok (.tuple #[.agg cs, tmps.getD u undef]) w := by
  have hp' : tmps[p]?.getD undef = .pointer (some ⟨g, 0, none⟩) := by simpa using hp
  simp [results, h, hp', asAddr, run_loadVar_row w g t ty cs fr d hg hu hd hi, Sem.run_bind, Result.andThen]
end
theorem info75 : (Tryz.prog.info? 75).map (fun i => i.size) = some 20 := by kernel_rfl
theorem cut_by {w : World} {p : Option Addr} {n c : Nat} {r : List UInt8} (h : By w (.slice p n c) r) :
    ∃ p1 n1 c1 p2 n2 c2 f, Lib.cutV p n c 1 (Lib.index r [32]) = .tuple #[.slice p1 n1 c1, .slice p2 n2 c2, .bool f] ∧ By w (.slice p1 n1 c1) (cutN r) ∧ By w (.slice p2 n2 c2) (cutR r) := by
  have hlen := h.len
  unfold Lib.cutV cutN cutR
  by_cases hi : 0 ≤ Lib.index r [32]
  · rw [if_pos hi, if_pos hi, if_pos hi]
    have hroom := Lib.index_room _ _ hi
    simp only [List.length_cons, List.length_nil] at hroom
    refine ⟨p, _, c, _, _, _, true, rfl, h.take (by omega), ?_⟩
    exact h.drop (by omega)
  · rw [if_neg hi, if_neg hi, if_neg hi]
    refine ⟨p, n, c, none, 0, 0, false, rfl, h, none, 0, rfl, Nat.le_refl _, fun _ => rfl, .inl rfl⟩
def badB (c : UInt8) : Bool := decide ((c.toNat : Int) < 32) || decide (126 < (c.toNat : Int))
def noLet (c : UInt8) : Bool := decide ((c.toNat : Int) < 97) || decide (122 < (c.toNat : Int))
def hasP (p : UInt8 → Bool) (l : List UInt8) : Bool := l.any p
theorem ret_bool {a b : Bool} (h : a = b) : Ending.returned (.bool a) = .returned (.bool b) := by rw [h]
theorem take_snoc (s : ByteArray) (k : Nat) (h : k < s.size) : s.data.toList.take (k + 1) = s.data.toList.take k ++ [s[k]] := by
  rw [List.take_succ_eq_append_getElem (by simpa using h)]; rfl
theorem any_snoc (p : UInt8 → Bool) (s : ByteArray) (k : Nat) (h : k < s.size) (h1 : (s.data.toList.take k).any p = false) (h2 : p s[k] = false) : (s.data.toList.take (k + 1)).any p = false := by
  rw [take_snoc s k h, List.any_append, h1]; simp [h2]
theorem any_hit (p : UInt8 → Bool) (s : ByteArray) (k : Nat) (h : k < s.size) (h2 : p s[k] = true) : true = hasP p s.data.toList := by
  symm; unfold hasP; rw [List.any_eq_true]; exact ⟨s[k], by simp [ByteArray.getElem_eq_getElem_data], h2⟩
theorem any_end (p : UInt8 → Bool) (s : ByteArray) (k : Nat) (h : ¬ k < s.size) (h1 : (s.data.toList.take k).any p = false) : false = hasP p s.data.toList := by
  unfold hasP; rw [List.take_of_length_le (by simp; omega)] at h1; exact h1.symm
theorem bad_any (c : UInt8) (w : World) : Calls Tryz.prog 254 #[.int .u8 c.toNat] w fun e w' => e = .returned (.bool (badB c)) ∧ w' = w := by
  go_enter Tryz.func254, Tryz.ntmps254
  go_wp2
  all_goals
    go_ret
    exact ⟨ret_bool (by unfold badB; simp [*]), rfl⟩
set_option maxHeartbeats 1000000 in
theorem anyBad (s : ByteArray) (w : World) (hs : s.size ≤ maxLen) :
    Calls Tryz.prog 45 #[.string s, .func (.func 254) #[] #[]] w fun e w' => e = .returned (.bool (hasP badB s.data.toList)) ∧ w' = w := by
  unfold maxLen at hs
  go_enter Tryz.func45, Tryz.ntmps45
  go_wp2
  go_loop [8] (fun i => ∃ k : Nat, k ≤ s.size ∧ i = .int .i64 k ∧ (s.data.toList.take k).any badB = false) (fun i => s.size - (intOf i).toNat)
  case atStart => exact ⟨0, Nat.zero_le _, rfl, rfl⟩
  case round =>
    obtain ⟨k, hk, rfl, hno⟩ := hrel
    have HN : Hid ((s.data.toList.take k).any badB = false) := hno
    clear hno
    by_cases hlt : k < s.size
    · by_cases hb : badB s[k] = true
      · go_wp2_with (go_at_call 254; refine (bad_any _ _).mono ?_; rintro e w' ⟨rfl, rfl⟩)
        go_ret
        exact ⟨ret_bool (any_hit _ s k hlt hb), rfl⟩
      · have hb' : badB s[k] = false := by simpa using hb
        clear hb
        go_wp2_with (go_at_call 254; refine (bad_any _ _).mono ?_; rintro e w' ⟨rfl, rfl⟩)
        go_round
        case rel => exact ⟨k + 1, by omega, by go_num, any_snoc _ s k hlt HN.out hb'⟩
        case measure => simp [intOf]; omega
    · go_wp2
      go_ret
      exact ⟨ret_bool (any_end _ s k hlt HN.out), rfl⟩
theorem let_any (c : UInt8) (w : World) : Calls Tryz.prog 44 #[.int .u8 c.toNat] w fun e w' => e = .returned (.bool (noLet c)) ∧ w' = w := by
  go_enter Tryz.func44, Tryz.ntmps44
  go_wp2
  all_goals
    go_ret
    exact ⟨ret_bool (by unfold noLet; simp [*]), rfl⟩
set_option maxHeartbeats 1000000 in
theorem anyLet (s : ByteArray) (w : World) (hs : s.size ≤ maxLen) :
    Calls Tryz.prog 45 #[.string s, .func (.func 44) #[] #[]] w fun e w' => e = .returned (.bool (hasP noLet s.data.toList)) ∧ w' = w := by
  unfold maxLen at hs
  go_enter Tryz.func45, Tryz.ntmps45
  go_wp2
  go_loop [8] (fun i => ∃ k : Nat, k ≤ s.size ∧ i = .int .i64 k ∧ (s.data.toList.take k).any noLet = false) (fun i => s.size - (intOf i).toNat)
  case atStart => exact ⟨0, Nat.zero_le _, rfl, rfl⟩
  case round =>
    obtain ⟨k, hk, rfl, hno⟩ := hrel
    have HN : Hid ((s.data.toList.take k).any noLet = false) := hno
    clear hno
    by_cases hlt : k < s.size
    · by_cases hb : noLet s[k] = true
      · go_wp2_with (go_at_call 44; refine (let_any _ _).mono ?_; rintro e w' ⟨rfl, rfl⟩)
        go_ret
        exact ⟨ret_bool (any_hit _ s k hlt hb), rfl⟩
      · have hb' : noLet s[k] = false := by simpa using hb
        clear hb
        go_wp2_with (go_at_call 44; refine (let_any _ _).mono ?_; rintro e w' ⟨rfl, rfl⟩)
        go_round
        case rel => exact ⟨k + 1, by omega, by go_num, any_snoc _ s k hlt HN.out hb'⟩
        case measure => simp [intOf]; omega
    · go_wp2
      go_ret
      exact ⟨ret_bool (any_end _ s k hlt HN.out), rfl⟩
theorem isPrintable_any (s : ByteArray) (w : World) (hs : s.size ≤ maxLen) :
    Calls Tryz.prog 239 #[.string s] w fun e w' => e = .returned (.bool (!hasP badB s.data.toList)) ∧ w' = w := by
  go_enter Tryz.func239, Tryz.ntmps239
  go_wp2_with (go_at_call 45; refine (anyBad s _ hs).mono ?_; rintro e w' ⟨rfl, rfl⟩)
  go_ret
  exact ⟨rfl, rfl⟩
def inR (t n : Int) : Bool := if t = 1 then decide (-1000000 ≤ n) && decide (n ≤ 1000000) else if t = 2 then decide (n = 0) || decide (n = 1) else decide (n = 0)
def tErr (l : List UInt8) : Int := if 20 < l.length then 4 else if hasP badB l = true then 2 else 0
def vErr (t n : Int) (l : List UInt8) : Int := if t = 1 ∨ t = 2 ∨ t = 3 then (if inR t n = true then (if t = 3 then tErr l else if l = [] then 0 else 2) else 1) else 8
def errV (e : Int) : Value := if e = 0 then .nilIface else .iface 76 (.int .i64 e)
def val (t n : Int) (s : ByteArray) : Value := .agg #[.int .i64 t, .int .i64 n, .string s]
theorem errV_0 : errV 0 = .nilIface := rfl
theorem errV_1 : errV 1 = .iface 76 (.int .i64 1) := rfl
theorem errV_2 : errV 2 = .iface 76 (.int .i64 2) := rfl
theorem errV_4 : errV 4 = .iface 76 (.int .i64 4) := rfl
theorem errV_8 : errV 8 = .iface 76 (.int .i64 8) := rfl
theorem ret_v {a b : Value} (h : a = b) : Ending.returned a = .returned b := by rw [h]
theorem size_len (s : ByteArray) : s.size = s.data.toList.length := by rw [Array.length_toList]; rfl
theorem nil_of_empty (s : ByteArray) (h : s.data.toList = []) : s = ⟨#[]⟩ := by
  cases s with | mk d => congr 1; simpa using h
theorem inRange_any (t n : Int) (w : World) : Calls Tryz.prog 219 #[.int .i64 t, .int .i64 n] w fun e w' => e = .returned (.bool (inR t n)) ∧ w' = w := by
  by_cases h1 : t = 1
  · subst h1
    go_enter Tryz.func219, Tryz.ntmps219
    go_wp2
    all_goals
      go_ret
      exact ⟨ret_bool (by unfold inR; rw [Bool.eq_iff_iff]; simp <;> (try simp_all) <;> omega), rfl⟩
  by_cases h2 : t = 2
  · subst h2
    go_enter Tryz.func219, Tryz.ntmps219
    go_wp2
    all_goals
      go_ret
      exact ⟨ret_bool (by unfold inR; rw [Bool.eq_iff_iff]; simp <;> (try simp_all) <;> omega), rfl⟩
  go_enter Tryz.func219, Tryz.ntmps219
  go_wp2
  all_goals
    go_ret
    exact ⟨ret_bool (by unfold inR; rw [Bool.eq_iff_iff]; simp <;> (try simp_all) <;> omega), rfl⟩
theorem checkText_any (s : ByteArray) (w : World) (hs : s.size ≤ maxLen) : Calls Tryz.prog 220 #[.string s] w fun e w' => e = .returned (errV (tErr s.data.toList)) ∧ w' = w := by
  have hl := size_len s
  by_cases h1 : 20 < s.size
  · have e1 : tErr s.data.toList = 4 := by unfold tErr; rw [if_pos (by omega)]
    have H1 : Hid (tErr s.data.toList = 4) := e1
    clear e1 hl
    unfold maxLen at hs
    go_enter Tryz.func220, Tryz.ntmps220
    go_wp2
    go_ret
    exact ⟨ret_v (by rw [H1.out, errV_4]; rfl), rfl⟩
  · by_cases h2 : hasP badB s.data.toList = true
    · have e1 : tErr s.data.toList = 2 := by unfold tErr; rw [if_neg (by omega), if_pos h2]
      have H1 : Hid (tErr s.data.toList = 2) := e1
      clear e1 hl
      go_enter Tryz.func220, Tryz.ntmps220
      go_wp2_with (go_at_call 239; refine (isPrintable_any s _ hs).mono ?_; rintro e w' ⟨rfl, rfl⟩)
      go_ret
      exact ⟨ret_v (by rw [H1.out, errV_2]; rfl), rfl⟩
    · have h2' : hasP badB s.data.toList = false := by simpa using h2
      have e1 : tErr s.data.toList = 0 := by unfold tErr; rw [if_neg (by omega), if_neg h2]
      have H1 : Hid (tErr s.data.toList = 0) := e1
      clear e1 hl h2
      go_enter Tryz.func220, Tryz.ntmps220
      go_wp2_with (go_at_call 239; refine (isPrintable_any s _ hs).mono ?_; rintro e w' ⟨rfl, rfl⟩)
      go_ret
      exact ⟨ret_v (by rw [H1.out, errV_0]; rfl), rfl⟩
theorem nonE (s : ByteArray) (h : ¬ s.data.toList = []) : s.toList.isEmpty = false := by
  rw [← decide_eq_emptyBytes, decide_eq_false_iff_not]
  intro e; apply h; rw [e]; rfl
set_option maxHeartbeats 1000000 in
theorem check_any (t n : Int) (s : ByteArray) (w : World) (hs : s.size ≤ maxLen) :
    Calls Tryz.prog 178 #[val t n s] w fun e w' => e = .returned (errV (vErr t n s.data.toList)) ∧ w' = w.alloc (.cells #[.int .i64 t, .int .i64 n, .string s] 42) := by
  unfold val
  by_cases ht : t = 1 ∨ t = 2 ∨ t = 3
  · by_cases hr : inR t n = true
    · by_cases h3 : t = 3
      · subst h3
        have e1 : vErr 3 n s.data.toList = tErr s.data.toList := by unfold vErr; rw [if_pos ht, if_pos hr, if_pos rfl]
        have H1 : Hid (vErr 3 n s.data.toList = tErr s.data.toList) := e1
        clear e1 ht
        go_enter Tryz.func178, Tryz.ntmps178
        go_wp2_with (first | (go_at_call 219; refine (inRange_any _ _ _).mono ?_; rintro e w' ⟨rfl, rfl⟩) | (go_at_call 220; refine (checkText_any s _ hs).mono ?_; rintro e w' ⟨rfl, rfl⟩))
        go_ret
        exact ⟨ret_v (by rw [H1.out]; rfl), rfl⟩
      · by_cases hl : s.data.toList = []
        · have e1 : vErr t n s.data.toList = 0 := by unfold vErr; rw [if_pos ht, if_pos hr, if_neg h3, if_pos hl]
          have H1 : Hid (vErr t n s.data.toList = 0) := e1
          obtain rfl := nil_of_empty s hl
          clear e1 hl
          have ht' : t = 1 ∨ t = 2 := by omega
          clear ht
          rcases ht' with rfl | rfl
          all_goals
            go_enter Tryz.func178, Tryz.ntmps178
            go_wp2_with (first | (go_at_call 219; refine (inRange_any _ _ _).mono ?_; rintro e w' ⟨rfl, rfl⟩))
            go_ret
            exact ⟨ret_v (by rw [H1.out, errV_0]; rfl), rfl⟩
        · have e1 : vErr t n s.data.toList = 2 := by unfold vErr; rw [if_pos ht, if_pos hr, if_neg h3, if_neg hl]
          have H1 : Hid (vErr t n s.data.toList = 2) := e1
          have hE : s.toList.isEmpty = false := nonE s hl
          clear e1 hl
          have ht' : t = 1 ∨ t = 2 := by omega
          clear ht
          rcases ht' with rfl | rfl
          all_goals
            go_enter Tryz.func178, Tryz.ntmps178
            go_wp2_with (first | (go_at_call 219; refine (inRange_any _ _ _).mono ?_; rintro e w' ⟨rfl, rfl⟩))
            go_ret
            exact ⟨ret_v (by rw [H1.out, errV_2]; rfl), rfl⟩
    · have hr' : inR t n = false := by simpa using hr
      have e1 : vErr t n s.data.toList = 1 := by unfold vErr; rw [if_pos ht, if_neg hr]
      have H1 : Hid (vErr t n s.data.toList = 1) := e1
      clear e1 hr
      rcases ht with rfl | rfl | rfl
      all_goals
        go_enter Tryz.func178, Tryz.ntmps178
        go_wp2_with (first | (go_at_call 219; refine (inRange_any _ _ _).mono ?_; rintro e w' ⟨rfl, rfl⟩))
        go_ret
        exact ⟨ret_v (by rw [H1.out, errV_1]; rfl), rfl⟩
  · have e1 : vErr t n s.data.toList = 8 := by unfold vErr; rw [if_neg ht]
    have H1 : Hid (vErr t n s.data.toList = 8) := e1
    have h1 : ¬ t = 1 := by omega
    have h2 : ¬ t = 2 := by omega
    have h3 : ¬ t = 3 := by omega
    have b1 : (t != 1) = true := by simpa using h1
    have b2 : (t != 2) = true := by simpa using h2
    have b3 : (t != 3) = true := by simpa using h3
    clear e1 ht h1 h2 h3
    go_enter Tryz.func178, Tryz.ntmps178
    go_wp2
    go_ret
    exact ⟨ret_v (by rw [H1.out, errV_8]; rfl), rfl⟩
theorem errV_ne {e : Int} (h : ¬ e = 0) : errV e = .iface 76 (.int .i64 e) := by unfold errV; rw [if_neg h]
theorem list_eq {s : ByteArray} {l : List UInt8} (h : s.data.toList = l) : s = ⟨l.toArray⟩ := by
  cases s with | mk d => congr 1; rw [← h]
def nErr (l : List UInt8) : Int := if l = [] then 2 else if 8 < l.length then 2 else if hasP noLet l = true then 2 else 0
set_option maxHeartbeats 2000000 in
set_option maxRecDepth 100000 in
theorem name_any (s : ByteArray) (w : World) (hs : s.size ≤ maxLen) :
    Calls Tryz.prog 25 #[.string s] w fun e w' => e = .returned (errV (nErr s.data.toList)) ∧ w' = w := by
  by_cases hE : s.data.toList = []
  · obtain rfl := list_eq hE
    go_enter Tryz.func25, Tryz.ntmps25
    go_wp2
    go_ret
    exact ⟨rfl, rfl⟩
  · have bE : s.toList.isEmpty = false := nonE s hE
    have bN : ¬ s.toList = [] := by rw [Lib.toList_data]; exact hE
    have hsz := size_len s
    by_cases h8 : 8 < s.size
    · have H1 : Hid (nErr s.data.toList = 2) := by
        show _ = _
        unfold nErr; rw [if_neg hE, if_pos (by omega)]
      clear hE hsz
      unfold maxLen at hs
      go_enter Tryz.func25, Tryz.ntmps25
      go_wp2
      go_ret
      exact ⟨ret_v (by rw [H1.out]; rfl), rfl⟩
    · by_cases hb : hasP noLet s.data.toList = true
      · have H1 : Hid (nErr s.data.toList = 2) := by
          show _ = _
          unfold nErr; rw [if_neg hE, if_neg (by omega), if_pos hb]
        clear hE hsz
        go_enter Tryz.func25, Tryz.ntmps25
        go_wp2_with (go_at_call 45; refine (anyLet s _ hs).mono ?_; rintro e w' ⟨rfl, rfl⟩)
        go_ret
        exact ⟨ret_v (by rw [H1.out]; rfl), rfl⟩
      · have hb' : hasP noLet s.data.toList = false := by simpa using hb
        have H1 : Hid (nErr s.data.toList = 0) := by
          show _ = _
          unfold nErr; rw [if_neg hE, if_neg (by omega), if_neg hb]
        clear hE hsz hb
        go_enter Tryz.func25, Tryz.ntmps25
        go_wp2_with (go_at_call 45; refine (anyLet s _ hs).mono ?_; rintro e w' ⟨rfl, rfl⟩)
        go_ret
        exact ⟨ret_v (by rw [H1.out]; rfl), rfl⟩
end Go.Proofs.YtahamkajkkkjdaaGreatDoor
