import Derived.Test.YtahamkajkkkjdaaGreatDoorM01
import Derived.Test.YtahamkajkkkjdaaGreatDoorM02
import Derived.Lib.ItoaMem
import Derived.Lib.AppendIntMem
import Derived.BigCall
import Derived.BigGuard
import Derived.Deep.RegionLaw
import Derived.BigQuiet
import Derived.Lib.ItoaLen
namespace Go.Proofs.YtahamkajkkkjdaaGreatDoor
open Go.RowKit
set_option linter.unusedVariables false
set_option linter.unusedSimpArgs false
abbrev lgC (vk0 vb0 vk vb vn vt vy : Value) (sf lf : Int) (b : Bool) : Array Value := #[vk0, vb0, vk, vb, vn, vt, vy, .int .i64 sf, .int .i64 lf, .bool b]
def lfN (lf : Int) : Int := if 0 < lf then lf - 1 else lf
set_option maxHeartbeats 8000000 in
set_option maxRecDepth 100000 in
theorem stops_any {w : World} {p : Nat} {vk0 vb0 vk vb vn vt vy : Value} {sf lf : Int} {b : Bool} (hp : w.heap[p]? = some (.cells (lgC vk0 vb0 vk vb vn vt vy sf lf b) 72 (0, 0))) (hl : -9223372036854775808 ≤ lf) (hu : lf < 9223372036854775808) :
    Calls Tryz.prog 16 #[.pointer (some ⟨p, 0, none⟩)] w fun e w' => e = .returned (.bool (lf == 0)) ∧ Bx w.heap.size [p] w w' ∧ w'.heap[p]? = some (.cells (lgC vk0 vb0 vk vb vn vt vy sf (lfN lf) (lf == 0)) 72 (0, 0)) := by
  obtain ⟨w1, hw1⟩ : ∃ w1, w1 = w.setCell ⟨p, 9, none⟩ (.bool (lf == 0)) := ⟨_, rfl⟩
  have hp1 : w1.heap[p]? = some (.cells (lgC vk0 vb0 vk vb vn vt vy sf lf (lf == 0)) 72 (0, 0)) := by
    rw [hw1, heap_setCell_same w p 9 _ 72 _ hp]; rfl
  have hB1 : Bx w.heap.size [p] w w1 := by rw [hw1]; exact bx_set (Bx.refl _ _ _) (.inl (by simp)) _ _
  have y8 : w.cell? ⟨p, 8, none⟩ = some (.int .i64 lf) := cell_at hp rfl
  have f9 : w.frozen? ⟨p, 9, none⟩ = false := frz_at hp
  have y9 : w.cell? ⟨p, 9, none⟩ = some (.bool b) := cell_at hp rfl
  have f8 : w.frozen? ⟨p, 8, none⟩ = false := frz_at hp
  have z8 : w1.cell? ⟨p, 8, none⟩ = some (.int .i64 lf) := cell_at hp1 rfl
  have z9 : w1.cell? ⟨p, 9, none⟩ = some (.bool (lf == 0)) := cell_at hp1 rfl
  have g8 : w1.frozen? ⟨p, 8, none⟩ = false := frz_at hp1
  by_cases h : 0 < lf
  · obtain ⟨w2, hw2⟩ : ∃ w2, w2 = w1.setCell ⟨p, 8, none⟩ (.int .i64 (lf - 1)) := ⟨_, rfl⟩
    have hp2 : w2.heap[p]? = some (.cells (lgC vk0 vb0 vk vb vn vt vy sf (lfN lf) (lf == 0)) 72 (0, 0)) := by
      rw [hw2, heap_setCell_same w1 p 8 _ 72 _ hp1]; unfold lfN; rw [if_pos h]; rfl
    have hB2 : Bx w.heap.size [p] w w2 := by rw [hw2]; exact bx_set hB1 (.inl (by simp)) _ _
    have x9 : w2.cell? ⟨p, 9, none⟩ = some (.bool (lf == 0)) := cell_at hp2 rfl
    subst hw1
    subst hw2
    go_enter Tryz.func16, Tryz.ntmps16
    go_wp2
    go_ret
    exact ⟨rfl, hB2, hp2⟩
  · have hp2 : w1.heap[p]? = some (.cells (lgC vk0 vb0 vk vb vn vt vy sf (lfN lf) (lf == 0)) 72 (0, 0)) := by
      rw [hp1]; unfold lfN; rw [if_neg h]
    subst hw1
    go_enter Tryz.func16, Tryz.ntmps16
    go_wp2
    go_ret
    exact ⟨rfl, hB1, hp2⟩
end Go.Proofs.YtahamkajkkkjdaaGreatDoor
namespace Go.Proofs.YtahamkajkkkjdaaGreatDoor
open Go.RowKit Go.Shelf Go.Sort Go.Lib
set_option linter.unusedVariables false
set_option linter.unusedSimpArgs false
set_option maxHeartbeats 12800000 in
set_option maxRecDepth 100000 in
theorem au_big {w : World} {B u : Nat} {sv : Value} {l : List UInt8} (hu : 100 ≤ u) (hu64 : u < 18446744073709551616) (hown : w.ownsRow B 5 1 sv l.length (byteCells l)) (hB : B ≤ w.heap.size) (hl : l.length ≤ 2199023255552) (htab : Tab10 w) :
    Calls Tryz.prog 158 #[sv, .int .u64 u, .int .i64 10] w (ApR w B sv l (decDigits u)) := by
  have hu1 : 1 ≤ u := by omega
  have hnd20 : nDigits u ≤ 20 := by have := numDigits_eq u hu1 hu64; split at this <;> omega
  have hal : Tryz.prog.arrayLen 334 = 24 := by simp [Program.arrayLen, Tryz.underlying334]
  have hsl : ∀ W, (Instr.sliceAt 334 (.pointer (some ⟨w.heap.size, 0, none⟩)) none (some (.int .i64 (nDigits u : Int))) none).run Tryz.prog W = .ok (.slice (some ⟨w.heap.size, 0, none⟩) (nDigits u) 24) W := fun W => by
    rw [run_sliceAt_array_h W 334 ⟨w.heap.size, 0, none⟩ (by simp [Program.arrayLen, Program.elem, Tryz.underlying334]) .i64 (nDigits u : Int) (by omega) (by rw [hal]; omega)]
    go_simp
  have hH0 := holds_zero0 w 334 (nDigits u) (by omega)
  have hfmt := format_t w.heap.size 0 24 u (Array.replicate (nDigits u) 0) (w.alloc (.cells zeros24 334)) hH0 (by rw [Array.size_replicate]; exact lt_pow_nDigits u) hu64 (by rw [Array.size_replicate]; omega)
  rw [Array.size_replicate] at hfmt
  have HH0 := Lib.hid hH0
  have cN := numDigits_t u hu1 hu64 _ (tabIs_alloc htab (.cells zeros24 334))
  have iu : (100 : Int) ≤ (u : Int) := by omega
  have hdl : (decDigits u).length ≤ 20 := by rw [decDigits_length]; exact hnd20
  have hdl2 : (decDigits u).length = nDigits u := decDigits_length u
  clear hH0 hal
  go_enter Tryz.func158, Tryz.ntmps158
  go_wp2_with (first | (go_at_call 198; refine cN.mono ?_; rintro e w' ⟨rfl, rfl⟩))
  go_at_call 199
  refine hfmt.mono ?_
  rintro e w' ⟨rfl, k, v', dk, rfl, hF⟩
  have hcells : ∀ j u', (byteCells (decDigits u))[j]? = some u' → ((putRow (fun (b : UInt8) => Value.int .u8 (b.toNat : Int)) (w.alloc (.cells zeros24 334)) w.heap.size 0 dk).drewN k).cell? ((⟨w.heap.size, 0, none⟩ : Addr).add j) = some u' := by
    intro j u' hj
    have hjl : j < (decDigits u).length := by
      have h5 := (List.getElem?_eq_some_iff.1 hj).1
      rwa [byteCells_length] at h5
    have e5 : (byteCells (decDigits u))[j]? = some (Value.int .u8 ((decDigits u)[j].toNat : Int)) := by simp [byteCells, hjl]
    rw [e5] at hj
    cases hj
    rw [row_is_numeral hF j hjl, add_plain, World.cell?_drewN]
    exact cell?_putRow (fun (b : UInt8) => Value.int .u8 (b.toNat : Int)) _ w.heap.size 0 _ dk HH0.out (by rw [hF.size, Array.size_replicate]) j (by rw [hF.size]; omega)
  obtain ⟨os, eo⟩ := fin_at w (.cells zeros24 334) dk k 0
  have hown2 : ((putRow (fun (b : UInt8) => Value.int .u8 (b.toNat : Int)) (w.alloc (.cells zeros24 334)) w.heap.size 0 dk).drewN k).ownsRow B 5 1 sv l.length (byteCells l) := by rw [eo]; exact ownsRow_grow hown k os
  have hnx2 : Below w.heap.size w ((putRow (fun (b : UInt8) => Value.int .u8 (b.toNat : Int)) (w.alloc (.cells zeros24 334)) w.heap.size 0 dk).drewN k) := by rw [eo]; exact below_grow w.heap.size w (Nat.le_refl _) k os
  generalize (putRow (fun (b : UInt8) => Value.int .u8 (b.toNat : Int)) (w.alloc (.cells zeros24 334)) w.heap.size 0 dk).drewN k = W2 at hcells hown2 hnx2 ⊢
  have hA := ap_bytes W2 B 70 (d := decDigits u) hown2 (by have := hnx2.size; omega) ⟨w.heap.size, 0, none⟩ 24 (by rw [hdl2]; have := nDigits_pos u; omega) hcells (by rw [List.length_append]; omega)
  rw [hdl2] at hA
  clear eo HH0 hfmt hcells
  generalize hdd : decDigits u = d at *
  go_wp2_with (at_builtin; refine wpList_append_T rfl (.tmp 24) (.tmp 26) 70 70 rfl sv (.slice (some ⟨w.heap.size, 0, none⟩) (nDigits u) 24) rfl rfl hA ?_; rintro v' w1 hP)
  go_ret
  obtain ⟨v2, e2, r1, r2, r3⟩ := hP
  injection e2 with e2
  subst e2
  exact ⟨_, rfl, r1, grown_trans (grown_of_below hnx2 _) r2, r3.mono hnx2.size⟩
theorem au_any {w : World} {B u : Nat} {sv : Value} {l : List UInt8} (hu64 : u < 18446744073709551616) (hown : w.ownsRow B 5 1 sv l.length (byteCells l)) (hB : B ≤ w.heap.size) (hl : l.length ≤ 2199023255552) (htab : Tab10 w) :
    Calls Tryz.prog 158 #[sv, .int .u64 u, .int .i64 10] w (ApR w B sv l (decDigits u)) := by
  by_cases h : u < 100
  · exact au_small h hown hB hl
  · exact au_big (by omega) hu64 hown hB hl htab
set_option maxHeartbeats 6400000 in
set_option maxRecDepth 100000 in
theorem aii_any {w : World} {B : Nat} {i : Int} {sv : Value} {l : List UInt8} (h0 : -9223372036854775808 ≤ i) (h1 : i ≤ 9223372036854775807) (hown : w.ownsRow B 5 1 sv l.length (byteCells l)) (hB : B ≤ w.heap.size) (hl : l.length ≤ 1099511627776) (htab : TabBelow Tryz.prog B w "internal/strconv.uint64pow10" .u64 pow10Tab) :
    Calls Tryz.prog 125 #[sv, .int .i64 i, .int .i64 10] w (ApR w B sv l (itoa i)) := by
  by_cases hneg : i < 0
  · obtain ⟨u, rfl⟩ : ∃ u : Nat, i = -(u : Int) := ⟨i.natAbs, by omega⟩
    have hu1 : 1 ≤ u := by omega
    have hu64 : u < 18446744073709551616 := by omega
    have hwr : IntKind.u64.wrap (-IntKind.u64.wrap (-(u : Int))) = (u : Int) := by rw [IntKind.wrap_u64, IntKind.wrap_u64]; omega
    rw [itoa_neg u hu1]
    have hA := ap_bytes (w.alloc (.cells #[.int .u8 45] 5)) B 70 (d := [45]) (hown.alloc _) (by simp; omega) ⟨w.heap.size, 0, none⟩ 1 (by decide) (fun j u hj => by
      rw [Addr.add_lit, Nat.zero_add, World.cell?_alloc_at (w := w) #[.int .u8 45] 5 w.heap.size j rfl]
      simpa [byteCells] using hj) (by rw [List.length_append]; simp; omega)
    have HT := Lib.hid htab
    have HO := Lib.hid hown
    clear hown
    go_enter Tryz.func125, Tryz.ntmps125
    go_wp2_with (at_builtin; refine wpList_append_T rfl (.tmp 12) (.tmp 13) 70 70 rfl sv (.slice (some ⟨w.heap.size, 0, none⟩) 1 1) rfl rfl hA ?_; rintro v1 w1 ⟨v2, e2, r1, r2, r3⟩; injection e2 with e2; subst e2)
    have hb1 : Below B w w1 := ((Below.refl B w).alloc hB _).grown r2 (by simp; omega) (fun k hk => (HO.out.lt k hk).1)
    have cU := au_any hu64 r1 (by have := hb1.size; omega) (by rw [List.length_append]; simp; omega) (HT.out w1 hb1)
    have HR := Lib.hid (And.intro r1 (And.intro r2 r3))
    clear r1 r2 r3 hA
    go_wp2_with (go_at_call 158; refine cU.mono ?_; rintro e w2 ⟨v2, rfl, q1, q2, q3⟩)
    go_ret
    refine ⟨_, rfl, ?_, ?_, ?_⟩
    · have e : l ++ 45 :: decDigits u = l ++ [45] ++ decDigits u := by simp
      rw [e]; exact q1
    · exact grown_trans (grown_of_below ((Below.refl _ w).alloc (Nat.le_refl _) _) _) (grown_moved HR.out.2.1 HR.out.2.2 q2)
    · exact (HR.out.2.2.trans q3 HR.out.2.1.size).mono (by simp)
  · obtain ⟨u, rfl⟩ : ∃ u : Nat, i = u := ⟨i.toNat, by omega⟩
    have hu64 : u < 18446744073709551616 := by omega
    rw [Lib.itoa_nonneg]
    have cU := au_any hu64 hown hB (by omega) htab.here
    go_enter Tryz.func125, Tryz.ntmps125
    go_wp2_with (go_at_call 158; refine cU.mono ?_; rintro e w2 ⟨v2, rfl, q⟩)
    go_ret
    exact ⟨_, rfl, q⟩
set_option maxHeartbeats 6400000 in
theorem ai_any {w : World} {B : Nat} {i : Int} {sv : Value} {l : List UInt8} (h0 : -9223372036854775808 ≤ i) (h1 : i ≤ 9223372036854775807) (hown : w.ownsRow B 5 1 sv l.length (byteCells l)) (hB : B ≤ w.heap.size) (hl : l.length ≤ 1099511627776) (htab : TabBelow Tryz.prog B w "internal/strconv.uint64pow10" .u64 pow10Tab) :
    Calls Tryz.prog 86 #[sv, .int .i64 i, .int .i64 10] w (ApR w B sv l (itoa i)) := by
  have c := aii_any h0 h1 hown hB hl htab
  go_enter Tryz.func86, Tryz.ntmps86
  go_wp2_with (go_at_call 125; refine c.mono ?_; rintro e w2 ⟨v2, rfl, q⟩)
  go_ret
  exact ⟨_, rfl, q⟩
end Go.Proofs.YtahamkajkkkjdaaGreatDoor
namespace Go.Proofs.YtahamkajkkkjdaaGreatDoor
open Go.RowKit
set_option linter.unusedVariables false
set_option linter.unusedSimpArgs false
structure Wf (B b : Nat) (w w' : World) : Prop where
  below : Below B w w'
  kt : ∀ t, t ≠ 5 → t ≠ 98 → Kt t w w'
  oth : ∀ k cs, k ≠ b → w.heap[k]? = some (.cells cs 98 (0, 0)) → w'.heap[k]? = some (.cells cs 98 (0, 0))
theorem Wf.refl (B b : Nat) (w : World) : Wf B b w w := ⟨Below.refl _ _, fun t _ _ => Kt.refl t w, fun _ _ _ h => h⟩
theorem Wf.trans {B p : Nat} {a b c : World} (h : Wf B p a b) (k : Wf B p b c) : Wf B p a c := ⟨h.below.trans k.below, fun t h1 h2 => (h.kt t h1 h2).trans (k.kt t h1 h2), fun x cs hx e => k.oth x cs hx (h.oth x cs hx e)⟩
theorem Wf.of_below {B b : Nat} {w w' : World} (h : Below w.heap.size w w') (hb : B ≤ w.heap.size) : Wf B b w w' := ⟨h.mono hb, fun t _ _ => .of_below h, fun k cs _ e => (h.block k (Array.getElem?_eq_some_iff.1 e).1).trans e⟩
structure Wr (w : World) (B b : Nat) (l : List UInt8) : Prop where
  le : B ≤ b
  row : ∃ v, w.heap[b]? = some (.cells #[v] 98 (0, 0)) ∧ w.ownsRow B 5 1 v l.length (Lib.byteCells l)
  tab : Lib.TabBelow Tryz.prog B w "internal/strconv.uint64pow10" .u64 Lib.pow10Tab
theorem Wr.lt {w : World} {B b : Nat} {l : List UInt8} (h : Wr w B b l) : b < w.heap.size := by
  obtain ⟨v, h1, _⟩ := h.row
  exact (Array.getElem?_eq_some_iff.1 h1).1
theorem Wr.hB {w : World} {B b : Nat} {l : List UInt8} (h : Wr w B b l) : B ≤ w.heap.size := Nat.le_trans h.le (Nat.le_of_lt h.lt)
theorem Wr.on {w w' : World} {B b : Nat} {l : List UInt8} (h : Wr w B b l) (hB : Below w.heap.size w w') : Wr w' B b l := by
  obtain ⟨v, h1, h2⟩ := h.row
  exact ⟨h.le, ⟨v, (hB.block b h.lt).trans h1, own_kt h2 (.of_below hB)⟩, h.tab.on (hB.mono h.hB)⟩
theorem own_lt1 {w : World} {B n : Nat} {v : Value} {xs : List Value} (h : w.ownsRow B 5 1 v n xs) : ∀ k, v.ownBlock = some k → k < w.heap.size ∧ Ty w k 5 := by
  intro k hk
  rcases h.2 with ⟨rfl, _⟩ | ⟨g, cap, cur, rfl, _, hg, _⟩
  · cases hk
  · have : g = k := by simpa [Value.ownBlock] using hk
    subst this
    exact ⟨(Array.getElem?_eq_some_iff.1 hg).1, _, hg⟩
theorem Kt.of_row5 {w w' : World} {B n : Nat} {v : Value} {xs : List Value} (h : w.ownsRow B 5 1 v n xs) (hg : w.grownBy w' v.ownBlock) {t : TypeId} (ht : t ≠ 5) : Kt t w w' := Kt.of_own h (fun e => ht e.symm) hg
theorem wr_put {w W1 : World} {B b : Nat} {l l' : List UInt8} {v0 v : Value} (h : Wr w B b l) (hb : w.heap[b]? = some (.cells #[v0] 98 (0, 0))) (h1 : Wf B b w W1) (hK : Kt 98 w W1) (hown : W1.ownsRow B 5 1 v l'.length (Lib.byteCells l')) :
    Wr (W1.setCell ⟨b, 0, none⟩ v) B b l' ∧ Wf B b w (W1.setCell ⟨b, 0, none⟩ v) := by
  have hb1 := hK.2 b _ hb
  have hbel := h1.below.setCell (p := ⟨b, 0, none⟩) h.le v
  refine ⟨⟨h.le, ⟨v, heap_setCell_same W1 b 0 _ 98 v hb1, own_kt hown ((Kt.refl _ _).set hb1 (by decide) _ _)⟩, h.tab.on hbel⟩, hbel, fun t h5 h6 => (h1.kt t h5 h6).set hb1 (fun e => h6 e.symm) _ _, fun k cs hk e => (heap_setCell_other W1 _ k v hk).trans (h1.oth k cs hk e)⟩
set_option maxHeartbeats 8000000 in
set_option maxRecDepth 100000 in
theorem wnum_any {w : World} {B b : Nat} {l : List UInt8} (h : Wr w B b l) {a : Addr} {n : Int} (hn : w.cell? a = some (.int .i64 n)) (h0 : -9223372036854775808 ≤ n) (h1 : n ≤ 9223372036854775807) (hl : l.length ≤ 1099511627776) :
    Calls Tryz.prog 57 #[.pointer (some ⟨b, 0, none⟩), .pointer (some a)] w fun e w' => e = .returned (.tuple #[]) ∧ Wr w' B b (l ++ encN n) ∧ Wf B b w w' := by
  obtain ⟨sv, hb, hown⟩ := h.row
  obtain ⟨ao, cp, rfl⟩ := own_slice hown
  have hlt := own_lt1 hown
  have c0 : w.cell? ⟨b, 0, none⟩ = some (.slice ao l.length cp) := cell_at hb rfl
  have d0 := cellOld c0 (.cells #[.int .u8 32] 5)
  have d1 := cellOld hn (.cells #[.int .u8 32] 5)
  have HA : Hid (∀ W, Below w.heap.size w W → Calls Tryz.prog 86 #[.slice ao l.length cp, .int .i64 n, .int .i64 10] W fun e w' => ∃ a' n' c', e = .returned (.slice a' n' c') ∧ w'.ownsRow B 5 1 (.slice a' n' c') (l ++ Lib.itoa n).length (Lib.byteCells (l ++ Lib.itoa n)) ∧ W.grownBy w' (Value.slice ao l.length cp).ownBlock ∧ w'.heap[b]? = some (.cells #[.slice ao l.length cp] 98 (0, 0))) := fun W hW => by
    refine (ai_any h0 h1 (own_kt hown (.of_below hW)) (Nat.le_trans h.hB hW.size) hl (h.tab.on (hW.mono h.hB))).mono ?_
    rintro e w' ⟨v, rfl, r1, r2, r3⟩
    obtain ⟨a', c', rfl⟩ := own_slice r1
    exact ⟨a', _, c', rfl, r1, r2, (Kt.of_row5 (own_kt hown (.of_below hW)) r2 (by decide)).2 b _ ((hW.block b h.lt).trans hb)⟩
  have hil := Lib.itoa_length_le n h0 h1
  have HP : Hid (∀ W1 v1, W1.ownsRow B 5 1 v1 (l ++ Lib.itoa n).length (Lib.byteCells (l ++ Lib.itoa n)) → B ≤ W1.heap.size → W1.heap[b]? = some (.cells #[.slice ao l.length cp] 98 (0, 0)) → ∀ g, W1.heap[g]? = some (.cells #[.int .u8 32] 5 (0, 0)) → ∃ v' w', (Builtin.append_ #[70, 70] 70 #[v1, .slice (some ⟨g, 0, none⟩) 1 1]).run Tryz.prog W1 = .ok v' w' ∧ ((∃ a2 n2 d2, v' = .slice a2 n2 d2) ∧ w'.ownsRow B 5 1 v' (l ++ encN n).length (Lib.byteCells (l ++ encN n)) ∧ W1.grownBy w' v1.ownBlock ∧ w'.heap[b]? = some (.cells #[.slice ao l.length cp] 98 (0, 0)))) := fun W1 v1 ho hB hb1 g hg => by
    obtain ⟨v', w', r1, v2, e2, r2, r3, _⟩ := ap_bytes W1 B 70 (d := [32]) ho hB ⟨g, 0, none⟩ 1 (by decide) (fun j u hj => by
      rw [Addr.add_lit, Nat.zero_add]
      exact cell_at hg (by simpa [Lib.byteCells] using hj)) (by simp only [List.length_append, List.length_cons, List.length_nil]; omega)
    injection e2 with e2
    subst e2
    have e : l ++ encN n = l ++ Lib.itoa n ++ [32] := by unfold encN; simp
    rw [e]
    exact ⟨v', w', r1, (own_slice r2).imp fun a h => ⟨_, h⟩, r2, r3, (Kt.of_row5 ho r3 (by decide)).2 b _ hb1⟩
  have HF : Hid (∀ W0 W1 v1 W2 w3 v3, Below w.heap.size w W0 → W1.ownsRow B 5 1 v1 (l ++ Lib.itoa n).length (Lib.byteCells (l ++ Lib.itoa n)) → W0.grownBy W1 (Value.slice ao l.length cp).ownBlock → Below W1.heap.size W1 W2 → w3.ownsRow B 5 1 v3 (l ++ encN n).length (Lib.byteCells (l ++ encN n)) → W2.grownBy w3 v1.ownBlock → Wr (w3.setCell ⟨b, 0, none⟩ v3) B b (l ++ encN n) ∧ Wf B b w (w3.setCell ⟨b, 0, none⟩ v3)) := fun W0 W1 v1 W2 w3 v3 hB0 ho1 hg1 hB2 ho3 hg3 => by
    have hown0 := own_kt hown (Kt.of_below hB0)
    have ho2 := own_kt ho1 (Kt.of_below hB2)
    have kk : ∀ t, t ≠ 5 → Kt t w w3 := fun t ht => (((Kt.of_below hB0).trans (Kt.of_row5 hown0 hg1 ht)).trans (.of_below hB2)).trans (Kt.of_row5 ho2 hg3 ht)
    have bb : Below B w w3 := (((hB0.mono h.hB).grown hg1 (Nat.le_trans h.hB hB0.size) (fun k hk => (hown0.lt k hk).1)).trans (hB2.mono (Nat.le_trans h.hB (Nat.le_trans hB0.size hg1.size)))).grown hg3 (by have := h.hB; have := hB0.size; have := hg1.size; have := hB2.size; omega) (fun k hk => (ho2.lt k hk).1)
    exact wr_put h hb ⟨bb, fun t h5 _ => kk t h5, fun k cs _ e => (kk 98 (by decide)).2 k cs e⟩ (kk _ (by decide)) ho3
  have HL := Lib.hid hlt
  have HBs := Lib.hid h.hB
  clear hlt hown hb hil h
  go_enter Tryz.func57, Tryz.ntmps57
  go_region_law (first
    | (go_simp; go_at_call 86; refine (HA.out _ (by first | exact bD (Below.refl _ _) | exact bA (Below.refl _ _) (Nat.le_refl _) _ | exact bD (bA (Below.refl _ _) (Nat.le_refl _) _) | exact bA (bD (Below.refl _ _)) (Nat.le_refl _) _)).mono ?_; rintro e W1 ⟨a1, n1, c1, rfl, ho1, hg1, hm1⟩; have HO := Lib.hid (And.intro ho1 (And.intro hg1 hm1)); clear ho1 hg1 hm1)
    | (refine step_append_T rfl (.tmp 12) (.tmp 13) 70 70 rfl _ _ (by simp [Act.eval, Act.put]; rfl) (by simp [Act.eval, Act.put]; rfl) (HP.out _ _ (by first | exact HO.out.1 | exact HO.out.1.alloc _) (by have := HO.out.2.1.size; have := HBs.out; simp at *; omega) (by first | exact HO.out.2.2 | exact (Below.heap_alloc _ _ _ (Array.getElem?_eq_some_iff.1 HO.out.2.2).1).trans HO.out.2.2) _ (by first | exact heap_alloc_new _ _ | exact (HO.out.2.1.block _ (by simp) (fun e => by have := (HL.out _ e.symm).1; simp at this)).trans (heap_alloc_new w _))) ?_; rintro v2 w2 ⟨⟨a2, n2, d2, rfl⟩, ho2, hg2, hb2⟩; have k0 : w2.cell? ⟨b, 0, none⟩ = some (.slice ao l.length cp) := cell_at hb2 rfl; have k1 : w2.frozen? ⟨b, 0, none⟩ = false := frz_at hb2; have HQ := Lib.hid (And.intro ho2 hg2); clear ho2 hg2 hb2))
  all_goals
    go_end0
    refine ⟨rfl, ?_⟩
    first
      | exact HF.out _ _ _ _ _ _ (bD (Below.refl _ _)) HO.out.1 HO.out.2.1 (bA (Below.refl _ _) (Nat.le_refl _) _) HQ.out.1 HQ.out.2
      | exact HF.out _ _ _ _ _ _ (bD (bA (Below.refl _ _) (Nat.le_refl _) _)) HO.out.1 HO.out.2.1 (Below.refl _ _) HQ.out.1 HQ.out.2
      | exact HF.out _ _ _ _ _ _ (bA (bD (Below.refl _ _)) (Nat.le_refl _) _) HO.out.1 HO.out.2.1 (Below.refl _ _) HQ.out.1 HQ.out.2
end Go.Proofs.YtahamkajkkkjdaaGreatDoor
