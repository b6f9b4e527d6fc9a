import Derived.Test.YtahamkajkkkjdaaGreatDoorM01
import Derived.Shelf.Strconv.AtoiAll
import Derived.Shelf.Bytes.SlCut
import Derived.Ground.SlbtProg
import Derived.Lib.AtoiErrMem
import Derived.Test.YtahamkajkkkjdaaGreatDoorProg
import Derived.Shelf.Abstract
import Derived.Lib.Hide
import Derived.Deep.RegionLaw
import Derived.Deep.DeepCutAuto
import Derived.BigQuiet
import Derived.BigCall
import Derived.Deep.RegionHeld3
import Derived.Lib.SlBytesConst
namespace Go.Proofs.YtahamkajkkkjdaaGreatDoor
open Go.RowKit Go.Shelf
set_option linter.unusedVariables false
set_option linter.unusedSimpArgs false
shelf_lay SlLaysT.n4 Slbt 4 at Tryz as cutLg
shelf_lay LaysC.n172 Nm 172 at Tryz as atLg
structure Env (w : World) : Prop where
  sz : 7 ≤ w.heap.size
  mx : ∃ m : Int, w.cell? ⟨1, 0, none⟩ = some (.int .i64 m)
  es : ∃ t p, w.cell? ⟨2, 0, none⟩ = some (.iface t p)
  er : ∃ t p, w.cell? ⟨3, 0, none⟩ = some (.iface t p)
  tab : Lib.TabBelow Tryz.prog 7 w "internal/strconv.uint64pow10" .u64 Lib.pow10Tab
theorem Env.on {w w' : World} (h : Env w) (hB : Below 7 w w') : Env w' := by
  obtain ⟨h0, ⟨m, h1⟩, ⟨t, p, h2⟩, ⟨t', p', h3⟩, h4⟩ := h
  exact ⟨Nat.le_trans h0 hB.size, ⟨m, (hB.cell (p := ⟨1, 0, none⟩) (by decide)).trans h1⟩, ⟨t, p, (hB.cell (p := ⟨2, 0, none⟩) (by decide)).trans h2⟩, ⟨t', p', (hB.cell (p := ⟨3, 0, none⟩) (by decide)).trans h3⟩, h4.on hB⟩
def By (w : World) (v : Value) (r : List UInt8) : Prop :=
  ∃ p c, v = .slice p r.length c ∧ r.length ≤ c ∧ (p = none → c = 0) ∧ (r = [] ∨ ∃ g off cs, p = some ⟨g, off, none⟩ ∧ w.heap[g]? = some (.cells cs 5 (0, 0)) ∧ ∀ j (h : j < r.length), cs[off + j]? = some (.int .u8 (r[j].toNat : Int)))
theorem By.kt {w w' : World} {v : Value} {r : List UInt8} (h : By w v r) (hk : Kt 5 w w') : By w' v r := by
  obtain ⟨p, c, rfl, h1, h2, h3⟩ := h
  refine ⟨p, c, rfl, h1, h2, ?_⟩
  rcases h3 with h | ⟨g, off, cs, e, hg, hc⟩
  · exact .inl h
  · exact .inr ⟨g, off, cs, e, hk.2 g cs hg, hc⟩
theorem By.drop {w : World} {p : Option Addr} {n c k : Nat} {r : List UInt8} (h : By w (.slice p n c) r) (hk : k ≤ r.length) : By w (Lib.fromV p n c k) (r.drop k) := by
  obtain ⟨p', c', e, h1, h2, h3⟩ := h
  injection e with e1 e2 e3
  subst e1 e2 e3
  unfold Lib.fromV
  refine ⟨_, c - k, by rw [List.length_drop], by rw [List.length_drop]; omega, fun hp => ?_, ?_⟩
  · by_cases hck : c = k
    · omega
    · rw [if_neg hck] at hp
      have : p = none := by simpa using hp
      have := h2 this
      omega
  · by_cases hl : k = r.length
    · left; rw [hl]; simp
    · right
      rcases h3 with rfl | ⟨g, off, cs, rfl, hg, hc⟩
      · simp at hk; simp at hl; omega
      · rw [if_neg (by omega)]
        refine ⟨g, off + k, cs, by simp [Addr.add], hg, fun j hj => ?_⟩
        rw [List.length_drop] at hj
        rw [Nat.add_assoc, hc (k + j) (by omega), List.getElem_drop]
theorem By.take {w : World} {p : Option Addr} {n c k : Nat} {r : List UInt8} (h : By w (.slice p n c) r) (hk : k ≤ r.length) : By w (.slice p k c) (r.take k) := by
  obtain ⟨p', c', e, h1, h2, h3⟩ := h
  injection e with e1 e2 e3
  subst e1 e2 e3
  refine ⟨p, c, by rw [List.length_take, Nat.min_eq_left hk], by rw [List.length_take]; omega, h2, ?_⟩
  by_cases hk0 : k = 0
  · left; rw [hk0]; rfl
  · right
    rcases h3 with rfl | ⟨g, off, cs, rfl, hg, hc⟩
    · simp at hk; omega
    · refine ⟨g, off, cs, rfl, hg, fun j hj => ?_⟩
      rw [List.length_take] at hj
      rw [hc j (by omega), List.getElem_take]
theorem By.len {w : World} {p : Option Addr} {n c : Nat} {r : List UInt8} (h : By w (.slice p n c) r) : n = r.length ∧ r.length ≤ c := by
  obtain ⟨p', c', e, h1, h2, h3⟩ := h
  injection e with e1 e2 e3
  exact ⟨e2, by omega⟩
abbrev nums (r : List UInt8) : List Int := r.map fun b => (b.toNat : Int)
theorem By.bytesIn {w : World} {p : Option Addr} {n c : Nat} {r : List UInt8} (h : By w (.slice p n c) r) : Lib.BytesIn w p n (nums r) := fun hn => by
  obtain ⟨p', c', e, h1, h2, h3⟩ := h
  injection e with e1 e2 e3
  subst e1 e2 e3
  rcases h3 with rfl | ⟨g, off, cs, rfl, hg, hc⟩
  · simp at hn
  · refine ⟨g, off, rfl, fun i hi => (cell_at hg (hc i hi)).trans ?_⟩
    simp [List.getD, hi]
theorem bytesOf_nums (r : List UInt8) : Lib.bytesOf (nums r) = r := by
  unfold Lib.bytesOf nums
  rw [List.map_map]
  conv => rhs; rw [← List.map_id r]
  apply List.map_congr_left
  intro x _
  simp
theorem cut_any {w : World} {p : Option Addr} {n c : Nat} {r : List UInt8} {g d : Nat} (h : By w (.slice p n c) r) (hg : w.cell? ⟨g, 0, none⟩ = some (.int .u8 32)) (hE : Env w) (hl : r.length ≤ 4294967280) :
    Calls Tryz.prog 37 #[.slice p n c, .slice (some ⟨g, 0, none⟩) 1 d] w fun e w' => e = .returned (Lib.cutV p n c 1 (Lib.index r [32])) ∧ ∃ q, w' = w.drewN q := by
  obtain ⟨m, hm⟩ := hE.mx
  obtain ⟨hn, hc⟩ := h.len
  have hp : p = none → c = 0 := by
    obtain ⟨p', c', e, h1, h2, h3⟩ := h
    injection e with e1 e2 e3
    subst e1 e3
    exact h2
  have := Any.bytes_Cut_all cutLg p (some ⟨g, 0, none⟩) n c 1 d (nums r) [32] m w (by simp [hn]) rfl (fun x hx => by
    simp only [List.mem_map] at hx
    obtain ⟨b, _, rfl⟩ := hx
    have := b.toNat_lt
    omega) (fun y hy => by simp at hy; subst hy; omega) h.bytesIn (fun _ => ⟨g, 0, rfl, fun i hi => by
      obtain rfl : i = 0 := by omega
      exact hg⟩) hp (by omega) (by omega) (by omega) hm
  rw [bytesOf_nums] at this
  exact this
theorem atoi_ok (s : ByteArray) (hmax : s.size ≤ 9223372036854775806) (v : Int) (h : Lib.atoiAll s.data.toList = .ok v) (w : World) :
    Calls Tryz.prog 38 #[.string s] w fun e w' => e = .returned (.tuple #[.int .i64 v, .nilIface]) ∧ (w' = w ∨ ∃ t, w' = Lib.bytesWorld w 5 t) := Any.strconv_Atoi_ok atLg s hmax v h w
set_option maxRecDepth 100000 in
theorem atoi_any {w : World} (hE : Env w) (l : List UInt8) (hl : l.length ≤ 4294967280) :
    Calls Tryz.prog 38 #[.string ⟨l.toArray⟩] w fun e w' => ∃ (z : Int) (ev : Value), e = .returned (.tuple #[.int .i64 z, ev]) ∧ (∀ v, Lib.atoiAll l = .ok v → z = v ∧ ev = .nilIface) ∧ ((∀ v, Lib.atoiAll l ≠ .ok v) → ∃ t x, ev = .iface t x) ∧ Below w.heap.size w w' := by
  have hs : (⟨l.toArray⟩ : ByteArray).size = l.length := by simp [ByteArray.size]
  have hd : (⟨l.toArray⟩ : ByteArray).data.toList = l := by simp
  cases ha : Lib.atoiAll l with
  | ok v =>
    have hmx : (⟨l.toArray⟩ : ByteArray).size ≤ 9223372036854775806 := (by omega)
    refine (atoi_ok ⟨l.toArray⟩ hmx v (by rw [hd]; exact ha) w).mono ?_
    rintro e w' ⟨rfl, hw⟩
    refine ⟨v, .nilIface, rfl, fun x hx => ⟨by injection hx, rfl⟩, fun hx => absurd rfl (hx v), ?_⟩
    rcases hw with rfl | ⟨t, rfl⟩
    · exact Below.refl _ _
    · exact Lib.bytesWorld_below _ _ _
  | «syntax» =>
    obtain ⟨t, p, hv⟩ := hE.es
    refine (Any.strconv_Atoi_syntax atLg ⟨l.toArray⟩ (by omega) (by rw [hd]; exact ha) _ w hv (.inr ⟨t, p, rfl⟩)).mono ?_
    rintro e w' ⟨N, rfl, _, _, hB⟩
    exact ⟨_, _, rfl, fun x hx => (by cases hx), fun _ => ⟨_, _, rfl⟩, hB⟩
  | range =>
    obtain ⟨t, p, hv⟩ := hE.er
    refine (Any.strconv_Atoi_range atLg ⟨l.toArray⟩ (by omega) (by rw [hd]; exact ha) _ w hv (.inr ⟨t, p, rfl⟩)).mono ?_
    rintro e w' ⟨N, rfl, _, _, hB⟩
    exact ⟨_, _, rfl, fun x hx => (by cases hx), fun _ => ⟨_, _, rfl⟩, hB⟩
theorem By.at {w : World} {p : Option Addr} {n c : Nat} {r : List UInt8} (h : By w (.slice p n c) r) (hr : r ≠ []) : ∃ g off, p = some ⟨g, off, none⟩ ∧ n = r.length ∧ ∀ j (hj : j < r.length), w.cell? ((⟨g, off, none⟩ : Addr).add j) = some (.int .u8 (r[j].toNat : Int)) := by
  obtain ⟨p', c', e, h1, h2, h3⟩ := h
  injection e with e1 e2 e3
  rcases h3 with h3 | ⟨g, off, cs, h3, hg, hc⟩
  · exact absurd h3 hr
  · exact ⟨g, off, e1.trans h3, e2, fun j hj => by rw [Lib.add_plain]; exact cell_at hg (hc j hj)⟩
theorem conv_any {w : World} {p : Option Addr} {n c : Nat} {r : List UInt8} (h : By w (.slice p n c) r) (hr : r ≠ []) : (convert 70 9 (.slice p n c)).run Tryz.prog w = .ok (.string ⟨r.toArray⟩) w := by
  obtain ⟨g, off, e1, e2, hc⟩ := h.at hr
  rw [e1, e2]
  exact Go.run_convert_bytes_back (P := Tryz.prog) w 70 9 5 ⟨g, off, none⟩ c r Tryz.underlying70 Tryz.underlying5 Tryz.underlying9 hc
end Go.Proofs.YtahamkajkkkjdaaGreatDoor
namespace Go.Proofs.YtahamkajkkkjdaaGreatDoor
open Go.RowKit
set_option linter.unusedVariables false
set_option linter.unusedSimpArgs false
structure Bx (B : Nat) (l : List Nat) (w w' : World) : Prop where
  os : w'.os = w.os
  tape : w'.tape = w.tape
  output : w'.output = w.output
  size : w.heap.size ≤ w'.heap.size
  block : ∀ k, k < B → k ∉ l → w'.heap[k]? = w.heap[k]?
theorem Bx.refl (B : Nat) (l : List Nat) (w : World) : Bx B l w w := ⟨rfl, rfl, rfl, Nat.le_refl _, fun _ _ _ => rfl⟩
theorem Bx.trans {B : Nat} {l : List Nat} {a b c : World} (h : Bx B l a b) (k : Bx B l b c) : Bx B l a c :=
  ⟨k.os.trans h.os, k.tape.trans h.tape, k.output.trans h.output, Nat.le_trans h.size k.size, fun i hi hn => (k.block i hi hn).trans (h.block i hi hn)⟩
theorem Bx.of_below {B B' : Nat} {l : List Nat} {w w' : World} (h : Below B' w w') (hB : B ≤ B') : Bx B l w w' := ⟨h.os, h.tape, h.output, h.size, fun k hk _ => h.block k (Nat.lt_of_lt_of_le hk hB)⟩
theorem Bx.of_grown {B : Nat} {l : List Nat} {w w' : World} {r : Option Nat} (h : w.grownBy w' r) (hB : B ≤ w.heap.size) (hr : ∀ g, r = some g → g ∈ l ∨ B ≤ g) : Bx B l w w' :=
  ⟨h.os, h.tape, h.output, h.size, fun k hk hn => h.block k (Nat.lt_of_lt_of_le hk hB) (fun e => by
    rcases hr k e.symm with h1 | h1
    · exact hn h1
    · omega)⟩
theorem Bx.sub {B : Nat} {l l' : List Nat} {w w' : World} (h : Bx B l w w') (hs : ∀ x ∈ l, x ∈ l') : Bx B l' w w' := ⟨h.os, h.tape, h.output, h.size, fun k hk hn => h.block k hk (fun hx => hn (hs k hx))⟩
theorem Bx.below {B B' : Nat} {l : List Nat} {w w' : World} (h : Bx B l w w') (hB : B' ≤ B) (hl : ∀ x ∈ l, B' ≤ x) : Below B' w w' := ⟨h.os, h.tape, h.output, h.size, fun k hk => h.block k (Nat.lt_of_lt_of_le hk hB) (fun hx => by have := hl k hx; omega)⟩
theorem bx_set {B : Nat} {l : List Nat} {a w : World} (h : Bx B l a w) {g : Nat} (hg : g ∈ l ∨ B ≤ g) (i : Nat) (u : Value) : Bx B l a (w.setCell ⟨g, i, none⟩ u) :=
  ⟨h.os, h.tape, h.output, by have := h.size; simpa using this, fun k hk hn => (heap_setCell_other w ⟨g, i, none⟩ k u (fun e => by
    simp only at e
    subst e
    rcases hg with h1 | h1
    · exact hn h1
    · omega)).trans (h.block k hk hn)⟩
theorem bx_alloc {B : Nat} {l : List Nat} {a w : World} (h : Bx B l a w) (hB : B ≤ w.heap.size) (o : Obj) : Bx B l a (w.alloc o) := h.trans (.of_below (bA (Below.refl _ _) (Nat.le_refl _) o) hB)
theorem bx_drew {B : Nat} {l : List Nat} {a w : World} (h : Bx B l a w) : Bx B l a w.drew := ⟨h.os, h.tape, h.output, h.size, h.block⟩
structure Fm (T : TypeId) (fn ft fb : FuncId) : Prop where
  mn : ∀ v W, (Go.method 515 T v "kinshape/log.number").run Tryz.prog W = .ok (fn, v) W
  mt : ∀ v W, (Go.method 515 T v "kinshape/log.text").run Tryz.prog W = .ok (ft, v) W
  mb : ∀ v W, (Go.method 515 T v "kinshape/log.truth").run Tryz.prog W = .ok (fb, v) W
  nn : ∀ p W, (nilAhead 515 T (.pointer (some p)) "kinshape/log.number").run Tryz.prog W = .ok (some false) W
  nt : ∀ p W, (nilAhead 515 T (.pointer (some p)) "kinshape/log.text").run Tryz.prog W = .ok (some false) W
  nb : ∀ p W, (nilAhead 515 T (.pointer (some p)) "kinshape/log.truth").run Tryz.prog W = .ok (some false) W
  en : ∀ args w, (callFunc fn args).run Tryz.prog w = .ok (.enter fn args) w
  et : ∀ args w, (callFunc ft args).run Tryz.prog w = .ok (.enter ft args) w
  eb : ∀ args w, (callFunc fb args).run Tryz.prog w = .ok (.enter fb args) w
def Ret (P : World → Prop) (e : Ending) (w' : World) : Prop := e = .returned (.tuple #[]) ∧ P w'
section
variable {T : TypeId} {fn ft fb : FuncId}
set_option maxHeartbeats 8000000 in
set_option maxRecDepth 100000 in
theorem val_walk (F : Fm T fn ft fb) {p : Addr} {w : World} {g off : Nat} {P0 P1 P2 P3 : World → Prop} (h0 : P0 w)
    (c1 : ∀ W, P0 W → Calls Tryz.prog fn #[.pointer (some p), .pointer (some ⟨g, off, none⟩)] W.drew (Ret P1))
    (c2 : ∀ W, P1 W → Calls Tryz.prog fn #[.pointer (some p), .pointer (some ⟨g, off + 1, none⟩)] W.drew (Ret P2))
    (c3 : ∀ W, P2 W → Calls Tryz.prog ft #[.pointer (some p), .pointer (some ⟨g, off + 2, none⟩)] W.drew (Ret P3)) :
    Calls Tryz.prog 81 #[.iface T (.pointer (some p)), .pointer (some ⟨g, off, none⟩)] w (Ret P3) := by
  have xn := F.mn
  have yn := F.nn
  have zn := F.en
  have xt := F.mt
  have yt := F.nt
  have zt := F.et
  go_enter Tryz.func81, Tryz.ntmps81
  go_upto_region 0 with fail
  go_region_law (go_simp; go_at_fn fn; refine (c1 _ h0).mono ?_; rintro e W1 ⟨rfl, h1⟩)
  go_upto_region 1 with fail
  go_region_law (go_simp; go_at_fn fn; refine (c2 _ h1).mono ?_; rintro e W2 ⟨rfl, h2⟩)
  go_upto_region 2 with fail
  go_region_law (go_simp; go_at_fn ft; refine (c3 _ h2).mono ?_; rintro e W3 ⟨rfl, h3⟩)
  go_wp2
  go_end0
  exact ⟨rfl, h3⟩
set_option maxHeartbeats 8000000 in
set_option maxRecDepth 100000 in
theorem prop_walk (F : Fm T fn ft fb) {p : Addr} {w : World} {g off : Nat} {P0 P1 P2 : World → Prop} (h0 : P0 w)
    (c1 : ∀ W, P0 W → Calls Tryz.prog ft #[.pointer (some p), .pointer (some ⟨g, off, none⟩)] W.drew (Ret P1))
    (c2 : ∀ W, P1 W → Calls Tryz.prog 81 #[.iface T (.pointer (some p)), .pointer (some ⟨g, off + 1, none⟩)] W (Ret P2)) :
    Calls Tryz.prog 84 #[.iface T (.pointer (some p)), .pointer (some ⟨g, off, none⟩)] w (Ret P2) := by
  have xt := F.mt
  have yt := F.nt
  have zt := F.et
  go_enter Tryz.func84, Tryz.ntmps84
  go_upto_region 0 with fail
  go_region_law (go_simp; go_at_fn ft; refine (c1 _ h0).mono ?_; rintro e W1 ⟨rfl, h1⟩)
  go_wp2_with (first | (go_at_call 81; refine (c2 _ h1).mono ?_; rintro e W2 ⟨rfl, h2⟩; refine Hid.out ?_))
  refine Lib.hid ?_
  go_wp2
  go_end0
  exact ⟨rfl, h2⟩
set_option maxHeartbeats 8000000 in
set_option maxRecDepth 100000 in
theorem node_walk (F : Fm T fn ft fb) {p : Addr} {w : World} {g off : Nat} {P0 P1 P2 P3 : World → Prop} (h0 : P0 w)
    (c1 : ∀ W, P0 W → Calls Tryz.prog fn #[.pointer (some p), .pointer (some ⟨g, off, none⟩)] W.drew (Ret P1))
    (c2 : ∀ W, P1 W → Calls Tryz.prog ft #[.pointer (some p), .pointer (some ⟨g, off + 1, none⟩)] W.drew (Ret P2))
    (c3 : ∀ W, P2 W → Calls Tryz.prog 124 #[.iface T (.pointer (some p)), .pointer (some ⟨g, off + 2, none⟩), .func (.func 84) #[] #[]] W (Ret P3)) :
    Calls Tryz.prog 83 #[.iface T (.pointer (some p)), .pointer (some ⟨g, off, none⟩)] w (Ret P3) := by
  have xn := F.mn
  have yn := F.nn
  have zn := F.en
  have xt := F.mt
  have yt := F.nt
  have zt := F.et
  go_enter Tryz.func83, Tryz.ntmps83
  go_upto_region 0 with fail
  go_region_law (go_simp; go_at_fn fn; refine (c1 _ h0).mono ?_; rintro e W1 ⟨rfl, h1⟩)
  go_upto_region 1 with fail
  go_region_law (go_simp; go_at_fn ft; refine (c2 _ h1).mono ?_; rintro e W2 ⟨rfl, h2⟩)
  go_wp2_with (first | (go_at_call 124; refine (c3 _ h2).mono ?_; rintro e W3 ⟨rfl, h3⟩; refine Hid.out ?_))
  refine Lib.hid ?_
  go_wp2
  go_end0
  exact ⟨rfl, h3⟩
set_option maxHeartbeats 8000000 in
set_option maxRecDepth 100000 in
theorem tie_walk (F : Fm T fn ft fb) {p : Addr} {w : World} {g off : Nat} {P0 P1 P2 P3 : World → Prop} (h0 : P0 w)
    (c1 : ∀ W, P0 W → Calls Tryz.prog ft #[.pointer (some p), .pointer (some ⟨g, off, none⟩)] W.drew (Ret P1))
    (c2 : ∀ W, P1 W → Calls Tryz.prog fn #[.pointer (some p), .pointer (some ⟨g, off + 1, none⟩)] W.drew (Ret P2))
    (c3 : ∀ W, P2 W → Calls Tryz.prog fn #[.pointer (some p), .pointer (some ⟨g, off + 2, none⟩)] W.drew (Ret P3)) :
    Calls Tryz.prog 85 #[.iface T (.pointer (some p)), .pointer (some ⟨g, off, none⟩)] w (Ret P3) := by
  have xn := F.mn
  have yn := F.nn
  have zn := F.en
  have xt := F.mt
  have yt := F.nt
  have zt := F.et
  go_enter Tryz.func85, Tryz.ntmps85
  go_upto_region 0 with fail
  go_region_law (go_simp; go_at_fn ft; refine (c1 _ h0).mono ?_; rintro e W1 ⟨rfl, h1⟩)
  go_upto_region 1 with fail
  go_region_law (go_simp; go_at_fn fn; refine (c2 _ h1).mono ?_; rintro e W2 ⟨rfl, h2⟩)
  go_upto_region 2 with fail
  go_region_law (go_simp; go_at_fn fn; refine (c3 _ h2).mono ?_; rintro e W3 ⟨rfl, h3⟩)
  go_wp2
  go_end0
  exact ⟨rfl, h3⟩
set_option maxHeartbeats 8000000 in
set_option maxRecDepth 100000 in
theorem field_walk (F : Fm T fn ft fb) {p : Addr} {w : World} {g off : Nat} {P0 P1 P2 P3 P4 : World → Prop} (h0 : P0 w)
    (c1 : ∀ W, P0 W → Calls Tryz.prog ft #[.pointer (some p), .pointer (some ⟨g, off, none⟩)] W.drew (Ret P1))
    (c2 : ∀ W, P1 W → Calls Tryz.prog fn #[.pointer (some p), .pointer (some ⟨g, off + 1, none⟩)] W.drew (Ret P2))
    (c3 : ∀ W, P2 W → Calls Tryz.prog fb #[.pointer (some p), .pointer (some ⟨g, off + 2, none⟩)] W.drew (Ret P3))
    (c4 : ∀ W, P3 W → Calls Tryz.prog fb #[.pointer (some p), .pointer (some ⟨g, off + 3, none⟩)] W.drew (Ret P4)) :
    Calls Tryz.prog 80 #[.iface T (.pointer (some p)), .pointer (some ⟨g, off, none⟩)] w (Ret P4) := by
  have xb := F.mb
  have yb := F.nb
  have zb := F.eb
  have xn := F.mn
  have yn := F.nn
  have zn := F.en
  have xt := F.mt
  have yt := F.nt
  have zt := F.et
  go_enter Tryz.func80, Tryz.ntmps80
  go_upto_region 0 with fail
  go_region_law (go_simp; go_at_fn ft; refine (c1 _ h0).mono ?_; rintro e W1 ⟨rfl, h1⟩)
  go_upto_region 1 with fail
  go_region_law (go_simp; go_at_fn fn; refine (c2 _ h1).mono ?_; rintro e W2 ⟨rfl, h2⟩)
  go_upto_region 2 with fail
  go_region_law (go_simp; go_at_fn fb; refine (c3 _ h2).mono ?_; rintro e W3 ⟨rfl, h3⟩)
  go_upto_region 3 with fail
  go_region_law (go_simp; go_at_fn fb; refine (c4 _ h3).mono ?_; rintro e W4 ⟨rfl, h4⟩)
  go_wp2
  go_end0
  exact ⟨rfl, h4⟩
end
def Rd (w : World) (b : Nat) (r : List UInt8) : Prop := ∃ v, w.heap[b]? = some (.cells #[v] 121 (0, 0)) ∧ By w v r
structure Rs (u0 : World) (b t : Nat) (ty : TypeId) (r : List UInt8) (L : List Value) (W : World) : Prop where
  rd : Rd W b r
  tg : W.heap[t]? = some (.cells L.toArray ty (0, 0))
  fr : Bx u0.heap.size [b, t] u0 W
  env : Env W
structure Tg (b t : Nat) (ty : TypeId) : Prop where
  h5 : ty ≠ 5
  h121 : ty ≠ 121
  b7 : 7 ≤ b
  t7 : 7 ≤ t
abbrev I64r (n : Int) : Prop := -9223372036854775808 ≤ n ∧ n ≤ 9223372036854775807
theorem set_cells {w : World} {t o : Nat} {L : List Value} {ty : TypeId} (h : w.heap[t]? = some (.cells L.toArray ty (0, 0))) (v : Value) : (w.setCell ⟨t, o, none⟩ v).heap[t]? = some (.cells (L.set o v).toArray ty (0, 0)) := by
  rw [heap_setCell_same w t o _ ty v h]
  simp
theorem By.set {w : World} {v : Value} {r : List UInt8} (h : By w v r) {g : Nat} {cs : Array Value} {ty : TypeId} (hg : w.heap[g]? = some (.cells cs ty (0, 0))) (hne : ty ≠ 5) (o : Nat) (u : Value) : By (w.setCell ⟨g, o, none⟩ u) v r := h.kt ((Kt.refl _ _).set hg hne o u)
theorem Env.bx {w w' : World} {l : List Nat} (h : Env w) (hB : Bx w.heap.size l w w') (hl : ∀ x ∈ l, 7 ≤ x) : Env w' := h.on (hB.below h.sz hl)
theorem rnum_end {w W : World} {b t o : Nat} {ty : TypeId} {L : List Value} {v V : Value} {n : Int} {r : List UInt8} (hT : Tg b t ty) (hE : Env w) (hb : w.heap[b]? = some (.cells #[v] 121 (0, 0))) (ht : w.heap[t]? = some (.cells L.toArray ty (0, 0))) (hB : Below w.heap.size w W) (hV : By W V r) :
    Rs w b t ty r (L.set o (.int .i64 n)) ((W.setCell ⟨t, o, none⟩ (.int .i64 n)).setCell ⟨b, 0, none⟩ V) := by
  have hb1 := (hB.block b (Array.getElem?_eq_some_iff.1 hb).1).trans hb
  have ht1 := (hB.block t (Array.getElem?_eq_some_iff.1 ht).1).trans ht
  have hne : t ≠ b := fun e => by
    subst e
    rw [hb1] at ht1
    injection ht1 with e1
    injection e1 with _ e2
    exact hT.h121 e2.symm
  have hb2 := (heap_setCell_other W ⟨t, o, none⟩ b (.int .i64 n) (Ne.symm hne)).trans hb1
  have ht2 := set_cells (o := o) ht1 (.int .i64 n)
  have fr : Bx w.heap.size [b, t] w ((W.setCell ⟨t, o, none⟩ (.int .i64 n)).setCell ⟨b, 0, none⟩ V) := bx_set (bx_set (.of_below hB (Nat.le_refl _)) (.inl (by simp)) _ _) (.inl (by simp)) _ _
  refine ⟨⟨V, heap_setCell_same _ b 0 _ 121 V hb2, (hV.set ht1 hT.h5 _ _).set hb2 (by decide) _ _⟩, (heap_setCell_other _ ⟨b, 0, none⟩ t V hne).trans ht2, fr, hE.bx fr ?_⟩
  intro x hx
  simp only [List.mem_cons, List.not_mem_nil, or_false] at hx
  rcases hx with rfl | rfl
  · exact hT.b7
  · exact hT.t7
theorem conv_blank (w : World) : (convert 70 70 (.slice (some ⟨w.heap.size, 0, none⟩) 1 1)).run Tryz.prog (w.alloc (.cells #[.int .u8 32] 5)) = .ok (.slice (some ⟨w.heap.size, 0, none⟩) 1 1) (w.alloc (.cells #[.int .u8 32] 5 (1, 2))) := Lib.run_convert_bytes_const w 70 5 #[.int .u8 32] 1 1 Tryz.underlying70 Tryz.underlying5
theorem index_num (n : Int) (r : List UInt8) : Lib.index (encN n ++ r) [32] = (Lib.itoa n).length := by
  have : encN n ++ r = Lib.itoa n ++ 32 :: r := by unfold encN; simp
  rw [this]
  exact index_at _ r (itoa_no32 n)
set_option maxHeartbeats 8000000 in
set_option maxRecDepth 100000 in
theorem rnum_any {w : World} {b t o : Nat} {ty : TypeId} {L : List Value} {n : Int} {r : List UInt8} (hT : Tg b t ty) (hE : Env w) (hR : Rd w b (encN n ++ r)) (ht : w.heap[t]? = some (.cells L.toArray ty (0, 0))) (ho : o < L.length) (hn : I64r n) (hl : (encN n ++ r).length ≤ 4294967280) :
    Calls Tryz.prog 284 #[.pointer (some ⟨b, 0, none⟩), .pointer (some ⟨t, o, none⟩)] w (Ret (Rs w b t ty r (L.set o (.int .i64 n)))) := by
  obtain ⟨v, hb, hBy⟩ := hR
  obtain ⟨p, c, hv, hlc, hpn, hcs⟩ := id hBy
  subst hv
  have hk : (Lib.itoa n).length + 1 ≤ (encN n ++ r).length := by unfold encN; simp
  have hdr : (encN n ++ r).drop ((Lib.itoa n).length + 1) = r := by
    have : encN n ++ r = Lib.itoa n ++ 32 :: r := by unfold encN; simp
    rw [this, List.drop_append]; simp
  have htk : (encN n ++ r).take (Lib.itoa n).length = Lib.itoa n := by unfold encN; simp
  have hD := hBy.drop hk
  rw [hdr] at hD
  have hK := hBy.take (k := (Lib.itoa n).length) (by omega)
  rw [htk] at hK
  have hcut : Lib.cutV p (encN n ++ r).length c 1 (Lib.index (encN n ++ r) [32]) = .tuple #[.slice p (Lib.itoa n).length c, Lib.fromV p (encN n ++ r).length c ((Lib.itoa n).length + 1), .bool true] := by
    unfold Lib.cutV
    rw [index_num, if_pos (by omega)]
    rfl
  obtain ⟨p2, n2, c2, hV⟩ : ∃ p2 n2 c2, Lib.fromV p (encN n ++ r).length c ((Lib.itoa n).length + 1) = .slice p2 n2 c2 := ⟨_, _, _, rfl⟩
  rw [hV] at hD hcut
  obtain ⟨w1, hw1⟩ : ∃ w1, w1 = w.alloc (.cells #[.int .u8 32] 5 (1, 2)) := ⟨_, rfl⟩
  have hB1 : Below w.heap.size w w1 := by rw [hw1]; exact bA (Below.refl _ _) (Nat.le_refl _) _
  have c1 := cut_any (w := w1) (d := 1) (hBy.kt (.of_below hB1)) (g := w.heap.size) (by rw [hw1]; exact (World.cell?_alloc_mark w #[.int .u8 32] 5 (1, 2) 0).trans rfl) (hE.on (hB1.mono hE.sz)) hl
  rw [hcut] at c1
  have cv := fun q => conv_any (w := w1.drewN q) ((hK.kt (.of_below hB1)).kt (.of_below (b_drewK (Below.refl _ _) q))) (itoa_ne n)
  have hil : (Lib.itoa n).length ≤ 4294967280 := by omega
  have cA : Hid (∀ q, Calls Tryz.prog 38 #[.string ⟨(Lib.itoa n).toArray⟩] (w1.drewN q) fun e w' => e = .returned (.tuple #[.int .i64 n, .nilIface]) ∧ w'.cell? ⟨t, o, none⟩ = some L[o] ∧ w'.frozen? ⟨t, o, none⟩ = false ∧ (∀ u, (w'.setCell ⟨t, o, none⟩ u).cell? ⟨b, 0, none⟩ = some (.slice p (encN n ++ r).length c) ∧ (w'.setCell ⟨t, o, none⟩ u).frozen? ⟨b, 0, none⟩ = false) ∧ Rs w b t ty r (L.set o (.int .i64 n)) ((w'.setCell ⟨t, o, none⟩ (.int .i64 n)).setCell ⟨b, 0, none⟩ (.slice p2 n2 c2))) := fun q => by
    have hBq : Below w.heap.size w (w1.drewN q) := b_drewK hB1 q
    refine (atoi_any (hE.on (hBq.mono hE.sz)) (Lib.itoa n) hil).mono ?_
    rintro e w' ⟨z, ev, rfl, h1, _, hB⟩
    obtain ⟨rfl, rfl⟩ := h1 n (atoi_itoa n hn.1 hn.2)
    have hBw := on1K hBq hB (Nat.le_refl _)
    have hb1 := (hBw.block b (Array.getElem?_eq_some_iff.1 hb).1).trans hb
    have ht1 := (hBw.block t (Array.getElem?_eq_some_iff.1 ht).1).trans ht
    have hne : t ≠ b := fun e => by
      subst e
      rw [hb1] at ht1
      injection ht1 with e1
      injection e1 with _ e2
      exact hT.h121 e2.symm
    refine ⟨rfl, cell_at ht1 (by simp [ho]), frz_at ht1, fun u => ?_, rnum_end hT hE hb ht hBw (hD.kt (.of_below hBw))⟩
    have hb2 := (heap_setCell_other w' ⟨t, o, none⟩ b u (Ne.symm hne)).trans hb1
    exact ⟨cell_at hb2 rfl, frz_at hb2⟩
  have x0 : w.cell? ⟨b, 0, none⟩ = some (.slice p (encN n ++ r).length c) := cell_at hb rfl
  have x1 : w1.cell? ⟨b, 0, none⟩ = some (.slice p (encN n ++ r).length c) := (hB1.cell (cell_lt x0)).trans x0
  clear hD hK hcut hV hBy hb ht hdr htk hk hlc hcs hil hB1 hE hl hpn
  generalize (encN n ++ r).length = nn at *
  generalize (Lib.itoa n).length = kk at *
  generalize hds : (⟨(Lib.itoa n).toArray⟩ : ByteArray) = ds at *
  clear hds
  subst hw1
  have hcs := conv_blank w
  go_enter Tryz.func284, Tryz.ntmps284
  go_wp2_with (first | (go_at_call 37; refine c1.mono ?_; rintro e W1 ⟨rfl, q, rfl⟩; have cvq := cv q; have cAq := cA.out q; refine Hid.out ?_))
  refine Lib.hid ?_
  clear cv cA c1
  go_wp2_with (first | (go_at_call 38; refine cAq.mono ?_; rintro e W2 ⟨rfl, y0, y1, y2, hR⟩; obtain ⟨y3, y4⟩ := y2 (.int .i64 n); clear y2))
  go_end0
  exact ⟨rfl, hR⟩
end Go.Proofs.YtahamkajkkkjdaaGreatDoor
