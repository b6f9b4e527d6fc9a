import Derived.WalkKit
import Derived.Lib.Walk
import Derived.Laws.OwnMore
import Derived.Laws.AppendOwn
import Derived.Laws.NewBlocks
import Derived.OwnWalk
import Derived.Deep.QuietTactic
import Derived.Lib.AppendStr
import Derived.Test.YtahamkajkkkjdaaGreatDoorProg
import Derived.Shelf.Strconv.AppendIntPublic10
import Derived.Shelf.Lay
import Derived.Ground.NamesProg
import Derived.Lib.AtoiAllCases
import Derived.Lib.ItoaNum
import Derived.Lib.Index
namespace Go.Proofs.YtahamkajkkkjdaaGreatDoor
open Go.RowKit
set_option linter.unusedVariables false
set_option linter.unusedSimpArgs false
theorem on1K {B : Nat} {w w1 w2 : World} (h1 : Below B w w1) (h2 : Below w1.heap.size w1 w2) (hB : B ≤ w.heap.size) : Below B w w2 := h1.trans (h2.mono (Nat.le_trans hB h1.size))
theorem b_drewK {B : Nat} {a w : World} (h : Below B a w) : ∀ n, Below B a (w.drewN n) := fun n => ⟨h.os, h.tape, h.output, h.size, h.block⟩
theorem own_slice {w : World} {base : Nat} {e : TypeId} {size : Nat} {v : Value} {n : Nat} {xs : List Value} (h : w.ownsRow base e size v n xs) : ∃ ao cp, v = .slice ao n cp := by
  rcases h.2 with ⟨rfl, rfl⟩ | ⟨g, cap, cur, rfl, _⟩
  · exact ⟨none, 0, rfl⟩
  · exact ⟨_, _, rfl⟩
theorem own_base {w : World} {base base' : Nat} {e : TypeId} {size : Nat} {v : Value} {n : Nat} {xs : List Value} (h : w.ownsRow base e size v n xs) (hb : base' ≤ base) : w.ownsRow base' e size v n xs := by
  refine ⟨h.1, ?_⟩
  rcases h.2 with h | ⟨g, cap, cur, hv, hg, rest⟩
  · exact .inl h
  · exact .inr ⟨g, cap, cur, hv, Nat.le_trans hb hg, rest⟩
theorem new_at (w : World) (l : List Value) (e : TypeId) : ∀ j u, l[j]? = some u → (w.alloc (.cells l.toArray e)).cell? ((⟨w.heap.size, 0, none⟩ : Addr).add j) = some u := by
  intro j u hu
  rw [Addr.add_lit, Nat.zero_add, World.cell?_alloc_at (w := w) l.toArray e w.heap.size j rfl]
  simpa using hu
theorem cell_at {w : World} {b i : Nat} {cs : Array Value} {t : TypeId} {u : Value} (h : w.heap[b]? = some (.cells cs t (0, 0))) (hu : cs[i]? = some u) : w.cell? ⟨b, i, none⟩ = some u := by simp [World.cell?, h, hu]
theorem frz_at {w : World} {b i : Nat} {cs : Array Value} {t : TypeId} (h : w.heap[b]? = some (.cells cs t (0, 0))) : w.frozen? ⟨b, i, none⟩ = false := by simp [World.frozen?, h]
theorem cell_lt {w : World} {a : Addr} {v : Value} (h : w.cell? a = some v) : a.block < w.heap.size := by
  unfold World.cell? at h
  rcases hb : w.heap[a.block]? with _ | o
  · rw [hb] at h; cases h
  · exact (Array.getElem?_eq_some_iff.1 hb).1
def Kt (t : TypeId) (w w' : World) : Prop := w.heap.size ≤ w'.heap.size ∧ ∀ (b : Nat) (cs : Array Value), w.heap[b]? = some (.cells cs t (0, 0)) → w'.heap[b]? = some (.cells cs t (0, 0))
theorem Kt.refl (t : TypeId) (w : World) : Kt t w w := ⟨Nat.le_refl _, fun _ _ h => h⟩
theorem Kt.trans {t : TypeId} {a b c : World} (h : Kt t a b) (k : Kt t b c) : Kt t a c := ⟨Nat.le_trans h.1 k.1, fun x cs hx => k.2 x cs (h.2 x cs hx)⟩
theorem Kt.of_below {t : TypeId} {w w' : World} (h : Below w.heap.size w w') : Kt t w w' := ⟨h.size, fun b cs hb => (h.block b (Array.getElem?_eq_some_iff.1 hb).1).trans hb⟩
theorem Kt.of_grown {t t' : TypeId} {w w' : World} {g : Nat} {cs : Array Value} (hg : w.heap[g]? = some (.cells cs t' (0, 0))) (hne : t' ≠ t) (h : w.grownBy w' (some g)) : Kt t w w' :=
  ⟨h.size, fun b ds hb => (h.block b (Array.getElem?_eq_some_iff.1 hb).1 (fun e => by
    injection e with e; subst e; rw [hg] at hb; injection hb with e3; injection e3 with _ e4; exact hne e4)).trans hb⟩
theorem Kt.of_row {t : TypeId} {w w' : World} (h : w.grownBy w' none) : Kt t w w' := ⟨h.size, fun b ds hb => (h.block b (Array.getElem?_eq_some_iff.1 hb).1 (by simp)).trans hb⟩
theorem Kt.of_own {t e : TypeId} {w w' : World} {base size n : Nat} {v : Value} {xs : List Value} (ho : w.ownsRow base e size v n xs) (hne : e ≠ t) (h : w.grownBy w' v.ownBlock) : Kt t w w' := by
  rcases ho.2 with ⟨rfl, _⟩ | ⟨g, cap, cur, rfl, _, hg, _⟩
  · exact .of_row h
  · exact .of_grown hg hne h
theorem Kt.drew {t : TypeId} {a w : World} (h : Kt t a w) : Kt t a w.drew := h
theorem Kt.alloc {t : TypeId} {a w : World} (h : Kt t a w) (o : Obj) : Kt t a (w.alloc o) := h.trans (.of_below ((Below.refl _ w).alloc (Nat.le_refl _) o))
theorem Kt.set {t t' : TypeId} {a w : World} (h : Kt t a w) {g : Nat} {cs : Array Value} (hg : w.heap[g]? = some (.cells cs t' (0, 0))) (hne : t' ≠ t) (i : Nat) (u : Value) : Kt t a (w.setCell ⟨g, i, none⟩ u) :=
  h.trans ⟨by simp, fun b ds hb => (heap_setCell_other w ⟨g, i, none⟩ b u (fun e => by
    simp only at e; subst e; rw [hg] at hb; injection hb with e3; injection e3 with _ e4; exact hne e4)).trans hb⟩
theorem own_kt {w w' : World} {base : Nat} {e : TypeId} {size : Nat} {v : Value} {n : Nat} {xs : List Value} (h : w.ownsRow base e size v n xs) (hk : Kt e w w') : w'.ownsRow base e size v n xs := by
  refine ⟨h.1, ?_⟩
  rcases h.2 with h | ⟨g, cap, cur, hv, hg, hh, rest⟩
  · exact .inl h
  · exact .inr ⟨g, cap, cur, hv, hg, hk.2 g cur hh, rest⟩
theorem grown_trans {a b c : World} {r : Option Nat} (h : a.grownBy b r) (k : b.grownBy c r) : a.grownBy c r :=
  ⟨k.os.trans h.os, k.tape.trans h.tape, k.output.trans h.output, Nat.le_trans h.size k.size, fun x hx hne => (k.block x (Nat.lt_of_lt_of_le hx h.size) hne).trans (h.block x hx hne)⟩
theorem grown_of_below {a b : World} (h : Below a.heap.size a b) (r : Option Nat) : a.grownBy b r := ⟨h.os, h.tape, h.output, h.size, fun k hk _ => h.block k hk⟩
theorem below_grown {B : Nat} {w0 w w' : World} {r : Option Nat} (h : Below B w0 w) (hg : w.grownBy w' r) (hB : B ≤ w.heap.size) (hr : ∀ k, r = some k → B ≤ k) : Below B w0 w' :=
  ⟨hg.os.trans h.os, hg.tape.trans h.tape, hg.output.trans h.output, Nat.le_trans h.size hg.size, fun k hk => (hg.block k (Nat.lt_of_lt_of_le hk hB) (fun e => by have := hr k e.symm; omega)).trans (h.block k hk)⟩
def Ty (w : World) (g : Nat) (t : TypeId) : Prop := ∃ cs : Array Value, w.heap[g]? = some (.cells cs t (0, 0))
theorem Ty.set {w : World} {g : Nat} {t : TypeId} (h : Ty w g t) (b i : Nat) (u : Value) : Ty (w.setCell ⟨b, i, none⟩ u) g t := by
  obtain ⟨cs, hc⟩ := h
  by_cases e : g = b
  · subst e
    exact ⟨_, heap_setCell_same w g i cs t u hc⟩
  · exact ⟨cs, (heap_setCell_other w ⟨b, i, none⟩ g u e).trans hc⟩
theorem Ty.below {w w' : World} {g : Nat} {t : TypeId} (h : Ty w g t) (hB : Below w.heap.size w w') : Ty w' g t := by
  obtain ⟨cs, hc⟩ := h
  exact ⟨cs, (hB.block g (Array.getElem?_eq_some_iff.1 hc).1).trans hc⟩
theorem Kt.ty {t t' : TypeId} {a w : World} (h : Kt t a w) {g : Nat} (hg : Ty w g t') (hne : t' ≠ t) (i : Nat) (u : Value) : Kt t a (w.setCell ⟨g, i, none⟩ u) := by
  obtain ⟨cs, hc⟩ := hg
  exact h.set hc hne i u
theorem Kt.ty3 {t t' : TypeId} {a w : World} (h : Kt t a w) {g : Nat} (hg : Ty w g t') (hne : t' ≠ t) (i j k : Nat) (u v x : Value) : Kt t a (((w.setCell ⟨g, i, none⟩ u).setCell ⟨g, j, none⟩ v).setCell ⟨g, k, none⟩ x) :=
  ((h.ty hg hne i u).ty (hg.set _ _ _) hne j v).ty ((hg.set _ _ _).set _ _ _) hne k x
theorem below_set3 {B : Nat} {a w : World} (h : Below B a w) {g : Nat} (hg : B ≤ g) (i j k : Nat) (u v x : Value) : Below B a (((w.setCell ⟨g, i, none⟩ u).setCell ⟨g, j, none⟩ v).setCell ⟨g, k, none⟩ x) :=
  ((h.setCell hg u).setCell hg v).setCell hg x
def Moved (w : World) (v v' : Value) : Prop := v'.ownBlock = v.ownBlock ∨ ∃ g, v'.ownBlock = some g ∧ w.heap.size ≤ g
theorem append_at {P : Program} (w : World) (base : Nat) (t ty e : TypeId) (i : TypeInfo) (z : Value) (size bytes : Nat) (ht : P.underlying t = some (.slice e)) (hi : P.info? e = some i) (hz : i.zero = some z)
    (hsize : i.size = size) (hby : i.bytes = bytes) (hzs : z.cells.size = size) (hsz : 0 < size) (v : Value) (n : Nat) (xs : List Value) (hown : w.ownsRow base e size v n xs)
    (a : Addr) (m c : Nat) (hm : 0 < m) (news : List Value) (hl : news.length = m * size) (hnews : ∀ j u, news[j]? = some u → w.cell? (a.add j) = some u) (h1 : ∀ u ∈ news, u.oneCell' = true)
    (h63 : n + m ≤ maxLen) (hbytes : (n + m) * bytes ≤ 140737488355328) (hbase : base ≤ w.heap.size) :
    ∃ v' w', (Builtin.append_ #[t, t] ty #[v, .slice (some a) m c]).run P w = .ok v' w' ∧ w'.ownsRow base e size v' (n + m) (xs ++ news) ∧ w.grownBy w' v.ownBlock ∧ Moved w v v' ∧ v'.ownBlock ≠ none := by
  obtain ⟨v', w', r1, r2, r3, r4⟩ := run_append_own (P := P) w base t ty e i z size bytes ht hi hz hsize hby hzs hsz v n xs hown a m c news hl hnews h1 h63 hbytes hbase
  have hnn : v'.ownBlock ≠ none := by
    rcases r2.2 with ⟨_, h0⟩ | ⟨g, cap, cur, rfl, _⟩
    · omega
    · simp [Value.ownBlock]
  refine ⟨v', w', r1, r2, r3, ?_, hnn⟩
  have hsmall : n + m ≤ 9223372036854775807 := by simp only [maxLen] at h63; omega
  rcases hown.2 with ⟨rfl, rfl⟩ | ⟨g, cap, cur, rfl, hbg, hg, hnc, hcm, hcs, htake⟩
  · have hx : xs = [] := List.eq_nil_of_length_eq_zero (by simpa using hown.1)
    subst hx
    obtain ⟨v2, w2, q1, q2, _, _⟩ := run_append_own (P := P) w w.heap.size t ty e i z size bytes ht hi hz hsize hby hzs hsz (.slice none 0 0) 0 [] (World.ownsRow_nil _ _ _ _) a m c news hl hnews h1 h63 hbytes (Nat.le_refl _)
    rw [r1] at q1
    injection q1 with e1 e2
    subst e1
    rcases q2.2 with ⟨_, h0⟩ | ⟨g, cap, cur, rfl, hge, _⟩
    · omega
    · exact .inr ⟨g, rfl, hge⟩
  · subst hsize hby
    by_cases hroom : n + m ≤ cap
    · have hfit : n * i.size + news.length ≤ cur.size := by rw [hl, hcs, ← Nat.add_mul]; exact Nat.mul_le_mul_right _ hroom
      have hr := run_append_room (P := P) w t ty e i ht hi g n cap cur hg a m c news hl hnews h1 hroom hfit
      rw [r1] at hr
      injection hr with e1 e2
      subst e1
      exact .inl rfl
    · have holds : ∀ j u, xs[j]? = some u → w.cell? ((⟨g, 0, none⟩ : Addr).add j) = some u := hown.cells (g := g) rfl
      have hr := run_append_grow (P := P) w t ty e i z ht hi hz ⟨g, 0, none⟩ n cap xs hown.1 holds a m c news hl hnews (by omega) (by omega) (growslice_fits (by omega) hbytes)
      rw [r1] at hr
      injection hr with e1 e2
      subst e1
      exact .inr ⟨_, rfl, Nat.le_refl _⟩
theorem append_atS {P : Program} (w : World) (base : Nat) (t u ty e : TypeId) (i : TypeInfo) (ht : P.underlying t = some (.slice e)) (hu : P.underlying u = some .string) (hi : P.info? e = some i) (hz : i.zero = some (.int .u8 0))
    (hsize : i.size = 1) (hby : i.bytes = 1) (v : Value) (n : Nat) (xs : List Value) (hown : w.ownsRow base e 1 v n xs) (s : ByteArray) (h63 : n + s.size ≤ maxLen) (hbytes : n + s.size ≤ 140737488355328) (hbase : base ≤ w.heap.size) :
    ∃ v' w', (Builtin.append_ #[t, u] ty #[v, .string s]).run P w = .ok v' w' ∧ w'.ownsRow base e 1 v' (n + s.size) (xs ++ Lib.strCells s) ∧ w.grownBy w' v.ownBlock ∧ Moved w v v' := by
  obtain ⟨v', w', r1, r2, r3, r4⟩ := Lib.run_append_own_string (P := P) w base t u ty e i ht hu hi hz hsize hby v n xs hown s h63 hbytes hbase
  refine ⟨v', w', r1, r2, r3, ?_⟩
  have hsmall : n + s.size ≤ 9223372036854775807 := by simp only [maxLen] at h63; omega
  rcases hown.2 with ⟨rfl, rfl⟩ | ⟨g, cap, cur, rfl, hbg, hg, hnc, hcm, hcs, htake⟩
  · have hx : xs = [] := List.eq_nil_of_length_eq_zero (by simpa using hown.1)
    subst hx
    obtain ⟨v2, w2, q1, q2, _, _⟩ := Lib.run_append_own_string (P := P) w w.heap.size t u ty e i ht hu hi hz hsize hby (.slice none 0 0) 0 [] (World.ownsRow_nil _ _ _ _) s h63 hbytes (Nat.le_refl _)
    rw [r1] at q1
    injection q1 with e1 e2
    subst e1
    rcases q2.2 with ⟨e0, h0⟩ | ⟨g, cap, cur, rfl, hge, _⟩
    · exact .inl (by rw [e0])
    · exact .inr ⟨g, rfl, hge⟩
  · by_cases hroom : n + s.size ≤ cap
    · have hr := Lib.run_append_room_string (P := P) w t u ty e i ht hu hi hsize g n cap cur hg s hroom (by omega)
      rw [r1] at hr
      injection hr with e1 e2
      subst e1
      exact .inl rfl
    · have holds : ∀ j u, xs[j]? = some u → w.cell? ((⟨g, 0, none⟩ : Addr).add j) = some u := hown.cells (g := g) rfl
      have hr := Lib.run_append_grow_string (P := P) w t u ty e i (.int .u8 0) ht hu hi hz ⟨g, 0, none⟩ n cap xs (by rw [hsize]; exact hown.1) holds s (by omega) (by omega) (growslice_fits (by omega) (by rw [hby]; omega))
      rw [r1] at hr
      injection hr with e1 e2
      subst e1
      exact .inr ⟨_, rfl, Nat.le_refl _⟩
theorem Moved.mono {w w' : World} {v u : Value} (h : Moved w' v u) (hs : w.heap.size ≤ w'.heap.size) : Moved w v u := by
  rcases h with h | ⟨g, h1, h2⟩
  · exact .inl h
  · exact .inr ⟨g, h1, Nat.le_trans hs h2⟩
theorem Moved.trans {w w' : World} {v u x : Value} (h : Moved w v u) (k : Moved w' u x) (hs : w.heap.size ≤ w'.heap.size) : Moved w v x := by
  rcases k with k | ⟨g, k1, k2⟩
  · rcases h with h | ⟨g, h1, h2⟩
    · exact .inl (k.trans h)
    · exact .inr ⟨g, k.trans h1, h2⟩
  · exact .inr ⟨g, k1, Nat.le_trans hs k2⟩
theorem grown_moved {a b c : World} {v u : Value} (h : a.grownBy b v.ownBlock) (hm : Moved a v u) (k : b.grownBy c u.ownBlock) : a.grownBy c v.ownBlock :=
  ⟨k.os.trans h.os, k.tape.trans h.tape, k.output.trans h.output, Nat.le_trans h.size k.size, fun x hx hne => (k.block x (Nat.lt_of_lt_of_le hx h.size) (fun e => by
    rcases hm with hm | ⟨g, h1, h2⟩
    · exact hne (e.trans hm)
    · rw [h1] at e; injection e with e; omega)).trans (h.block x hx hne)⟩
end Go.Proofs.YtahamkajkkkjdaaGreatDoor
namespace Go.Proofs.YtahamkajkkkjdaaGreatDoor
open Go.RowKit Go.Shelf
set_option linter.unusedVariables false
set_option linter.unusedSimpArgs false
shelf_lay LaysM.n176 Nm 176 at Tryz as aiLg
abbrev Tab10 (w : World) : Prop := Lib.TabIs Tryz.prog w "internal/strconv.uint64pow10" .u64 Lib.pow10Tab
theorem small_t (i : Nat) (h : i < 100) (w : World) : Calls Tryz.prog 197 #[.int .i64 i] w fun e w' => e = .returned (.string ⟨(Lib.decDigits i).toArray⟩) ∧ w' = w := Any.internal_strconv_small (ρ := aiLg_ren) { aiLg with } i h w
theorem numDigits_t (u : Nat) (h1 : 1 ≤ u) (h2 : u < 18446744073709551616) (w : World) (htab : Tab10 w) : Calls Tryz.prog 198 #[.int .u64 u] w fun e w' => e = .returned (.int .i64 (Lib.nDigits u)) ∧ w' = w := Any.internal_strconv_numDigits (ρ := aiLg_ren) { aiLg with } u h1 h2 w htab
theorem format_t (blk off cap : Nat) (u : Nat) (d : Array UInt8) (w : World) (hH : Go.Sort.Holds (fun (b : UInt8) => Value.int .u8 (b.toNat : Int)) w blk off d) (hu : u < 10 ^ d.size) (hu64 : u < 18446744073709551616) (hsz : d.size < 4611686018427387904) :
    Calls Tryz.prog 199 #[.slice (some ⟨blk, off, none⟩) d.size cap, .int .u64 u] w fun e w' => e = .returned (.tuple #[]) ∧ ∃ (n v' : Nat) (dk : Array UInt8), w' = (Go.Sort.putRow (fun (b : UInt8) => Value.int .u8 (b.toNat : Int)) w blk off dk).drewN n ∧ Lib.FmtInv d.size u 0 v' dk := Any.internal_strconv_formatBase10 (ρ := aiLg_ren) { aiLg with } blk off cap u d w hH hu hu64 hsz
theorem info5 : (Tryz.prog.info? 5).map (fun i => (i.zero, i.size, i.bytes)) = some (some (.int .u8 0), 1, 1) := by kernel_rfl
def ApR (w : World) (B : Nat) (sv : Value) (l d : List UInt8) (e : Ending) (w' : World) : Prop := ∃ v', e = .returned v' ∧ w'.ownsRow B 5 1 v' (l ++ d).length (Lib.byteCells (l ++ d)) ∧ w.grownBy w' sv.ownBlock ∧ Moved w sv v'
theorem bc_app (l d : List UInt8) : Lib.byteCells (l ++ d) = Lib.byteCells l ++ Lib.byteCells d := by simp [Lib.byteCells]
theorem bc_len (l : List UInt8) : (Lib.byteCells l).length = l.length := Lib.byteCells_length l
theorem bc_one (l : List UInt8) : ∀ u ∈ Lib.byteCells l, u.oneCell' = true := by
  intro u hu; simp only [Lib.byteCells, List.mem_map] at hu; obtain ⟨b, _, rfl⟩ := hu; rfl
theorem str_bc (l : List UInt8) : Lib.strCells ⟨l.toArray⟩ = Lib.byteCells l := Lib.strCells_toArray l
theorem ap_bytes (W : World) (B : Nat) (ty : TypeId) {sv : Value} {l d : List UInt8} (hown : W.ownsRow B 5 1 sv l.length (Lib.byteCells l)) (hB : B ≤ W.heap.size) (a : Addr) (c : Nat) (hd : 0 < d.length) (hn : ∀ j u, (Lib.byteCells d)[j]? = some u → W.cell? (a.add j) = some u) (hl : (l ++ d).length ≤ 4398046511104) :
    ∃ v' w', (Builtin.append_ #[70, 70] ty #[sv, .slice (some a) d.length c]).run Tryz.prog W = .ok v' w' ∧ ApR W B sv l d (.returned v') w' := by
  obtain ⟨i0, hi, hz0, hz1, hz2⟩ := info_parts info5
  rw [List.length_append] at hl
  obtain ⟨v', w', r1, r2, r3, r4, _⟩ := append_at (P := Tryz.prog) W B 70 ty 5 i0 _ 1 1 Tryz.underlying70 hi hz0 hz1 hz2 rfl (by decide) sv _ _ hown a d.length c hd (Lib.byteCells d) (by rw [bc_len]; omega) hn (bc_one d) (by unfold maxLen; omega) (by omega) hB
  exact ⟨v', w', r1, v', rfl, by rw [bc_app, List.length_append]; exact r2, r3, r4⟩
theorem ap_str (W : World) (B : Nat) (ty : TypeId) {sv : Value} {l d : List UInt8} (hown : W.ownsRow B 5 1 sv l.length (Lib.byteCells l)) (hB : B ≤ W.heap.size) (hl : (l ++ d).length ≤ 4398046511104) :
    ∃ v' w', (Builtin.append_ #[70, 9] ty #[sv, .string ⟨d.toArray⟩]).run Tryz.prog W = .ok v' w' ∧ ApR W B sv l d (.returned v') w' := by
  obtain ⟨i0, hi, hz0, hz1, hz2⟩ := info_parts info5
  have hs : (⟨d.toArray⟩ : ByteArray).size = d.length := by simp [ByteArray.size]
  rw [List.length_append] at hl
  obtain ⟨v', w', r1, r2, r3, r4⟩ := append_atS (P := Tryz.prog) W B 70 9 ty 5 i0 Tryz.underlying70 Tryz.underlying9 hi hz0 hz1 hz2 sv _ _ hown ⟨d.toArray⟩ (by rw [hs]; unfold maxLen; omega) (by rw [hs]; omega) hB
  rw [hs, str_bc] at r2
  exact ⟨v', w', r1, v', rfl, by rw [bc_app, List.length_append]; exact r2, r3, r4⟩
section
variable {P : Program}
theorem wp_append_T {w : World} {o : Oper} {a : Act} {K : Act → World → Prop} {Q : Exit → Act → World → Prop} (s x : Operand) (t u : TypeId) (ho : o.op = .call { callee := .builtin .append, args := #[s, x], argTypes := #[t, u] })
    (v y : Value) (hs : a.eval s = v) (hx : a.eval x = y) {R : Value → World → Prop} (hr : ∃ v' w', (Builtin.append_ #[t, u] o.type #[v, y]).run P w = .ok v' w' ∧ R v' w') (hK : ∀ v' w', R v' w' → K (a.put o.dst v') w') : o.wp P a w K Q := by
  obtain ⟨v', w', hr, r2⟩ := hr
  unfold Oper.wp execOp
  simp only [ho, resolve, invoke, builtin, Sem.run_bind, Sem.run_pure, Result.andThen_ok, List.map_toArray, List.map_cons, List.map_nil, hs, hx, hr]
  exact hK v' w' r2
theorem wpList_append_T {w : World} {ops : Array Oper} {rest : List Oper} {o : Oper} {a : Act} {Q : Exit → Act → World → Prop} (hg : o.guard = none) (s x : Operand) (t u : TypeId) (ho : o.op = .call { callee := .builtin .append, args := #[s, x], argTypes := #[t, u] })
    (v y : Value) (hs : a.eval s = v) (hx : a.eval x = y) {R : Value → World → Prop} (hr : ∃ v' w', (Builtin.append_ #[t, u] o.type #[v, y]).run P w = .ok v' w' ∧ R v' w') (hK : ∀ v' w', R v' w' → wpList P ops Q rest (a.put o.dst v') w') : wpList P ops Q (o :: rest) a w :=
  wpList_plain hg fun K hK' => wp_append_T s x t u ho v y hs hx hr (fun v' w' r => hK' _ _ (hK v' w' r))
theorem step_append_T {w : World} {ops : Array Oper} {o : Oper} {a : Act} {K : Act → World → Prop} {Q : Exit → Act → World → Prop} {E : Prop} (hg : o.guard = none) (s x : Operand) (t u : TypeId) (ho : o.op = .call { callee := .builtin .append, args := #[s, x], argTypes := #[t, u] })
    (v y : Value) (hs : a.eval s = v) (hx : a.eval x = y) {R : Value → World → Prop} (hr : ∃ v' w', (Builtin.append_ #[t, u] o.type #[v, y]).run P w = .ok v' w' ∧ R v' w') (hK : ∀ v' w', R v' w' → K (a.put o.dst v') w') :
    if Region.wanted o (yielded ops a.tmps) = true then Oper.wp P o a w K Q else E := by
  have hw : Region.wanted o (yielded ops a.tmps) = true := by simp [Region.wanted, hg]
  rw [if_pos hw]
  exact wp_append_T s x t u ho v y hs hx hr hK
end
set_option maxHeartbeats 4000000 in
set_option maxRecDepth 100000 in
theorem au_small {w : World} {B u : Nat} {sv : Value} {l : List UInt8} (hu : u < 100) (hown : w.ownsRow B 5 1 sv l.length (Lib.byteCells l)) (hB : B ≤ w.heap.size) (hl : l.length ≤ 2199023255552) :
    Calls Tryz.prog 158 #[sv, .int .u64 u, .int .i64 10] w (ApR w B sv l (Lib.decDigits u)) := by
  have hlen : (Lib.decDigits u).length ≤ 20 := by
    rw [Lib.decDigits_length]
    by_cases h10 : u < 10
    · rw [Lib.nDigits_small h10]; omega
    · rw [Lib.nDigits_big h10, Lib.nDigits_small (show u / 10 < 10 by omega)]; omega
  have cS := fun W => small_t u hu W
  have hA := ap_str w B 70 (d := Lib.decDigits u) hown hB (by rw [List.length_append]; omega)
  generalize Lib.decDigits u = d at *
  go_enter Tryz.func158, Tryz.ntmps158
  go_wp2_with (first | (go_at_call 197; refine (cS _).mono ?_; rintro e w' ⟨rfl, rfl⟩) | (at_builtin; refine wpList_append_T rfl (.tmp 13) (.tmp 16) 70 9 rfl sv (.string ⟨d.toArray⟩) rfl rfl hA ?_; rintro v' w1 hP))
  go_ret
  obtain ⟨v2, e2, r⟩ := hP
  injection e2 with e2
  subst e2
  exact ⟨_, rfl, r⟩
end Go.Proofs.YtahamkajkkkjdaaGreatDoor
namespace Go.Proofs.YtahamkajkkkjdaaGreatDoor
set_option linter.unusedVariables false
set_option linter.unusedSimpArgs false
theorem pu_snoc (c : UInt8) (d : Nat) (hd : d < 10) (hc : c.toNat = 48 + d) : ∀ (l : List UInt8) (acc m : Nat), Lib.parseUint10 acc l = .ok m → m * 10 + d < 18446744073709551616 → Lib.parseUint10 acc (l ++ [c]) = .ok (m * 10 + d)
  | [], acc, m, h, hm => by
    simp only [Lib.parseUint10] at h
    injection h with h
    subst h
    simp only [List.nil_append, Lib.parseUint10]
    rw [if_pos (by omega), if_neg (by omega), if_neg (by omega)]
    congr 1
    omega
  | x :: r, acc, m, h, hm => by
    simp only [Lib.parseUint10] at h
    simp only [List.cons_append, Lib.parseUint10]
    split at h
    · rename_i h1
      rw [if_pos h1]
      split at h
      · cases h
      · rename_i h2
        rw [if_neg h2]
        split at h
        · cases h
        · rename_i h3
          rw [if_neg h3]
          exact pu_snoc c d hd hc r _ m h hm
    · cases h
theorem dig_nat (k : Nat) (h : k < 10) : (UInt8.ofNat (48 + k)).toNat = 48 + k := by
  have hk : k = 0 ∨ k = 1 ∨ k = 2 ∨ k = 3 ∨ k = 4 ∨ k = 5 ∨ k = 6 ∨ k = 7 ∨ k = 8 ∨ k = 9 := by omega
  rcases hk with rfl | rfl | rfl | rfl | rfl | rfl | rfl | rfl | rfl | rfl <;> decide
theorem pu_dec (u : Nat) (hu : u < 18446744073709551616) : Lib.parseUint10 0 (Lib.decDigits u) = .ok u := by
  induction u using Nat.strongRecOn with
  | _ u ih =>
    by_cases h : u < 10
    · rw [Lib.decDigits, dif_pos h]
      simp only [Lib.parseUint10]
      rw [dig_nat u h, if_pos (by omega), if_neg (by omega), if_neg (by omega)]
      congr 1; omega
    · rw [Lib.decDigits, dif_neg h]
      have := pu_snoc (UInt8.ofNat (48 + u % 10)) (u % 10) (by omega) (dig_nat _ (by omega)) _ 0 (u / 10) (ih (u / 10) (by omega) (by omega)) (by omega)
      rw [this]
      congr 1; omega
def isDg (c : UInt8) : Bool := decide (48 ≤ c.toNat) && decide (c.toNat ≤ 57)
theorem dd_dg (u : Nat) : ∀ c ∈ Lib.decDigits u, isDg c = true := by
  induction u using Nat.strongRecOn with
  | _ u ih =>
    by_cases h : u < 10
    · rw [Lib.decDigits, dif_pos h]
      intro c hc
      simp only [List.mem_singleton] at hc
      subst hc
      unfold isDg; rw [dig_nat u h]; simp; omega
    · rw [Lib.decDigits, dif_neg h]
      intro c hc
      rcases List.mem_append.1 hc with hc | hc
      · exact ih _ (by omega) c hc
      · simp only [List.mem_singleton] at hc
        subst hc
        unfold isDg; rw [dig_nat _ (by omega)]; simp; omega
theorem dd_ne (u : Nat) : Lib.decDigits u ≠ [] := by
  rw [Lib.decDigits]; split <;> simp
theorem dd_cons (u : Nat) : ∃ c r, Lib.decDigits u = c :: r ∧ isDg c = true := by
  cases h : Lib.decDigits u with
  | nil => exact absurd h (dd_ne u)
  | cons c r => exact ⟨c, r, rfl, dd_dg u c (by rw [h]; exact List.mem_cons_self ..)⟩
theorem pm_dec (u : Nat) (hu : u < 18446744073709551616) : Lib.parseMag (Lib.decDigits u) = .ok u := by
  unfold Lib.parseMag
  rw [if_neg (dd_ne u)]
  exact pu_dec u hu
theorem atoi_itoa (n : Int) (h0 : -9223372036854775808 ≤ n) (h1 : n ≤ 9223372036854775807) : Lib.atoiAll (Lib.itoa n) = .ok n := by
  unfold Lib.itoa
  by_cases h : n < 0
  · rw [if_pos h]
    unfold Lib.atoiAll
    simp only
    rw [if_pos (.inr (by decide)), pm_dec _ (by omega)]
    simp only
    rw [if_neg (by simp), if_neg (by omega), if_pos (by decide)]
    congr 1; omega
  · rw [if_neg h]
    obtain ⟨c, r, e, hc⟩ := dd_cons n.toNat
    have hc2 : 48 ≤ c.toNat ∧ c.toNat ≤ 57 := by unfold isDg at hc; simpa using hc
    have := pm_dec n.toNat (by omega)
    rw [e] at this ⊢
    unfold Lib.atoiAll
    simp only
    rw [if_neg (by omega), this]
    simp only
    rw [if_neg (by omega), if_neg (by omega), if_neg (by omega)]
    congr 1; omega
theorem itoa_no32 (n : Int) : ∀ c ∈ Lib.itoa n, c ≠ 32 := by
  intro c hc e
  subst e
  unfold Lib.itoa at hc
  split at hc
  · rcases List.mem_cons.1 hc with h | h
    · exact absurd h (by decide)
    · exact absurd (dd_dg _ _ h) (by decide)
  · exact absurd (dd_dg _ _ hc) (by decide)
theorem itoa_ne (n : Int) : Lib.itoa n ≠ [] := by
  unfold Lib.itoa; split
  · simp
  · exact dd_ne _
theorem index_none : ∀ (l : List UInt8), (∀ c ∈ l, c ≠ 32) → Lib.index l [32] = -1
  | [], _ => rfl
  | c :: r, h => by
    have hc : ¬ (32 : UInt8) = c := fun e => h c (List.mem_cons_self ..) e.symm
    have := index_none r (fun x hx => h x (List.mem_cons_of_mem _ hx))
    unfold Lib.index
    rw [if_neg (by simp [List.isPrefixOf, hc]), this]; rfl
theorem index_at : ∀ (l r : List UInt8), (∀ c ∈ l, c ≠ 32) → Lib.index (l ++ 32 :: r) [32] = l.length
  | [], r, _ => by unfold Lib.index; simp [List.isPrefixOf]
  | c :: l, r, h => by
    have hc : ¬ (32 : UInt8) = c := fun e => h c (List.mem_cons_self ..) e.symm
    have := index_at l r (fun x hx => h x (List.mem_cons_of_mem _ hx))
    show Lib.index (c :: (l ++ 32 :: r)) [32] = _
    unfold Lib.index
    rw [if_neg (by simp [List.isPrefixOf, hc]), this, if_neg (by simp)]
    simp
def encN (n : Int) : List UInt8 := Lib.itoa n ++ [32]
def encB (b : Bool) : List UInt8 := encN (if b = true then 1 else 0)
def encT (s : List UInt8) : List UInt8 := encN s.length ++ s
def encL {α : Type} (f : α → List UInt8) (l : List α) : List UInt8 := encN l.length ++ l.flatMap f
theorem encN_pos (n : Int) : 2 ≤ (encN n).length := by
  unfold encN
  have := itoa_ne n
  have : 0 < (Lib.itoa n).length := List.length_pos_iff.2 this
  simp; omega
def recL (b : List UInt8) : List UInt8 := encT b
def cutN (l : List UInt8) : List UInt8 := if 0 ≤ Lib.index l [32] then l.take (Lib.index l [32]).toNat else l
def cutR (l : List UInt8) : List UInt8 := if 0 ≤ Lib.index l [32] then l.drop ((Lib.index l [32]).toNat + 1) else []
theorem cutN_at {l r : List UInt8} (h : ∀ c ∈ l, c ≠ 32) : cutN (l ++ 32 :: r) = l ∧ cutR (l ++ 32 :: r) = r := by
  unfold cutN cutR
  rw [index_at l r h, if_pos (by omega), if_pos (by omega)]
  constructor
  · simp
  · rw [show ((l.length : Int).toNat + 1) = l.length + 1 by omega, List.drop_append]; simp
theorem cutN_none {l : List UInt8} (h : ∀ c ∈ l, c ≠ 32) : cutN l = l ∧ cutR l = [] := by
  unfold cutN cutR
  rw [index_none l h, if_neg (by omega), if_neg (by omega)]
  exact ⟨rfl, rfl⟩
def whole (l : List UInt8) : Option Nat := match Lib.atoiAll (cutN l) with
  | .ok n => if n > (cutR l).length then none else some (l.length - (cutR l).length + n.toNat)
  | _ => none
theorem dd_first (u : Nat) (hu : 1 ≤ u) : ∃ c r, Lib.decDigits u = c :: r ∧ 49 ≤ c.toNat ∧ c.toNat ≤ 57 := by
  induction u using Nat.strongRecOn with
  | _ u ih =>
    by_cases h : u < 10
    · refine ⟨_, [], by rw [Lib.decDigits, dif_pos h], ?_⟩
      rw [dig_nat u h]; omega
    · obtain ⟨c, r, h1, h2⟩ := ih (u / 10) (by omega) (by omega)
      rw [Lib.decDigits, dif_neg h, h1]
      exact ⟨c, r ++ [_], rfl, h2⟩
theorem pu_ge : ∀ (l : List UInt8) (acc m : Nat), Lib.parseUint10 acc l = .ok m → acc ≤ m
  | [], acc, m, h => by
    simp only [Lib.parseUint10] at h; injection h with h; omega
  | x :: r, acc, m, h => by
    simp only [Lib.parseUint10] at h
    split at h
    · split at h
      · cases h
      · split at h
        · cases h
        · have := pu_ge r _ m h; omega
    · cases h
theorem atoi_part {u k : Nat} (hu : 1 ≤ u) {n : Int} (h : Lib.atoiAll ((Lib.decDigits u).take k) = .ok n) : 0 < n := by
  obtain ⟨c, r, e, hc⟩ := dd_first u hu
  rw [e] at h
  cases k with
  | zero => simp only [List.take_zero, Lib.atoiAll] at h; cases h
  | succ k =>
    simp only [List.take_succ_cons, Lib.atoiAll] at h
    rw [if_neg (by omega)] at h
    unfold Lib.parseMag at h
    rw [if_neg (by simp)] at h
    simp only [Lib.parseUint10] at h
    rw [if_pos (by omega), if_neg (by omega), if_neg (by omega)] at h
    cases hp : Lib.parseUint10 (0 * 10 + (c.toNat - 48)) (r.take k) with
    | ok m =>
      have := pu_ge _ _ _ hp
      rw [hp] at h
      simp only at h
      split at h
      · cases h
      · split at h
        · cases h
        · injection h with h
          rw [if_neg (by omega)] at h
          omega
    | «syntax» => rw [hp] at h; cases h
    | range => rw [hp] at h; cases h
theorem itoa_nat (i : Nat) : Lib.itoa (i : Int) = Lib.decDigits i := by
  unfold Lib.itoa; rw [if_neg (by omega)]; simp
theorem whole_yes (b r : List UInt8) (hb : b.length ≤ 9223372036854775807) : cutN (recL b ++ r) = Lib.itoa b.length ∧ cutR (recL b ++ r) = b ++ r ∧ whole (recL b ++ r) = some (recL b).length := by
  have e : recL b ++ r = Lib.itoa b.length ++ 32 :: (b ++ r) := by unfold recL encT encN; simp
  obtain ⟨h1, h2⟩ := cutN_at (l := Lib.itoa b.length) (r := b ++ r) (itoa_no32 _)
  rw [e]
  refine ⟨h1, h2, ?_⟩
  unfold whole
  rw [h1, h2, atoi_itoa _ (by omega) (by omega)]
  simp only
  rw [if_neg (by simp; omega)]
  unfold recL encT encN
  simp; omega
theorem whole_no (b : List UInt8) (k : Nat) (hb : 1 ≤ b.length) (hb2 : b.length ≤ 9223372036854775807) (hk : k < (recL b).length) : whole ((recL b).take k) = none := by
  have e : recL b = Lib.itoa b.length ++ 32 :: b := by unfold recL encT encN; simp
  rw [e] at hk ⊢
  by_cases h : k ≤ (Lib.itoa b.length).length
  · rw [List.take_append_of_le_length h]
    obtain ⟨h1, h2⟩ := cutN_none (l := (Lib.itoa b.length).take k) (fun c hc => itoa_no32 _ c (List.mem_of_mem_take hc))
    unfold whole
    rw [h1, h2]
    cases ha : Lib.atoiAll ((Lib.itoa b.length).take k) with
    | ok n =>
      rw [itoa_nat] at ha
      have := atoi_part (by omega) ha
      simp only
      rw [if_pos (by simpa using this)]
    | «syntax» => rfl
    | range => rfl
  · obtain ⟨j, rfl⟩ : ∃ j, k = (Lib.itoa b.length).length + 1 + j := ⟨k - ((Lib.itoa b.length).length + 1), by omega⟩
    have e2 : (Lib.itoa b.length ++ 32 :: b).take ((Lib.itoa b.length).length + 1 + j) = Lib.itoa b.length ++ 32 :: b.take j := by
      rw [List.take_append, List.take_of_length_le (by omega)]
      congr 1
      rw [show (Lib.itoa b.length).length + 1 + j - (Lib.itoa b.length).length = j + 1 by omega]
      rfl
    rw [e2]
    obtain ⟨h1, h2⟩ := cutN_at (l := Lib.itoa b.length) (r := b.take j) (itoa_no32 _)
    unfold whole
    rw [h1, h2, atoi_itoa _ (by omega) (by omega)]
    simp only
    simp only [List.length_append, List.length_cons] at hk
    rw [if_pos (by rw [List.length_take]; omega)]
end Go.Proofs.YtahamkajkkkjdaaGreatDoor
namespace Go.Proofs.YtahamkajkkkjdaaGreatDoor
open Go.RowKit
set_option linter.unusedVariables false
set_option linter.unusedSimpArgs false
theorem bA {B : Nat} {a w : World} (h : Below B a w) (hB : B ≤ a.heap.size) (o : Obj) : Below B a (w.alloc o) := h.alloc (Nat.le_trans hB h.size) o
theorem bD {B : Nat} {a w : World} (h : Below B a w) : Below B a w.drew := ⟨h.os, h.tape, h.output, h.size, h.block⟩
theorem cellOld {w : World} {p : Addr} {v : Value} (h : w.cell? p = some v) (o : Obj) : (w.alloc o).cell? p = some v := ((bA (Below.refl _ w) (Nat.le_refl _) o).cell (cell_lt h)).trans h
theorem frzOld {w : World} {p : Addr} (h : w.frozen? p = false) (hl : p.block < w.heap.size) (o : Obj) : (w.alloc o).frozen? p = false := ((bA (Below.refl _ w) (Nat.le_refl _) o).frozen hl).trans h
end Go.Proofs.YtahamkajkkkjdaaGreatDoor
