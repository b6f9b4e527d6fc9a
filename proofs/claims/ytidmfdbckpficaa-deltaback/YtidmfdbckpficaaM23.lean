/-
  What a graph has, as delta.between asks for it: maps of nodes by id and of ties; their keys.
-/
import Derived.Test.YtidmfdbckpficaaM10
import Derived.Test.YtidmfdbckpficaaM22
import Derived.DeepKeys4
namespace Go.Proofs.Ytidmfdbckpficaa
open Go.RowKit
open Go.Maps (Keyed)
set_option linter.unusedVariables false
set_option linter.unusedSimpArgs false

theorem lay0 : laidOutB Try.prog = true := by kernel_rfl
instance : DecidableEq Te := fun a b => decidable_of_iff (a.bd = b.bd ∧ a.fr = b.fr ∧ a.tt = b.tt) ⟨fun ⟨h1, h2, h3⟩ => by cases a; cases b; simp_all, fun h => by subst h; exact ⟨rfl, rfl, rfl⟩⟩
def encI (n : Int) : Value := .int .i64 n
def encT (t : Te) : Value := .agg #[.string t.bd, .int .i64 t.fr, .int .i64 t.tt]
theorem encI_inj : ∀ x y, encI x = encI y → x = y := fun x y h => by simpa [encI] using h
theorem encT_inj : ∀ x y, encT x = encT y → x = y := fun x y h => by
  obtain ⟨a, b, c⟩ := x
  obtain ⟨a', b', c'⟩ := y
  simpa [encT] using h
theorem keyedI : Keyed Try.prog 3 := Go.Maps.int_keyed Try.underlying3
theorem keyedT : Keyed Try.prog 40 := Keyed.of_law (deep_law_laid lay0 (m := 4) (by omega) (of_decide_eq_true (by kernel_rfl)) (by kernel_rfl) (by rw [Try.underlying40]))
theorem zero29 (w : World) : (zeroValue 30).run Try.prog w = .ok (.agg #[.int .i64 0, .string ⟨#[]⟩, .slice none 0 0]) w := by kernel_rfl
theorem zero3 (w : World) : (zeroValue 3).run Try.prog w = .ok (.int .i64 0) w := by kernel_rfl
/-- It is a number of 64 bits. -/
def in64 (n : Int) : Prop := (Lit.int .i64 n).wf = true
theorem in64_of {n : Int} (h1 : -9223372036854775808 ≤ n) (h2 : n ≤ 9223372036854775807) : in64 n := by
  unfold in64
  have e1 : IntKind.i64.min = -9223372036854775808 := by decide
  have e2 : IntKind.i64.max = 9223372036854775807 := by decide
  simp [Lit.wf, e1, e2]
  omega
theorem in64_id {n : Int} (h : idOk n = true) : in64 n := by
  simp [idOk] at h
  exact in64_of (by omega) (by omega)
theorem keyI {n : Int} (h : in64 n) : ∃ l, keyOf Try.prog 3 (encI n) = some l := ⟨_, Go.Maps.keyOf_int_mk Try.underlying3 h⟩
theorem kt31 : Try.prog.keyType 40 = true := by kernel_rfl
theorem co31 : Try.prog.cellsOf 40 = 3 := by kernel_rfl
theorem co9 : Try.prog.cellsOf 9 = 1 := by kernel_rfl
theorem co3 : Try.prog.cellsOf 3 = 1 := by kernel_rfl
theorem klS (d : Nat) {s : ByteArray} (h : s.size ≤ maxLen) : Try.prog.keyLits (d + 1) 9 [.string s] = some [.string s.data.toList] := by
  simp only [Program.keyLits, Try.underlying9]; rw [if_pos h]
theorem klI (d : Nat) {n : Int} (h : in64 n) : Try.prog.keyLits (d + 1) 3 [.int .i64 n] = some [.int .i64 n] := by
  unfold in64 at h
  simp only [Program.keyLits, Try.underlying3]; rw [if_pos ⟨trivial, h⟩]
theorem kl31 (d : Nat) {t n : Int} {s : ByteArray} (h1 : in64 t) (h2 : in64 n) (h3 : s.size ≤ maxLen) : Try.prog.keyLits (d + 2) 40 [.string s, .int .i64 t, .int .i64 n] = some [.string s.data.toList, .int .i64 t, .int .i64 n] := by
  conv => lhs; unfold Program.keyLits
  rw [Try.underlying40]
  simp [co31, co9, co3, klS _ h3, klI _ h2, klI _ h1]
/-- It may be a key. -/
def Te.key (t : Te) : Prop := t.bd.size ≤ maxLen ∧ in64 t.fr ∧ in64 t.tt
theorem keyT {x : Te} (h : x.key) : ∃ l, keyOf Try.prog 40 (encT x) = some l := by
  have hf : (encT x).formed Try.prog 40 = true := by simp [encT, Value.formed, Try.underlying40, co31]
  unfold keyOf
  rw [Try.underlying40, kt31, hf]
  have := kl31 (Try.prog.types.size - 1) h.2.1 h.2.2 h.1
  have ts : Try.prog.types.size + 1 = Try.prog.types.size - 1 + 2 := by
    have : decide (1 ≤ Try.prog.types.size) = true := by kernel_rfl
    have := of_decide_eq_true this
    omega
  simp only [Bool.and_self, if_true]
  rw [show (encT x).cells.toList = [.string x.bd, .int .i64 x.fr, .int .i64 x.tt] from rfl, ts, this]
  exact ⟨_, rfl⟩

/-- The nodes by id; the last one of an id counts. -/
def nG (L : List Nd) : Int → Option Nd := L.foldl (fun F n => upd F n.id n) (fun _ => none)
/-- The ties. -/
def tG (L : List Te) : Te → Option Value := L.foldl (fun F t => upd F t (.int .i64 1)) (fun _ => none)
theorem foldl_take {α β : Type} (f : β → α → β) (b : β) {L : List α} {k : Nat} {x : α} (h : L[k]? = some x) : (L.take (k + 1)).foldl f b = f ((L.take k).foldl f b) x := by
  rw [List.take_add_one, h]
  simp
theorem nG_take {L : List Nd} {k : Nat} {x : Nd} (h : L[k]? = some x) : nG (L.take (k + 1)) = upd (nG (L.take k)) x.id x := foldl_take _ _ h
theorem tG_take {L : List Te} {k : Nat} {x : Te} (h : L[k]? = some x) : tG (L.take (k + 1)) = upd (tG (L.take k)) x (.int .i64 1) := foldl_take _ _ h
/-- A map of nodes. -/
def MapN (w : World) (b : Nat) (X : Int → Option Nd) : Prop := OwnM w Try.prog 3 encI b (fun i => (X i).map Nd.one)
/-- A map of ties. -/
def MapT (w : World) (b : Nat) (F : Te → Option Value) : Prop := OwnM w Try.prog 40 encT b F
theorem MapN.of_block {w w' : World} {b : Nat} {X : Int → Option Nd} (h : MapN w b X) (hb : w'.heap[b]? = w.heap[b]?) : MapN w' b X := OwnM.of_block h hb
theorem MapT.of_block {w w' : World} {b : Nat} {X : Te → Option Value} (h : MapT w b X) (hb : w'.heap[b]? = w.heap[b]?) : MapT w' b X := OwnM.of_block h hb
theorem MapN.on {w w' : World} {b : Nat} {X : Int → Option Nd} (h : MapN w b X) (hB : Below w.heap.size w w') : MapN w' b X := h.of_block (hB.block b (OwnM.lt h))
theorem MapT.on {w w' : World} {b : Nat} {X : Te → Option Value} (h : MapT w b X) (hB : Below w.heap.size w w') : MapT w' b X := h.of_block (hB.block b (OwnM.lt h))
theorem upd_map {κ β γ : Type} [DecidableEq κ] (F : κ → Option β) (f : β → γ) (x : κ) (v : β) : (fun y => (upd F x v y).map f) = upd (fun y => (F y).map f) x (f v) := by
  funext y
  unfold upd
  split <;> rfl
theorem mapN_put {w : World} {b : Nat} {X : Int → Option Nd} (h : MapN w b X) (n : Nd) (hk : idOk n.id = true) :
    ∃ w', (Instr.mapUpdate 70 (.map (some b)) (.int .i64 n.id) n.one).run Try.prog w = .ok () w' ∧ MapN w' b (upd X n.id n) ∧ w.grownBy w' (some b) := by
  obtain ⟨l, hl⟩ := keyI (in64_id hk)
  obtain ⟨w', r1, r2, r3⟩ := OwnM.put h keyedI encI_inj Try.underlying70 hl n.one
  refine ⟨w', r1, ?_, r3⟩
  unfold MapN
  rw [upd_map X Nd.one n.id n]
  exact r2
theorem mapT_put {w : World} {b : Nat} {X : Te → Option Value} (h : MapT w b X) (t : Te) (hk : t.key) :
    ∃ w', (Instr.mapUpdate 71 (.map (some b)) t.one (.int .i64 1)).run Try.prog w = .ok () w' ∧ MapT w' b (upd X t (.int .i64 1)) ∧ w.grownBy w' (some b) := by
  obtain ⟨l, hl⟩ := keyT hk
  exact OwnM.put h keyedT encT_inj Try.underlying71 hl (.int .i64 1)
theorem mapN_look {w : World} {b : Nat} {X : Int → Option Nd} (h : MapN w b X) {id : Int} (hk : idOk id = true) (c : Bool) :
    (Instr.lookup 70 (.map (some b)) (.int .i64 id) c).run Try.prog w = .ok (if c then .tuple #[((X id).map Nd.one).getD (.agg #[.int .i64 0, .string ⟨#[]⟩, .slice none 0 0]), .bool ((X id).map Nd.one).isSome] else ((X id).map Nd.one).getD (.agg #[.int .i64 0, .string ⟨#[]⟩, .slice none 0 0])) w := by
  obtain ⟨l, hl⟩ := keyI (in64_id hk)
  exact OwnM.look h keyedI encI_inj Try.underlying70 (zero29 w) hl c
theorem mapT_look {w : World} {b : Nat} {X : Te → Option Value} (h : MapT w b X) {t : Te} (hk : t.key) :
    (Instr.lookup 71 (.map (some b)) t.one false).run Try.prog w = .ok ((X t).getD (.int .i64 0)) w := by
  obtain ⟨l, hl⟩ := keyT hk
  exact OwnM.look h keyedT encT_inj Try.underlying71 (zero3 w) hl false
/-- A stock. -/
def IsSt (w : World) (v : Value) (N : List Nd) (T : List Te) : Prop := ∃ b1 b2, v = .agg #[.map (some b1), .map (some b2)] ∧ MapN w b1 (nG N) ∧ MapT w b2 (tG T)
theorem IsSt.on {w w' : World} {v : Value} {N : List Nd} {T : List Te} (h : IsSt w v N T) (hB : Below w.heap.size w w') : IsSt w' v N T := by
  obtain ⟨b1, b2, rfl, h1, h2⟩ := h
  exact ⟨b1, b2, rfl, h1.on hB, h2.on hB⟩
/-- All of it may be keys. -/
def KeyG (N : List Nd) (T : List Te) : Prop := (∀ n ∈ N, idOk n.id = true) ∧ ∀ t ∈ T, t.key
theorem te_key {t : Te} (h : teE none t = 0) : t.key ∧ idOk t.fr = true ∧ idOk t.tt = true := by
  unfold teE at h
  split at h
  · rename_i hn
    split at h
    · rename_i hi
      have hi' : idOk t.fr = true ∧ idOk t.tt = true := by simpa using hi
      refine ⟨⟨?_, in64_id hi'.1, in64_id hi'.2⟩, hi'⟩
      have := nErr_short hn
      have e : t.bd.size = t.bd.data.toList.length := rfl
      rw [e]
      unfold maxLen
      omega
    · cases h
  · rename_i hn
    exact absurd h hn
theorem gErr_key {N : List Nd} {T : List Te} (h : gErr N T = 0) : KeyG N T := by
  obtain ⟨⟨_, _, hn⟩, _, _, ht⟩ := (gErr_iff N T).1 h
  exact ⟨fun n hm => ((ndE_iff n).1 (hn n hm)).1, fun t hm => (te_key (ht t hm)).1⟩
end Go.Proofs.Ytidmfdbckpficaa

/-
  The walk of stockOf.
-/
namespace Go.Proofs.Ytidmfdbckpficaa
open Go.RowKit
open Go.Maps (Keyed)
set_option linter.unusedVariables false
set_option linter.unusedSimpArgs false

/-- What stockOf allocates ahead of its loops. -/
abbrev stW (w : World) (vn vt : Value) : World := ((((w.alloc (.cells #[vn, vt] 25)).alloc (.cells #[.map none, .map none] 73)).alloc (.map #[] 0)).alloc (.map #[] 0)).alloc (.cells #[(.map (some (w.heap.size + 1 + 1))), (.map (some (w.heap.size + 1 + 1 + 1)))] 73)
theorem stW_below (w : World) (vn vt : Value) : Below w.heap.size w (stW w vn vt) := b_alloc (b_alloc (b_alloc (b_alloc (b_alloc (Below.refl _ _) _) _) _) _) _
theorem stW_all (w : World) (vn vt : Value) : (stW w vn vt).heap[w.heap.size]? = some (.cells #[vn, vt] 25 (0, 0)) ∧ (stW w vn vt).heap[w.heap.size + 1]? = some (.cells #[.map none, .map none] 73 (0, 0)) ∧ (stW w vn vt).heap[(w.heap.size + 1 + 1 + 1 + 1)]? = some (.cells #[(.map (some (w.heap.size + 1 + 1))), (.map (some (w.heap.size + 1 + 1 + 1)))] 73 (0, 0)) ∧ MapN (stW w vn vt) (w.heap.size + 1 + 1) (nG []) ∧ MapT (stW w vn vt) (w.heap.size + 1 + 1 + 1) (tG []) ∧ (stW w vn vt).heap.size = w.heap.size + 5 := by
  have a1 := heap_alloc_new w (.cells #[vn, vt] 25)
  have a2 := heap_alloc_new (w.alloc (.cells #[vn, vt] 25)) (.cells #[.map none, .map none] 73)
  rw [World.size_alloc] at a2
  have a3 := OwnM.made (P := Try.prog) (k := 3) (enc := encI) ((w.alloc (.cells #[vn, vt] 25)).alloc (.cells #[.map none, .map none] 73))
  simp only [World.size_alloc] at a3
  have a4 := OwnM.made (P := Try.prog) (k := 40) (enc := encT) (((w.alloc (.cells #[vn, vt] 25)).alloc (.cells #[.map none, .map none] 73)).alloc (.map #[] 0))
  simp only [World.size_alloc] at a4
  have a5 := heap_alloc_new ((((w.alloc (.cells #[vn, vt] 25)).alloc (.cells #[.map none, .map none] 73)).alloc (.map #[] 0)).alloc (.map #[] 0)) (.cells #[(.map (some (w.heap.size + 1 + 1))), (.map (some (w.heap.size + 1 + 1 + 1)))] 73)
  simp only [World.size_alloc] at a5
  refine ⟨?_, ?_, a5, ?_, ?_, by simp [stW]⟩
  · exact (Below.heap_alloc _ _ _ (by simp; try omega)).trans ((Below.heap_alloc _ _ _ (by simp; try omega)).trans ((Below.heap_alloc _ _ _ (by simp; try omega)).trans ((Below.heap_alloc _ _ _ (by simp)).trans a1)))
  · exact (Below.heap_alloc _ _ _ (by simp; try omega)).trans ((Below.heap_alloc _ _ _ (by simp; try omega)).trans ((Below.heap_alloc _ _ _ (by simp)).trans a2))
  · exact (OwnM.of_block a3 (Below.heap_alloc _ _ _ (by simp))).of_block (Below.heap_alloc _ _ _ (by simp; try omega))
  · exact OwnM.of_block a4 (Below.heap_alloc _ _ _ (by simp))
theorem below_but {B b : Nat} {w w' : World} (hg : w.grownBy w' (some b)) (hB : B ≤ w.heap.size) (hb : B ≤ b) : Below B w w' :=
  below_grown (Below.refl _ _) hg hB (fun k hk => by injection hk with hk; omega)
theorem but_below {b : Nat} {a w w' : World} (hg : a.grownBy w (some b)) (hB : Below w.heap.size w w') : a.grownBy w' (some b) := grown_trans hg (grown_of_below hB _)
theorem IsN.at {w : World} {v : Value} {L : List Nd} (h : IsN w v L) {k : Nat} {x : Nd} (hx : L[k]? = some x) : ∃ b off c, v = .slice (some ⟨b, off, none⟩) L.length c ∧ b < w.heap.size ∧ w.cell? ⟨b, off + k * 3, none⟩ = some (.int .i64 x.id) ∧ w.cell? ⟨b, off + k * 3 + 1, none⟩ = some (.string x.kd) ∧ w.cell? ⟨b, off + k * 3 + 2, none⟩ = some x.rv ∧ IsR w x.rv x.rc := by
  obtain ⟨ao, c, rfl, _, rfl | ⟨b, off, rfl, hb, hL⟩⟩ := h
  · simp at hx
  · exact ⟨b, off, c, rfl, hb, hL k x hx⟩
theorem IsT.at {w : World} {v : Value} {L : List Te} (h : IsT w v L) {k : Nat} {x : Te} (hx : L[k]? = some x) : ∃ b off c, v = .slice (some ⟨b, off, none⟩) L.length c ∧ b < w.heap.size ∧ w.cell? ⟨b, off + k * 3, none⟩ = some (.string x.bd) ∧ w.cell? ⟨b, off + k * 3 + 1, none⟩ = some (.int .i64 x.fr) ∧ w.cell? ⟨b, off + k * 3 + 2, none⟩ = some (.int .i64 x.tt) := by
  obtain ⟨ao, c, rfl, _, rfl | ⟨b, off, rfl, hb, hL⟩⟩ := h
  · simp at hx
  · exact ⟨b, off, c, rfl, hb, hL k x hx⟩
/-- Between two rounds of the first loop. -/
def SR1 (W : World) (b : Nat) (N : List Nd) (i : Value) (wr : World) : Prop := ∃ k : Nat, k ≤ N.length ∧ i = .int .i64 k ∧ MapN wr b (nG (N.take k)) ∧ W.grownBy wr (some b)
/-- Of the second. -/
def SR2 (W : World) (b : Nat) (T : List Te) (i : Value) (wr : World) : Prop := ∃ k : Nat, k ≤ T.length ∧ i = .int .i64 k ∧ MapT wr b (tG (T.take k)) ∧ W.grownBy wr (some b)
/-- What stockOf gives. -/
def StPost (w : World) (N : List Nd) (T : List Te) (e : Ending) (w' : World) : Prop := ∃ b1 b2, e = .returned (.agg #[.map (some b1), .map (some b2)]) ∧ IsSt w' (.agg #[.map (some b1), .map (some b2)]) N T ∧ Below w.heap.size w w'

set_option maxHeartbeats 8000000 in
set_option maxRecDepth 100000 in
theorem stockOf_any {vn vt : Value} {N : List Nd} {T : List Te} {w : World} (hN : IsN w vn N) (hT : IsT w vt T) (hk : KeyG N T) (ln : N.length ≤ 1000) (lt : T.length ≤ 1000) :
    Calls Try.prog 24 #[.agg #[vn, vt]] w (StPost w N T) := by
  have HH : Hid (IsN w vn N ∧ IsT w vt T ∧ KeyG N T) := ⟨hN, hT, hk⟩
  obtain ⟨an, cn, hvn, _, _⟩ := hN
  obtain ⟨am, cm, hvt, _, _⟩ := hT
  subst hvn hvt
  clear hk
  have HW2 := Lib.hid (stW_all w (.slice an N.length cn) (.slice am T.length cm))
  have HB2 := Lib.hid (stW_below w (.slice an N.length cn) (.slice am T.length cm))
  have hmm := @run_makeMap Try.prog
  go_enter Try.func24, Try.ntmps24
  go_wp2
  go_loopw [14] (fun i wr => SR1 (stW w (.slice an N.length cn) (.slice am T.length cm)) (w.heap.size + 1 + 1) N i wr) (fun i _ => N.length - (intOf i).toNat)
  case atStart => exact ⟨0, Nat.zero_le _, rfl, HW2.out.2.2.2.1, grown_of_below (Below.refl _ _) _⟩
  case round =>
    obtain ⟨k, hk, rfl, hM, hg⟩ := hrel
    have HR : Hid (MapN wr (w.heap.size + 1 + 1) (nG (N.take k)) ∧ World.grownBy (stW w (.slice an N.length cn) (.slice am T.length cm)) wr (some (w.heap.size + 1 + 1))) := ⟨hM, hg⟩
    have hz := HW2.out.2.2.2.2.2
    have hsz : w.heap.size + 5 ≤ wr.heap.size := by have := hg.size; rw [hz] at this; exact this
    have HW : Hid (Below w.heap.size w wr ∧ wr.heap[w.heap.size]? = some (.cells #[.slice an N.length cn, .slice am T.length cm] 25 (0, 0)) ∧ wr.heap[w.heap.size + 1]? = some (.cells #[.map none, .map none] 73 (0, 0)) ∧ wr.heap[(w.heap.size + 1 + 1 + 1 + 1)]? = some (.cells #[(.map (some (w.heap.size + 1 + 1))), (.map (some (w.heap.size + 1 + 1 + 1)))] 73 (0, 0)) ∧ MapT wr (w.heap.size + 1 + 1 + 1) (tG [])) :=
      ⟨HB2.out.trans (below_but hg (by omega) (by omega)), (hg.block _ (by omega) (by simp; omega)).trans HW2.out.1, (hg.block _ (by omega) (by simp; try omega)).trans HW2.out.2.1, (hg.block _ (by omega) (by simp; try omega)).trans HW2.out.2.2.1, MapT.of_block HW2.out.2.2.2.2.1 (hg.block _ (by omega) (by simp; try omega))⟩
    clear hM hg hz
    by_cases hlt : k < N.length
    · obtain ⟨x, hx⟩ : ∃ x, N[k]? = some x := ⟨N[k], by simp [hlt]⟩
      obtain ⟨b, off, c, hv, hb, e0, e1, e2, hr⟩ := HH.out.1.at hx
      injection hv with hv1 hv2 hv3
      subst hv1
      subst hv3
      clear hv2
      have d0 := (HW.out.1.cell (p := ⟨b, off + k * 3, none⟩) hb).trans e0
      have d1 := (HW.out.1.cell (p := ⟨b, off + k * 3 + 1, none⟩) hb).trans e1
      have d2 := (HW.out.1.cell (p := ⟨b, off + k * 3 + 2, none⟩) hb).trans e2
      have hT := nG_take hx
      have hid := HH.out.2.2.1 x (List.mem_of_getElem? hx)
      obtain ⟨av, lv, cv, hrv⟩ := hr.sl
      obtain ⟨id, kd, rv, rc⟩ := x
      simp only at d0 d1 d2 hT hid hrv
      subst hrv
      have hB3 : Below wr.heap.size wr (wr.alloc (.cells #[.int .i64 id, .string kd, .slice av lv cv] 30)) := b_alloc (Below.refl _ _) _
      obtain ⟨w7, hrun, hput, hgr⟩ := mapN_put (HR.out.1.on hB3) ⟨id, kd, .slice av lv cv, rc⟩ hid
      simp only [Nd.one] at hrun
      have HN : Hid (SR1 (stW w (.slice (some ⟨b, off, none⟩) N.length cn) (.slice am T.length cm)) (w.heap.size + 1 + 1) N (.int .i64 ((k : Int) + 1)) w7) := ⟨k + 1, hlt, by simp, by rw [hT]; exact hput, grown_trans (but_below HR.out.2 hB3) hgr⟩
      have g0 : (wr.alloc (.cells #[.int .i64 id, .string kd, .slice av lv cv] 30)).cell? ⟨(w.heap.size + 1 + 1 + 1 + 1), 0, none⟩ = some (.map (some (w.heap.size + 1 + 1))) := (hB3.cell (by show (w.heap.size + 1 + 1 + 1 + 1) < _; omega)).trans (cell_at HW.out.2.2.2.1 rfl)
      have hbn : ¬ b = wr.heap.size := by have := HW.out.1.size; omega
      clear hB3 hput hgr e0 e1 e2 hx hT hid hr
      go_wp2
      go_roundw
      case rel => exact HN.out
      case measure => simp [intOf]; omega
    · obtain rfl : k = N.length := by omega
      rw [List.take_length] at HR
      obtain ⟨W5, hW5⟩ : ∃ W5, W5 = wr := ⟨wr, rfl⟩
      subst hW5
      have y1 := cell_at (i := 1) HW.out.2.1 rfl
      clear hlt
      go_wp2
      go_loopw [27] (fun i wr => SR2 W5 (w.heap.size + 1 + 1 + 1) T i wr) (fun i _ => T.length - (intOf i).toNat)
      case atStart => exact ⟨0, Nat.zero_le _, rfl, HW.out.2.2.2.2, grown_of_below (Below.refl _ _) _⟩
      case round =>
        obtain ⟨k, hk, rfl, hM, hg⟩ := hrel
        have HR2 : Hid (MapT wr (w.heap.size + 1 + 1 + 1) (tG (T.take k)) ∧ W5.grownBy wr (some (w.heap.size + 1 + 1 + 1))) := ⟨hM, hg⟩
        have hs5 : W5.heap.size ≤ wr.heap.size := hg.size
        have HV : Hid (Below w.heap.size w wr ∧ wr.heap[w.heap.size + 1]? = some (.cells #[.map none, .map none] 73 (0, 0)) ∧ wr.heap[(w.heap.size + 1 + 1 + 1 + 1)]? = some (.cells #[(.map (some (w.heap.size + 1 + 1))), (.map (some (w.heap.size + 1 + 1 + 1)))] 73 (0, 0)) ∧ MapN wr (w.heap.size + 1 + 1) (nG N)) :=
          ⟨HW.out.1.trans (below_but hg (by omega) (by omega)), (hg.block _ (by omega) (by simp; try omega)).trans HW.out.2.2.1, (hg.block _ (by omega) (by simp; try omega)).trans HW.out.2.2.2.1, HR.out.1.of_block (hg.block _ (by omega) (by simp; try omega))⟩
        have g0 := cell_at (i := 0) HV.out.2.2.1 rfl
        have g1 := cell_at (i := 1) HV.out.2.2.1 rfl
        clear hM hg
        by_cases hlt : k < T.length
        · obtain ⟨x, hx⟩ : ∃ x, T[k]? = some x := ⟨T[k], by simp [hlt]⟩
          obtain ⟨b, off, c, hv, hb, e0, e1, e2⟩ := HH.out.2.1.at hx
          injection hv with hv1 hv2 hv3
          subst hv1 hv3
          clear hv2
          have d0 := (HV.out.1.cell (p := ⟨b, off + k * 3, none⟩) hb).trans e0
          have d1 := (HV.out.1.cell (p := ⟨b, off + k * 3 + 1, none⟩) hb).trans e1
          have d2 := (HV.out.1.cell (p := ⟨b, off + k * 3 + 2, none⟩) hb).trans e2
          have hkx := HH.out.2.2.2 x (List.mem_of_getElem? hx)
          have hT := tG_take hx
          obtain ⟨bd, fr, tt⟩ := x
          simp only at d0 d1 d2
          have hB6 : Below wr.heap.size wr (wr.alloc (.cells #[.string bd, .int .i64 fr, .int .i64 tt] 40)) := b_alloc (Below.refl _ _) _
          obtain ⟨w7, hrun, hput, hgr⟩ := mapT_put (HR2.out.1.on hB6) ⟨bd, fr, tt⟩ hkx
          have HN : Hid (SR2 W5 (w.heap.size + 1 + 1 + 1) T (.int .i64 ((k : Int) + 1)) w7) := ⟨k + 1, hlt, by simp, by rw [hT]; exact hput, grown_trans (but_below HR2.out.2 hB6) hgr⟩
          have G1 : (wr.alloc (.cells #[.string bd, .int .i64 fr, .int .i64 tt] 40)).cell? ⟨(w.heap.size + 1 + 1 + 1 + 1), 1, none⟩ = some (.map (some (w.heap.size + 1 + 1 + 1))) := (hB6.cell (by show (w.heap.size + 1 + 1 + 1 + 1) < _; omega)).trans g1
          have hbn : ¬ b = wr.heap.size := by have := HV.out.1.size; omega
          clear hB6 hput hgr e0 e1 e2 hx hkx hT
          go_wp2
          go_roundw
          case rel => exact HN.out
          case measure => simp [intOf]; omega
        · obtain rfl : k = T.length := by omega
          rw [List.take_length] at HR2
          have z0 := cell_at (i := 0) HV.out.2.1 rfl
          have z1 := cell_at (i := 1) HV.out.2.1 rfl
          have k0 := frz_at (i := 0) HV.out.2.1
          have k1 := frz_at (i := 1) HV.out.2.1
          have h1 := heap_setCell_same wr (w.heap.size + 1) 0 _ 73 (.map (some (w.heap.size + 1 + 1))) HV.out.2.1
          have h2 := heap_setCell_same _ (w.heap.size + 1) 1 _ 73 (.map (some (w.heap.size + 1 + 1 + 1))) h1
          have HS : Hid ((wr.setCell ⟨w.heap.size + 1, 0, none⟩ (.map (some (w.heap.size + 1 + 1)))).cell? ⟨w.heap.size + 1, 0, none⟩ = some (.map (some (w.heap.size + 1 + 1))) ∧ ((wr.setCell ⟨w.heap.size + 1, 0, none⟩ (.map (some (w.heap.size + 1 + 1)))).setCell ⟨w.heap.size + 1, 1, none⟩ (.map (some (w.heap.size + 1 + 1 + 1)))).cell? ⟨w.heap.size + 1, 1, none⟩ = some (.map (some (w.heap.size + 1 + 1 + 1))) ∧ w.heap.size + 1 < wr.heap.size) := ⟨cell_at h1 rfl, cell_at h2 rfl, (Array.getElem?_eq_some_iff.1 HV.out.2.1).1⟩
          have HP : Hid (StPost w N T (.returned (.agg #[(.map (some (w.heap.size + 1 + 1))), (.map (some (w.heap.size + 1 + 1 + 1)))])) ((wr.setCell ⟨w.heap.size + 1, 0, none⟩ (.map (some (w.heap.size + 1 + 1)))).setCell ⟨w.heap.size + 1, 1, none⟩ (.map (some (w.heap.size + 1 + 1 + 1))))) := by
            refine ⟨_, _, rfl, ⟨_, _, rfl, ?_, ?_⟩, (HV.out.1.setCell (by simp) _).setCell (by simp) _⟩
            · exact HV.out.2.2.2.of_block ((heap_setCell_other _ _ _ _ (by simp; try omega)).trans (heap_setCell_other _ _ _ _ (by simp; try omega)))
            · exact HR2.out.1.of_block ((heap_setCell_other _ _ _ _ (by simp; try omega)).trans (heap_setCell_other _ _ _ _ (by simp; try omega)))
          clear hlt h1 h2
          go_wp2
          refine bodyPost_ret (v := .agg #[(.map (some (w.heap.size + 1 + 1))), (.map (some (w.heap.size + 1 + 1 + 1)))]) ?_ rfl HP.out
          obtain ⟨s0, s1, s2⟩ := HS.out
          simp [results, Try.results24, go_sem, s0, s1, s2]
end Go.Proofs.Ytidmfdbckpficaa
