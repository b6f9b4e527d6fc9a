/-
  A path of kinds and bonds alone, in plain functions and in memory; what is right with it: the walk of Plain.
-/
import Derived.Test.YtenadbfedbjefaaDoorWalkI
import Derived.Test.YtenadbfedbjefaaDoorGen
import Derived.Lib.Join
import Derived.Lib.Hide
import Derived.Deep.RegionHeldLaw
import Derived.Deep.RegionLaw
namespace Go.Proofs.YtenadbfedbjefaaDoor
open Go.RowKit
set_option linter.unusedVariables false
set_option linter.unusedSimpArgs false

/-- A text as a list. -/
abbrev Nm := List UInt8
/-- It as a string. -/
def bs (l : Nm) : ByteArray := ⟨l.toArray⟩
theorem bs_toList (l : Nm) : (bs l).toList = l := by rw [Lib.toList_data]; simp [bs]
theorem bs_data (l : Nm) : (bs l).data.toList = l := by simp [bs]
theorem bs_self (s : ByteArray) : bs s.toList = s := by rw [Lib.toList_data]; cases s; simp [bs]
theorem bs_size (l : Nm) : (bs l).size = l.length := by simp [bs, ByteArray.size]
attribute [simp, go_sem] bs_toList bs_data
/-- A step: its bond, whether back, its kind. -/
structure St where
  bd : Nm
  back : Bool
  kd : Nm
abbrev St.one (p : St) : Value := .agg #[.string (bs p.bd), .bool p.back, .string (bs p.kd), .slice none 0 0]
def St.cells (p : St) : List Value := [.string (bs p.bd), .bool p.back, .string (bs p.kd), .slice none 0 0]
abbrev boxP (p : St) : Obj := .cells #[.string (bs p.bd), .bool p.back, .string (bs p.kd), .slice none 0 0] 30
def cellsS (L : List St) : List Value := L.flatMap St.cells
theorem cellsS_snoc (L : List St) (p : St) : cellsS (L ++ [p]) = cellsS L ++ p.cells := by simp [cellsS]
/-- A step that is right. -/
def OkS (f : Bool) (p : St) : Prop := nErr p.kd = 0 ∧ (f = true → p.bd = [] ∧ p.back = false) ∧ (f = false → p.bd = [112])
def LiesS (w : World) (b off : Nat) (L : List St) : Prop := ∀ k p, L[k]? = some p →
  w.cell? ⟨b, off + k * 4, none⟩ = some (.string (bs p.bd)) ∧ w.cell? ⟨b, off + k * 4 + 1, none⟩ = some (.bool p.back) ∧ w.cell? ⟨b, off + k * 4 + 2, none⟩ = some (.string (bs p.kd)) ∧ w.cell? ⟨b, off + k * 4 + 3, none⟩ = some (.slice none 0 0)
theorem LiesS.on {w w' : World} {b off : Nat} {L : List St} (h : LiesS w b off L) (hb : b < w.heap.size) (hB : Below w.heap.size w w') : LiesS w' b off L := fun k x hx => by
  obtain ⟨c0, c1, c2, c3⟩ := h k x hx
  exact ⟨(hB.cell hb).trans c0, (hB.cell hb).trans c1, (hB.cell hb).trans c2, (hB.cell hb).trans c3⟩
theorem b_alloc {w0 w : World} (h : Below w0.heap.size w0 w) (o : Obj) : Below w0.heap.size w0 (w.alloc o) := h.alloc h.size o
theorem on1 {W0 W W' : World} (hK : Below W0.heap.size W0 W) (hb : Below W.heap.size W W') : Below W0.heap.size W0 W' := hK.trans (hb.mono hK.size)
theorem new_block (w : World) (cs : Array Value) (t : TypeId) : (w.alloc (.cells cs t)).heap[w.heap.size]? = some (.cells cs t (0, 0)) := heap_alloc_new w _
theorem old_block {w : World} {b : Nat} {o : Obj} (h : w.heap[b]? = some o) (o' : Obj) : (w.alloc o').heap[b]? = some o :=
  (Below.heap_alloc _ _ _ (Array.getElem?_eq_some_iff.1 h).1).trans h
theorem cell_old {w : World} {a : Addr} {v : Value} (h : w.cell? a = some v) : ∀ o, (w.alloc o).cell? a = some v := fun o => by
  rw [World.cell?_alloc_lt _ _ a (cell_lt h)]; exact h
theorem name_len {l : List UInt8} (h : nErr l = 0) : l.length ≤ 8 := by
  unfold nErr at h
  split at h
  · exact absurd h (by decide)
  · split at h
    · exact absurd h (by decide)
    · omega
theorem name_ok {l : Nm} (h : nErr l = 0) (w : World) : Calls Tryd.prog 4 #[.string (bs l)] w fun e w' => e = .returned .nilIface ∧ w' = w := by
  have := name_any (bs l) w (by rw [bs_size]; have := name_len h; unfold maxLen; omega)
  rw [bs_data, h, errV_0] at this
  exact this

set_option maxHeartbeats 2000000 in
set_option maxRecDepth 100000 in
theorem plainBond_ok (f : Bool) (p : St) (w : World) (h : OkS f p) : Calls Tryd.prog 21 #[p.one, .bool f] w fun e w' => e = .returned .nilIface ∧ Below w.heap.size w w' := by
  obtain ⟨bd, back, kd⟩ := p
  obtain ⟨_, h1, h2⟩ := h
  cases f with
  | false =>
    have hb := h2 rfl
    simp only at hb
    subst hb
    have c1 := fun W => name_ok (l := [112]) (by decide) W
    go_enter Tryd.func21, Tryd.ntmps21
    go_wp2_with (go_at_call 4; refine (c1 _).mono ?_; rintro e w' ⟨rfl, rfl⟩)
    go_ret
    exact ⟨rfl, b_alloc (Below.refl _ _) _⟩
  | true =>
    obtain ⟨hb, hk⟩ := h1 rfl
    simp only at hb hk
    subst hb
    subst hk
    show Calls Tryd.prog 21 #[.agg #[.string ⟨#[]⟩, .bool false, .string (bs kd), .slice none 0 0], .bool true] w _
    go_enter Tryd.func21, Tryd.ntmps21
    go_wp2
    go_ret
    exact ⟨rfl, b_alloc (Below.refl _ _) _⟩
set_option maxHeartbeats 2000000 in
set_option maxRecDepth 100000 in
theorem plainStep_ok (f : Bool) (p : St) (w : World) (h : OkS f p) : Calls Tryd.prog 14 #[p.one, .bool f] w fun e w' => e = .returned .nilIface ∧ Below w.heap.size w w' := by
  have c1 := fun W => name_ok h.1 W
  have c2 := fun W => plainBond_ok f p W h
  have HB0 : Hid (Below w.heap.size w (w.alloc (boxP p))) := (Below.refl _ w).alloc (Nat.le_refl _) _
  have HS : Hid (∀ W, Below (w.alloc (boxP p)).heap.size (w.alloc (boxP p)) W → Below w.heap.size w W ∧ W.cell? ⟨w.heap.size, 3, none⟩ = some (.slice none 0 0)) := fun W hW => by
    have hp := (hW.block w.heap.size (by simp)).trans (new_block w _ 30)
    exact ⟨on1 HB0.out hW, cell_at hp rfl⟩
  clear h
  go_enter Tryd.func14, Tryd.ntmps14
  go_wp2_with (first | (go_at_call 4; refine (c1 _).mono ?_; rintro e w' ⟨rfl, rfl⟩) | (go_at_call 21; refine (c2 _).mono ?_; rintro e W1 ⟨rfl, hB1⟩; obtain ⟨hb1, p3⟩ := HS.out W1 hB1; have HB1 := Lib.hid hb1; clear hB1 hb1))
  clear p3 c1 c2
  go_loopw [31] (fun i wr => i = .int .i64 0 ∧ wr = W1) (fun i wr => 0)
  case atStart => exact ⟨rfl, rfl⟩
  case round =>
    obtain ⟨rfl, rfl⟩ := hrel
    go_wp2
    go_ret
    exact ⟨rfl, HB1.out⟩
/-- A path that is right. -/
def OkL (L : List St) : Prop := 0 < L.length ∧ L.length ≤ 6 ∧ ∀ k p, L[k]? = some p → OkS (decide (k = 0)) p
set_option maxHeartbeats 4000000 in
set_option maxRecDepth 100000 in
theorem plain_ok {b off c : Nat} {L : List St} {w : World} (hb : b < w.heap.size) (hL : LiesS w b off L) (hok : OkL L) : Calls Tryd.prog 9 #[.slice (some ⟨b, off, none⟩) L.length c] w fun e w' => e = .returned .nilIface ∧ Below w.heap.size w w' := by
  obtain ⟨h0, h6, hok⟩ := hok
  have HL := Lib.hid hL
  have HO := Lib.hid hok
  have hn1 : ((L.length : Int) == 0) = false := by rw [beq_eq_false_iff_ne]; omega
  clear hL hok
  go_enter Tryd.func9, Tryd.ntmps9
  go_wp2
  go_loopw [16] (fun i wr => ∃ k : Nat, k ≤ L.length ∧ i = .int .i64 (k : Int) ∧ Below w.heap.size w wr) (fun i wr => L.length - (intOf i).toNat)
  case atStart => exact ⟨0, Nat.zero_le _, rfl, Below.refl _ _⟩
  case round =>
    obtain ⟨k, hk, rfl, hB⟩ := hrel
    have HB := Lib.hid hB
    by_cases hlt : k < L.length
    · obtain ⟨x, hx⟩ : ∃ x, L[k]? = some x := ⟨_, List.getElem?_eq_getElem hlt⟩
      obtain ⟨l0, l1, l2, l3⟩ := (HL.out.on hb hB) k x hx
      have hf : ((k : Int) == 0) = decide (k = 0) := by rw [Bool.eq_iff_iff]; simp
      have cP := plainStep_ok (decide (k = 0)) x (wr.alloc (boxP x)) (HO.out k x hx)
      generalize decide (k = 0) = f at hf cP
      clear hB hx
      go_wp2_with (go_at_call 14; refine cP.mono ?_; rintro e W2 ⟨rfl, hB2⟩)
      go_roundw
      case rel => exact ⟨k + 1, by omega, by go_num, on1 (b_alloc HB.out _) hB2⟩
      case measure => simp [intOf]; omega
    · clear hB
      go_wp2
      go_ret
      exact ⟨rfl, HB.out⟩
end Go.Proofs.YtenadbfedbjefaaDoor
