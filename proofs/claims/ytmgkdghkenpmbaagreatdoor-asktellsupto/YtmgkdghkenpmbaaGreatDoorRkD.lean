/-
  The walk of the document's reader: what lies between the parts of a test with a sign.
-/
import Derived.Test.YtmgkdghkenpmbaaGreatDoorRkC
import Derived.Deep.DeepCutAuto
import Derived.Deep.RegionLaw
import Derived.Deep.RegionHeld3
namespace Go.Proofs.YtmgkdghkenpmbaaGreatDoor
open Go.RowKit
set_option linter.unusedVariables false
set_option linter.unusedSimpArgs false

theorem vwk_go {s : ByteArray} {k m : Nat} {q q' : Bool} (h1 : k ≤ m) (h : m < s.size) (hv : vw false (s.data.toList.drop k) = (s.data.toList.drop k).take (m - k) ++ vw q (s.data.toList.drop m)) (hn : vw q (s[m] :: s.data.toList.drop (m + 1)) = s[m] :: vw q' (s.data.toList.drop (m + 1))) :
    vw false (s.data.toList.drop k) = (s.data.toList.drop k).take (m + 1 - k) ++ vw q' (s.data.toList.drop (m + 1)) := by
  have e : (s.data.toList.drop k).take (m + 1 - k) = (s.data.toList.drop k).take (m - k) ++ [s[m]] := by
    have e1 : m + 1 - k = (m - k) + 1 := by omega
    rw [e1, List.take_succ_eq_append_getElem (by rw [List.length_drop, ← size_len]; omega)]
    congr 2
    rw [List.getElem_drop]
    simp [ByteArray.getElem_eq_getElem_data, show k + (m - k) = m by omega]
  rw [hv, drop_c h, hn, e]; simp
/-- Where the word that is a value ends. -/
theorem vwk_stop {s : ByteArray} {k m : Nat} {q : Bool} (h1 : k ≤ m) (h2 : m ≤ s.size) (hv : vw false (s.data.toList.drop k) = (s.data.toList.drop k).take (m - k) ++ vw q (s.data.toList.drop m)) (hn : vw q (s.data.toList.drop m) = []) :
    (s.data.toList.drop k).take (m - k) = vw false (s.data.toList.drop k) ∧ s.data.toList.drop m = (s.data.toList.drop k).drop (vw false (s.data.toList.drop k)).length := by
  have e : (s.data.toList.drop k).take (m - k) = vw false (s.data.toList.drop k) := by rw [hv, hn]; simp
  refine ⟨e, ?_⟩
  rw [← e, List.length_take, List.length_drop, ← size_len, List.drop_drop, show k + min (m - k) (s.size - k) = m by omega]
/-- What stands between two rounds of the loop over a value's word. -/
structure KtI (b : Nat) (s : ByteArray) (nm : Nm) (hw : Int) (g4 g0 : Nat) (w : World) (k : Nat) (q : Bool) (m : Nat) (wr : World) : Prop where
  le : k ≤ m
  sz : m ≤ s.size
  eq : vw false (s.data.toList.drop k) = (s.data.toList.drop k).take (m - k) ++ vw q (s.data.toList.drop m)
  rb : wr.heap[b]? = some (.cells #[.string s, .int .i64 (m : Int), .bool false] 60 (0, 0))
  r4 : wr.heap[g4]? = some (.cells #[.string (bs nm), .int .i64 hw, .int .i64 0, .int .i64 0, .string ⟨#[]⟩] 33 (0, 0))
  r0 : wr.heap[g0]? = some (.cells #[.string ⟨#[]⟩, .int .i64 0, .int .i64 0, .int .i64 0, .string ⟨#[]⟩] 33 (0, 0))
  gw : Gw b w wr
theorem KtI.drewN {b : Nat} {s : ByteArray} {nm : Nm} {hw : Int} {g4 g0 : Nat} {w : World} {k : Nat} {q : Bool} {m : Nat} {wr : World} (h : KtI b s nm hw g4 g0 w k q m wr) (n : Nat) : KtI b s nm hw g4 g0 w k q m (wr.drewN n) := ⟨h.le, h.sz, h.eq, h.rb, h.r4, h.r0, h.gw.drew n⟩
theorem KtI.next {b : Nat} {s : ByteArray} {nm : Nm} {hw : Int} {g4 g0 : Nat} {w : World} {k : Nat} {q q' : Bool} {m : Nat} {wr : World} (h : KtI b s nm hw g4 g0 w k q m wr) (hlt : m < s.size) (hn : vw q (s[m] :: s.data.toList.drop (m + 1)) = s[m] :: vw q' (s.data.toList.drop (m + 1))) (h4 : g4 ≠ b) (h0 : g0 ≠ b) :
    KtI b s nm hw g4 g0 w k q' (m + 1) (wr.setCell ⟨b, 1, none⟩ (.int .i64 ((m : Int) + 1))) :=
  ⟨Nat.le_succ_of_le h.le, hlt, vwk_go h.le hlt h.eq hn, rk_put h.rb _, (heap_setCell_other wr ⟨b, 1, none⟩ g4 _ h4).trans h.r4, (heap_setCell_other wr ⟨b, 1, none⟩ g0 _ h0).trans h.r0, h.gw.set _ _⟩

theorem b_drw {B : Nat} {a w : World} (h : Below B a w) : Below B a w.drew := ⟨h.os, h.tape, h.output, h.size, h.block⟩
/-- What lies behind the reading of a value's word. -/
structure KtC (b : Nat) (s : ByteArray) (nm : Nm) (hw : Int) (g4 g0 : Nat) (w : World) (m : Nat) (t n : Int) (l : ByteArray) (z : Int) (s8 s9 : Value) (g8 : Nat) (wx : World) : Prop where
  p8 : s8 = .pointer (some ⟨g8, 0, none⟩)
  p9 : s9 = .int .i64 z
  r8 : wx.heap[g8]? = some (.cells #[.int .i64 t, .int .i64 n, .string l] 31 (0, 0))
  rb : wx.heap[b]? = some (.cells #[.string s, .int .i64 (m : Int), .bool false] 60 (0, 0))
  r4 : wx.heap[g4]? = some (.cells #[.string (bs nm), .int .i64 hw, .int .i64 0, .int .i64 0, .string ⟨#[]⟩] 33 (0, 0))
  r0 : wx.heap[g0]? = some (.cells #[.string ⟨#[]⟩, .int .i64 0, .int .i64 0, .int .i64 0, .string ⟨#[]⟩] 33 (0, 0))
  gw : Gw b w wx
theorem ktC_alloc {b : Nat} {s : ByteArray} {nm : Nm} {hw : Int} {g4 g0 : Nat} {w : World} {k : Nat} {q : Bool} {m : Nat} {wr W2 : World} (h : KtI b s nm hw g4 g0 w k q m wr) (hB : Below wr.heap.size wr W2) (t n : Int) (l : ByteArray) (z : Int) :
    KtC b s nm hw g4 g0 w m t n l z (.pointer (some ⟨W2.heap.size, 0, none⟩)) (.int .i64 z) W2.heap.size (W2.alloc (.cells #[.int .i64 t, .int .i64 n, .string l] 31)) :=
  ⟨rfl, rfl, new_block W2 _ 31, old_block ((hB.block b (Array.getElem?_eq_some_iff.1 h.rb).1).trans h.rb) _, old_block ((hB.block g4 (Array.getElem?_eq_some_iff.1 h.r4).1).trans h.r4) _, old_block ((hB.block g0 (Array.getElem?_eq_some_iff.1 h.r0).1).trans h.r0) _, (h.gw.on hB).alloc _⟩
theorem ktC_set {b : Nat} {s : ByteArray} {nm : Nm} {hw : Int} {g4 g0 : Nat} {w : World} {k : Nat} {q : Bool} {m : Nat} {wr W2 : World} (h : KtI b s nm hw g4 g0 w k q m wr) (hB : Below wr.heap.size wr W2) {g8 : Nat} (h8 : W2.heap[g8]? = some (.cells #[.int .i64 0, .int .i64 0, .string ⟨#[]⟩] 31 (0, 0))) (hg : wr.heap.size ≤ g8) (t n : Int) (l : ByteArray) (z : Int) :
    KtC b s nm hw g4 g0 w m t n l z (.pointer (some ⟨g8, 0, none⟩)) (.int .i64 z) g8 (((W2.setCell ⟨g8, 0, none⟩ (.int .i64 t)).setCell ⟨g8, 1, none⟩ (.int .i64 n)).setCell ⟨g8, 2, none⟩ (.string l)) := by
  have lb := (Array.getElem?_eq_some_iff.1 h.rb).1
  have l4 := (Array.getElem?_eq_some_iff.1 h.r4).1
  have l0 := (Array.getElem?_eq_some_iff.1 h.r0).1
  have k : ∀ g, g < wr.heap.size → (((W2.setCell ⟨g8, 0, none⟩ (.int .i64 t)).setCell ⟨g8, 1, none⟩ (.int .i64 n)).setCell ⟨g8, 2, none⟩ (.string l)).heap[g]? = wr.heap[g]? := fun g hl => by
    rw [heap_setCell_other _ ⟨g8, 2, none⟩ g _ (by simp only; omega), heap_setCell_other _ ⟨g8, 1, none⟩ g _ (by simp only; omega), heap_setCell_other _ ⟨g8, 0, none⟩ g _ (by simp only; omega)]
    exact hB.block g hl
  have hgw := h.gw.size
  exact ⟨rfl, rfl, heap_setCell_same _ g8 2 _ 31 _ (heap_setCell_same _ g8 1 _ 31 _ (heap_setCell_same W2 g8 0 _ 31 _ h8)), (k b lb).trans h.rb, (k g4 l4).trans h.r4, (k g0 l0).trans h.r0, (((h.gw.on hB).setO (by omega) 0 _).setO (by omega) 1 _).setO (by omega) 2 _⟩
theorem blk_ne {w : World} {g g' : Nat} {cs cs' : Array Value} {t t' : TypeId} (h : w.heap[g]? = some (.cells cs t (0, 0))) (h' : w.heap[g']? = some (.cells cs' t' (0, 0))) (ht : t ≠ t') : ¬ g = g' := fun e => by
  subst e; rw [h] at h'; injection h' with e; injection e with _ e; exact ht e

end Go.Proofs.YtmgkdghkenpmbaaGreatDoor
