/-
  Where the loops of DeltaEmpties stand.
-/
import Derived.Test.YtkgblicmkijpdaaEmpM
namespace Go.Proofs.Ytkgblicmkijpdaa
open Go.RowKit
set_option linter.unusedVariables false
set_option linter.unusedSimpArgs false

theorem take_count {α : Type} (f : α → Bool) {T : List α} {i : Nat} {t : α} (h : T[i]? = some t) : ((T.take (i + 1)).filter f).length = ((T.take i).filter f).length + (if f t = true then 1 else 0) := by
  obtain ⟨hi, rfl⟩ := List.getElem?_eq_some_iff.1 h
  rw [List.take_succ_eq_append_getElem hi, List.filter_append, List.length_append]
  congr 1
  cases hf : f T[i] <;> simp [List.filter, hf]
/-- Where the second loop stands. -/
def EmI (W0 : World) (N : List Nd) (T : List Te) (q i : Nat) (wr : World) : Prop := ∃ vn vt M U, wr.heap[q]? = some (.cells #[vn, vt] 25 (0, 0)) ∧ (∀ W, wr.grownBy W (some q) → IsN W vn M ∧ IsT W vt U) ∧ cN M = (cN N).drop i ∧ U = (N.take i).foldl (fun U n => U.filter (keepT n.id)) T ∧ gErr M U = 0 ∧ SzN M ∧ SzT U ∧ Below W0.heap.size W0 wr
/-- What a round of it has made. -/
def EmC (W0 : World) (vn vt : Value) (K : List Nd) (U : List Te) (q : Nat) (s13 s14 : Value) (wx : World) : Prop := ∃ p2 un ut M, s13 = .pointer (some ⟨p2, 0, none⟩) ∧ s14 = .nilIface ∧ wx.heap[p2]? = some (.cells #[un, ut] 25 (0, 0)) ∧ OwnNs wx 0 un M ∧ OwnTs wx 0 ut U ∧ cN M = K ∧ gErr M U = 0 ∧ wx.heap[q]? = some (.cells #[vn, vt] 25 (0, 0)) ∧ Below W0.heap.size W0 wx
theorem szN_c {N M : List Nd} (h : SzN N) (hs : ∀ m ∈ cN M, m ∈ cN N) : SzN M := fun n hn => by
  obtain ⟨x, hx, e⟩ := List.mem_map.1 (hs n.c (List.mem_map.2 ⟨n, hn, rfl⟩))
  have := h x hx
  obtain ⟨i, kd, rv, rc⟩ := n
  obtain ⟨j, ke, rw', rd⟩ := x
  simp [Nd.c] at e
  obtain ⟨rfl, rfl, rfl⟩ := e
  exact this
theorem grown_two {W' : World} (q : Nat) (u v : Value) : W'.grownBy ((W'.setCell ⟨q, 0, none⟩ u).setCell ⟨q, 1, none⟩ v) (some q) :=
  ⟨rfl, rfl, rfl, by simp, fun k _ hk => (heap_setCell_other _ ⟨q, 1, none⟩ k v (fun e => hk (by simp [e]))).trans (heap_setCell_other _ ⟨q, 0, none⟩ k u (fun e => hk (by simp [e])))⟩
theorem em_step {W0 wc : World} {N : List Nd} {T U : List Te} {q i : Nat} {n : Nd} {M : List Nd} {vn vt un ut : Value} (hn : N[i]? = some n) (hU : U = (N.take i).foldl (fun U n => U.filter (keepT n.id)) T) (h1 : OwnNs wc 0 un M) (h2 : OwnTs wc 0 ut (U.filter (keepT n.id))) (h3 : cN M = (cN N).drop (i + 1)) (h4 : gErr M (U.filter (keepT n.id)) = 0) (h5 : wc.heap[q]? = some (.cells #[vn, vt] 25 (0, 0))) (h6 : Below W0.heap.size W0 wc) (hq : W0.heap.size ≤ q) (zN : SzN N) (zU : SzT U) :
    EmI W0 N T q (i + 1) ((wc.setCell ⟨q, 0, none⟩ un).setCell ⟨q, 1, none⟩ ut) := by
  have hq3 : ((wc.setCell ⟨q, 0, none⟩ un).setCell ⟨q, 1, none⟩ ut).heap[q]? = some (.cells #[un, ut] 25 (0, 0)) := heap_setCell_same _ _ 1 _ 25 _ (heap_setCell_same wc _ 0 _ 25 _ h5)
  refine ⟨un, ut, M, _, hq3, fun W hg => ?_, h3, ?_, h4, szN_c zN (fun m hm => ?_), fun t ht => zU t (List.mem_filter.1 ht).1, (h6.setCell hq _).setCell hq _⟩
  · have hw : wc.grownBy W (some q) := grown_trans (grown_two q un ut) hg
    exact ⟨(h1.kt (.of_grown h5 (by decide) hw) (.of_grown h5 (by decide) hw)).isN, (h2.kt (.of_grown h5 (by decide) hw)).isT⟩
  · rw [hU]
    have e : N.take (i + 1) = N.take i ++ [n] := by
      obtain ⟨h, rfl⟩ := List.getElem?_eq_some_iff.1 hn
      rw [List.take_succ_eq_append_getElem h]
    rw [e, List.foldl_append]
    rfl
  · rw [h3] at hm
    exact List.mem_of_mem_drop hm
theorem em_start {W0 wr : World} {N : List Nd} {T : List Te} {vn vt : Value} {w : World} (hN : IsN w vn N) (hT : IsT w vt T) (zN : SzN N) (zT : SzT T) (he : gErr N T = 0) (hw : Below w.heap.size w W0) (hB : Below W0.heap.size W0 wr) : EmI W0 N T wr.heap.size 0 (wr.alloc (.cells #[vn, vt] 25)) := by
  have hb : Below w.heap.size w (wr.alloc (.cells #[vn, vt] 25)) := on1K hw (b_alloc hB _) (Nat.le_refl _)
  refine ⟨vn, vt, N, T, heap_alloc_new wr _, fun W hg => ?_, rfl, rfl, he, zN, zT, b_alloc hB _⟩
  have : Below w.heap.size w W := below_grown hb hg hb.size (fun k hk => by injection hk with hk; subst hk; exact Nat.le_trans hw.size hB.size)
  exact ⟨hN.on this, hT.on this⟩
theorem emC_alloc {W0 W2 : World} {vn vt un ut : Value} {K M : List Nd} {U : List Te} {q B : Nat} (h1 : OwnNs W2 B un M) (h2 : OwnTs W2 B ut U) (h3 : cN M = K) (h4 : gErr M U = 0) (h5 : W2.heap[q]? = some (.cells #[vn, vt] 25 (0, 0))) (h6 : Below W0.heap.size W0 W2) :
    EmC W0 vn vt K U q (.pointer (some ⟨W2.heap.size, 0, none⟩)) .nilIface (W2.alloc (.cells #[un, ut] 25)) := by
  have hb : Below W2.heap.size W2 (W2.alloc (.cells #[un, ut] 25)) := b_alloc (Below.refl _ _) _
  refine ⟨W2.heap.size, un, ut, M, rfl, rfl, heap_alloc_new W2 _, ⟨own_base (own_kt h1.1 (.of_below hb)) (Nat.zero_le _), fun n hn => own_base ((h1.2 n hn).kt (.of_below hb)) (Nat.zero_le _)⟩, own_base (h2.kt (.of_below hb)) (Nat.zero_le _), h3, h4, (hb.block q (Array.getElem?_eq_some_iff.1 h5).1).trans h5, on1K h6 hb (Nat.le_refl _)⟩
theorem emC_set {W0 W2 : World} {vn vt un ut z1 z2 : Value} {K M : List Nd} {U : List Te} {q B p2 : Nat} (hp2 : W2.heap[p2]? = some (.cells #[z1, z2] 25 (0, 0))) (hpq : q ≠ p2) (hp0 : W0.heap.size ≤ p2) (h1 : OwnNs W2 B un M) (h2 : OwnTs W2 B ut U) (h3 : cN M = K) (h4 : gErr M U = 0) (h5 : W2.heap[q]? = some (.cells #[vn, vt] 25 (0, 0))) (h6 : Below W0.heap.size W0 W2) :
    EmC W0 vn vt K U q (.pointer (some ⟨p2, 0, none⟩)) .nilIface ((W2.setCell ⟨p2, 0, none⟩ un).setCell ⟨p2, 1, none⟩ ut) := by
  have ty : Ty W2 p2 25 := ⟨_, hp2⟩
  have k : ∀ t, 25 ≠ t → Kt t W2 ((W2.setCell ⟨p2, 0, none⟩ un).setCell ⟨p2, 1, none⟩ ut) := fun t ht => ((Kt.refl _ _).ty ty ht _ _).ty (ty.set _ _ _) ht _ _
  refine ⟨p2, un, ut, M, rfl, rfl, heap_setCell_same _ _ 1 _ 25 _ (heap_setCell_same W2 _ 0 _ 25 _ hp2), ⟨own_base (own_kt h1.1 (k 30 (by decide))) (Nat.zero_le _), fun n hn => own_base ((h1.2 n hn).kt (k 38 (by decide))) (Nat.zero_le _)⟩, own_base (h2.kt (k 40 (by decide))) (Nat.zero_le _), h3, h4, ?_, (h6.setCell hp0 _).setCell hp0 _⟩
  exact (heap_setCell_other _ ⟨p2, 1, none⟩ q ut hpq).trans ((heap_setCell_other _ ⟨p2, 0, none⟩ q un hpq).trans h5)
/-- A round's first node. -/
theorem em_first {M N : List Nd} {i : Nat} {n : Nd} (h : cN M = (cN N).drop i) (hn : N[i]? = some n) : fndN n.id M = true ∧ (cN M).eraseIdx (loN n.id M) = (cN N).drop (i + 1) := by
  have hd : (cN N).drop i = n.c :: (cN N).drop (i + 1) := by
    have : (cN N)[i]? = some n.c := by unfold cN; rw [List.getElem?_map, hn]; rfl
    obtain ⟨h, e⟩ := List.getElem?_eq_some_iff.1 this
    rw [← e]
    exact List.drop_eq_getElem_cons h
  rw [hd] at h
  obtain ⟨h1, h2⟩ := first_fnd n.c ((cN N).drop (i + 1))
  rw [← h, fndN_c] at h1
  rw [← h, loN_c] at h2
  refine ⟨h1, ?_⟩
  have e : loN n.id M = 0 := h2
  rw [e, h]
  rfl
end Go.Proofs.Ytkgblicmkijpdaa
