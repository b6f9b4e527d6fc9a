/-
  DeltaEmpties in plain words: what is left of a graph whose nodes are gone, one by one; the graph of two nodes and one tie.
-/
import Derived.Test.YtidmfdbckpficaaM12
import Derived.Test.YtidmfdbckpficaaM35
import Derived.Test.YtidmfdbckpficaaM36
import Derived.Test.YtidmfdbckpficaaM34
namespace Go.Proofs.Ytidmfdbckpficaa
open Go.RowKit
set_option linter.unusedVariables false
set_option linter.unusedSimpArgs false

/-- Gone of a node. -/
abbrev oG (id : Int) : Opx := ⟨2, ⟨id, ⟨#[]⟩, .slice none 0 0, []⟩, ⟨⟨#[]⟩, 0, 0, ⟨#[]⟩⟩, ⟨⟨#[]⟩, 0, 0⟩⟩
theorem oG_sz (id : Int) : OpSz (oG id) := by
  have h0 : (⟨#[]⟩ : ByteArray).size ≤ maxLen := by decide
  exact ⟨⟨h0, fun p hp => (by cases hp), by show 0 ≤ maxLen; decide⟩, ⟨h0, h0⟩, h0⟩
theorem isR_nil (w : World) : IsR w (.slice none 0 0) [] := ⟨none, 0, rfl, .inl rfl⟩
/-- Do of Gone. -/
theorem doG {vn vt : Value} {N : List Nd} {T : List Te} {w : World} (hN : IsN w vn N) (hT : IsT w vt T) (zN : SzN N) (zT : SzT T) (he : gErr N T = 0) (id : Int) (hf : fndN id N = true) :
    Calls Try.prog 6 #[.agg #[vn, vt], (oG id).one] w fun e w' => ∃ un ut M, e = .returned (.tuple #[.agg #[un, ut], .nilIface]) ∧ (cN M = (cN N).eraseIdx (loN id N) ∧ OwnNs w' w.heap.size un M ∧ OwnTs w' w.heap.size ut (T.filter (keepT id)) ∧ gErr M (T.filter (keepT id)) = 0) ∧ Below w.heap.size w w' :=
  (do_in goneS hN hT zN zT he (isR_nil w) (oG_sz id) (gone_ap rfl) (gone_keeps _)).mono fun e w' h => by
    have h0 : goneS.e (oG id) (cN N) T = 0 := by
      show goneE id (cN N) = 0
      unfold goneE; rw [fndN_c, hf]; rfl
    obtain ⟨hB, ⟨_, un, ut, M, rfl, hM, h1, h2, h3⟩ | ⟨h1, _⟩⟩ := h
    · refine ⟨un, ut, M, rfl, ⟨?_, h1, h2, h3⟩, hB⟩
      rw [hM]
      show (cN N).eraseIdx (loN id (cN N)) = _
      rw [loN_c]
    · exact absurd h0 h1

/-- The graph of two nodes and one tie. -/
def two : List Nd := [⟨1, ⟨#[97]⟩, .nilIface, [prK 1]⟩, ⟨2, ⟨#[97]⟩, .nilIface, [prK 2]⟩]
def oneT : List Te := [⟨⟨#[112]⟩, 1, 2⟩]
theorem two_of {N : List Nd} (hl : N.length = 2) (h : ∀ (j : Nat) (x : Nd), N[j]? = some x → x.id = (j : Int) + 1 ∧ x.kd = ⟨#[97]⟩ ∧ x.rc = [prK ((j : Int) + 1)]) : cN N = two := by
  match N, hl with
  | [a, b], _ =>
    obtain ⟨a1, a2, a3⟩ := h 0 a rfl
    obtain ⟨b1, b2, b3⟩ := h 1 b rfl
    obtain ⟨ai, ak, av, ar⟩ := a
    obtain ⟨bi, bk, bv, br⟩ := b
    simp only at a1 a2 a3 b1 b2 b3
    subst a1 a2 a3 b1 b2 b3
    rfl
theorem rowT_one : rowT 1 = oneT := by simp [rowT, List.range_succ, tK, oneT]
theorem two_err : gErr two oneT = 0 := by decide +kernel
theorem two_fnd : fndN 2 two = true := by decide +kernel
theorem two_lo : loN 2 two = 1 := by decide +kernel
theorem two_tie : oneT.filter (keepT 2) = [] := by decide +kernel
theorem two_szN {N : List Nd} (h : cN N = two) : SzN N := fun n hn => by
  have : n.c ∈ two := by rw [← h]; exact List.mem_map.2 ⟨n, hn, rfl⟩
  have hk : (⟨#[97]⟩ : ByteArray).size ≤ maxLen := by decide
  have hz : ∀ i, Sz [prK i] := fun i p hp => by
    simp at hp; subst hp
    exact ⟨by show (⟨#[107]⟩ : ByteArray).size ≤ maxLen; decide, by show (⟨#[]⟩ : ByteArray).size ≤ maxLen; decide⟩
  obtain ⟨i, kd, rv, rc⟩ := n
  simp [two, Nd.c] at this
  rcases this with ⟨_, rfl, rfl⟩ | ⟨_, rfl, rfl⟩ <;> exact ⟨hk, hz _, by show 1 ≤ maxLen; decide⟩
theorem one_szT : SzT oneT := fun t ht => by
  simp [oneT] at ht; subst ht
  show (⟨#[112]⟩ : ByteArray).size ≤ maxLen
  decide
/-- The fact that opens the law: of two nodes with a tie one is gone, and the tie with it. -/
theorem fact_two {N : List Nd} {vn vt : Value} {w : World} (hl : N.length = 2) (h : ∀ (j : Nat) (x : Nd), N[j]? = some x → x.id = (j : Int) + 1 ∧ x.kd = ⟨#[97]⟩ ∧ x.rc = [prK ((j : Int) + 1)]) (hN : IsN w vn N) (hT : IsT w vt (rowT 1)) :
    Calls Try.prog 6 #[.agg #[vn, vt], (oG 2).one] w fun e w' => ∃ a c b d, e = .returned (.tuple #[.agg #[.slice a 1 c, .slice b 0 d], .nilIface]) ∧ Below w.heap.size w w' := by
  have hc := two_of hl h
  rw [rowT_one] at hT
  have he : gErr N oneT = 0 := by rw [← gErr_c, hc]; exact two_err
  have hf : fndN 2 N = true := by rw [← fndN_c, hc]; exact two_fnd
  refine (doG hN hT (two_szN hc) one_szT he 2 hf).mono ?_
  rintro e w' ⟨un, ut, M, rfl, ⟨hM, h1, h2, _⟩, hB⟩
  rw [two_tie] at h2
  obtain ⟨a, c, rfl⟩ := own_slice h1.1
  obtain ⟨b, d, rfl⟩ := own_slice h2
  have : M.length = 1 := by
    have := congrArg List.length hM
    rw [cN_len, List.length_eraseIdx_of_lt (by rw [cN_len]; exact fndN_lt hf), cN_len, hl] at this
    exact this
  rw [this]
  exact ⟨a, c, b, d, rfl, hB⟩

/-- Ties of which no end is a node. -/
def looseT (N : List Nd) (t : Te) : Bool := !hasId N t.fr && !hasId N t.tt
theorem keep_all (N : List Nd) (T : List Te) : N.foldl (fun U n => U.filter (keepT n.id)) T = T.filter (looseT N) := by
  induction N generalizing T with
  | nil =>
    rw [List.foldl_nil]
    exact (List.filter_eq_self.2 (fun t _ => by simp [looseT, hasId])).symm
  | cons n r ih =>
    rw [List.foldl_cons, ih, List.filter_filter]
    congr 1
    funext t
    unfold looseT keepT Te.end hasId
    rw [List.any_cons, List.any_cons, Bool.beq_comm (a := n.id) (b := t.fr), Bool.beq_comm (a := n.id) (b := t.tt)]
    cases (t.fr == n.id) <;> cases (t.tt == n.id) <;> simp
/-- The first one is found at the front. -/
theorem first_fnd (n : Nd) (r : List Nd) : fndN n.id (n :: r) = true ∧ loN n.id (n :: r) = 0 := by
  have h : loN n.id (n :: r) = 0 := by simp [loN]
  refine ⟨?_, h⟩
  unfold fndN
  rw [h]
  simp
end Go.Proofs.Ytidmfdbckpficaa

/-
  Where the loops of DeltaEmpties stand.
-/
namespace Go.Proofs.Ytidmfdbckpficaa
open Go.RowKit
set_option linter.unusedVariables false
set_option linter.unusedSimpArgs false

theorem take_count {α : Type} (f : α → Bool) {T : List α} {i : Nat} {t : α} (h : T[i]? = some t) : ((T.take (i + 1)).filter f).length = ((T.take i).filter f).length + (if f t = true then 1 else 0) := by
  obtain ⟨hi, rfl⟩ := List.getElem?_eq_some_iff.1 h
  rw [List.take_succ_eq_append_getElem hi, List.filter_append, List.length_append]
  congr 1
  cases hf : f T[i] <;> simp [List.filter, hf]
/-- Where the second loop stands. -/
def EmI (W0 : World) (N : List Nd) (T : List Te) (q i : Nat) (wr : World) : Prop := ∃ vn vt M U, wr.heap[q]? = some (.cells #[vn, vt] 25 (0, 0)) ∧ (∀ W, wr.grownBy W (some q) → IsN W vn M ∧ IsT W vt U) ∧ cN M = (cN N).drop i ∧ U = (N.take i).foldl (fun U n => U.filter (keepT n.id)) T ∧ gErr M U = 0 ∧ SzN M ∧ SzT U ∧ Below W0.heap.size W0 wr
/-- What a round of it has made. -/
def EmC (W0 : World) (vn vt : Value) (K : List Nd) (U : List Te) (q : Nat) (s13 s14 : Value) (wx : World) : Prop := ∃ p2 un ut M, s13 = .pointer (some ⟨p2, 0, none⟩) ∧ s14 = .nilIface ∧ wx.heap[p2]? = some (.cells #[un, ut] 25 (0, 0)) ∧ OwnNs wx 0 un M ∧ OwnTs wx 0 ut U ∧ cN M = K ∧ gErr M U = 0 ∧ wx.heap[q]? = some (.cells #[vn, vt] 25 (0, 0)) ∧ Below W0.heap.size W0 wx
theorem szN_c {N M : List Nd} (h : SzN N) (hs : ∀ m ∈ cN M, m ∈ cN N) : SzN M := fun n hn => by
  obtain ⟨x, hx, e⟩ := List.mem_map.1 (hs n.c (List.mem_map.2 ⟨n, hn, rfl⟩))
  have := h x hx
  obtain ⟨i, kd, rv, rc⟩ := n
  obtain ⟨j, ke, rw', rd⟩ := x
  simp [Nd.c] at e
  obtain ⟨rfl, rfl, rfl⟩ := e
  exact this
theorem grown_two {W' : World} (q : Nat) (u v : Value) : W'.grownBy ((W'.setCell ⟨q, 0, none⟩ u).setCell ⟨q, 1, none⟩ v) (some q) :=
  ⟨rfl, rfl, rfl, by simp, fun k _ hk => (heap_setCell_other _ ⟨q, 1, none⟩ k v (fun e => hk (by simp [e]))).trans (heap_setCell_other _ ⟨q, 0, none⟩ k u (fun e => hk (by simp [e])))⟩
theorem em_step {W0 wc : World} {N : List Nd} {T U : List Te} {q i : Nat} {n : Nd} {M : List Nd} {vn vt un ut : Value} (hn : N[i]? = some n) (hU : U = (N.take i).foldl (fun U n => U.filter (keepT n.id)) T) (h1 : OwnNs wc 0 un M) (h2 : OwnTs wc 0 ut (U.filter (keepT n.id))) (h3 : cN M = (cN N).drop (i + 1)) (h4 : gErr M (U.filter (keepT n.id)) = 0) (h5 : wc.heap[q]? = some (.cells #[vn, vt] 25 (0, 0))) (h6 : Below W0.heap.size W0 wc) (hq : W0.heap.size ≤ q) (zN : SzN N) (zU : SzT U) :
    EmI W0 N T q (i + 1) ((wc.setCell ⟨q, 0, none⟩ un).setCell ⟨q, 1, none⟩ ut) := by
  have hq3 : ((wc.setCell ⟨q, 0, none⟩ un).setCell ⟨q, 1, none⟩ ut).heap[q]? = some (.cells #[un, ut] 25 (0, 0)) := heap_setCell_same _ _ 1 _ 25 _ (heap_setCell_same wc _ 0 _ 25 _ h5)
  refine ⟨un, ut, M, _, hq3, fun W hg => ?_, h3, ?_, h4, szN_c zN (fun m hm => ?_), fun t ht => zU t (List.mem_filter.1 ht).1, (h6.setCell hq _).setCell hq _⟩
  · have hw : wc.grownBy W (some q) := grown_trans (grown_two q un ut) hg
    exact ⟨(h1.kt (.of_grown h5 (by decide) hw) (.of_grown h5 (by decide) hw)).isN, (h2.kt (.of_grown h5 (by decide) hw)).isT⟩
  · rw [hU]
    have e : N.take (i + 1) = N.take i ++ [n] := by
      obtain ⟨h, rfl⟩ := List.getElem?_eq_some_iff.1 hn
      rw [List.take_succ_eq_append_getElem h]
    rw [e, List.foldl_append]
    rfl
  · rw [h3] at hm
    exact List.mem_of_mem_drop hm
theorem em_start {W0 wr : World} {N : List Nd} {T : List Te} {vn vt : Value} {w : World} (hN : IsN w vn N) (hT : IsT w vt T) (zN : SzN N) (zT : SzT T) (he : gErr N T = 0) (hw : Below w.heap.size w W0) (hB : Below W0.heap.size W0 wr) : EmI W0 N T wr.heap.size 0 (wr.alloc (.cells #[vn, vt] 25)) := by
  have hb : Below w.heap.size w (wr.alloc (.cells #[vn, vt] 25)) := on1K hw (b_alloc hB _) (Nat.le_refl _)
  refine ⟨vn, vt, N, T, heap_alloc_new wr _, fun W hg => ?_, rfl, rfl, he, zN, zT, b_alloc hB _⟩
  have : Below w.heap.size w W := below_grown hb hg hb.size (fun k hk => by injection hk with hk; subst hk; exact Nat.le_trans hw.size hB.size)
  exact ⟨hN.on this, hT.on this⟩
theorem emC_alloc {W0 W2 : World} {vn vt un ut : Value} {K M : List Nd} {U : List Te} {q B : Nat} (h1 : OwnNs W2 B un M) (h2 : OwnTs W2 B ut U) (h3 : cN M = K) (h4 : gErr M U = 0) (h5 : W2.heap[q]? = some (.cells #[vn, vt] 25 (0, 0))) (h6 : Below W0.heap.size W0 W2) :
    EmC W0 vn vt K U q (.pointer (some ⟨W2.heap.size, 0, none⟩)) .nilIface (W2.alloc (.cells #[un, ut] 25)) := by
  have hb : Below W2.heap.size W2 (W2.alloc (.cells #[un, ut] 25)) := b_alloc (Below.refl _ _) _
  refine ⟨W2.heap.size, un, ut, M, rfl, rfl, heap_alloc_new W2 _, ⟨own_base (own_kt h1.1 (.of_below hb)) (Nat.zero_le _), fun n hn => own_base ((h1.2 n hn).kt (.of_below hb)) (Nat.zero_le _)⟩, own_base (h2.kt (.of_below hb)) (Nat.zero_le _), h3, h4, (hb.block q (Array.getElem?_eq_some_iff.1 h5).1).trans h5, on1K h6 hb (Nat.le_refl _)⟩
theorem emC_set {W0 W2 : World} {vn vt un ut z1 z2 : Value} {K M : List Nd} {U : List Te} {q B p2 : Nat} (hp2 : W2.heap[p2]? = some (.cells #[z1, z2] 25 (0, 0))) (hpq : q ≠ p2) (hp0 : W0.heap.size ≤ p2) (h1 : OwnNs W2 B un M) (h2 : OwnTs W2 B ut U) (h3 : cN M = K) (h4 : gErr M U = 0) (h5 : W2.heap[q]? = some (.cells #[vn, vt] 25 (0, 0))) (h6 : Below W0.heap.size W0 W2) :
    EmC W0 vn vt K U q (.pointer (some ⟨p2, 0, none⟩)) .nilIface ((W2.setCell ⟨p2, 0, none⟩ un).setCell ⟨p2, 1, none⟩ ut) := by
  have ty : Ty W2 p2 25 := ⟨_, hp2⟩
  have k : ∀ t, 25 ≠ t → Kt t W2 ((W2.setCell ⟨p2, 0, none⟩ un).setCell ⟨p2, 1, none⟩ ut) := fun t ht => ((Kt.refl _ _).ty ty ht _ _).ty (ty.set _ _ _) ht _ _
  refine ⟨p2, un, ut, M, rfl, rfl, heap_setCell_same _ _ 1 _ 25 _ (heap_setCell_same W2 _ 0 _ 25 _ hp2), ⟨own_base (own_kt h1.1 (k 30 (by decide))) (Nat.zero_le _), fun n hn => own_base ((h1.2 n hn).kt (k 38 (by decide))) (Nat.zero_le _)⟩, own_base (h2.kt (k 40 (by decide))) (Nat.zero_le _), h3, h4, ?_, (h6.setCell hp0 _).setCell hp0 _⟩
  exact (heap_setCell_other _ ⟨p2, 1, none⟩ q ut hpq).trans ((heap_setCell_other _ ⟨p2, 0, none⟩ q un hpq).trans h5)
/-- A round's first node. -/
theorem em_first {M N : List Nd} {i : Nat} {n : Nd} (h : cN M = (cN N).drop i) (hn : N[i]? = some n) : fndN n.id M = true ∧ (cN M).eraseIdx (loN n.id M) = (cN N).drop (i + 1) := by
  have hd : (cN N).drop i = n.c :: (cN N).drop (i + 1) := by
    have : (cN N)[i]? = some n.c := by unfold cN; rw [List.getElem?_map, hn]; rfl
    obtain ⟨h, e⟩ := List.getElem?_eq_some_iff.1 this
    rw [← e]
    exact List.drop_eq_getElem_cons h
  rw [hd] at h
  obtain ⟨h1, h2⟩ := first_fnd n.c ((cN N).drop (i + 1))
  rw [← h, fndN_c] at h1
  rw [← h, loN_c] at h2
  refine ⟨h1, ?_⟩
  have e : loN n.id M = 0 := h2
  rw [e, h]
  rfl
end Go.Proofs.Ytidmfdbckpficaa

/-
  What the walk of DeltaBack asks: Do of an op that goes through; where its loops stand; the fact that stands first in it.
-/
namespace Go.Proofs.Ytidmfdbckpficaa
open Go.RowKit
set_option linter.unusedVariables false
set_option linter.unusedSimpArgs false

theorem opE_c (o : Opx) (M : List Nd) (T : List Te) : opE o.c M T = opE o M T := by
  have e : newE o.nd.c M = newE o.nd M := by
    unfold newE
    rw [show gErr [o.nd.c] [] = gErr [o.nd] [] from gErr_c [o.nd] []]
    rfl
  unfold opE
  rw [show o.c.wh = o.wh from rfl, show o.c.nd = o.nd.c from rfl, e]
  rfl
theorem opM_c (o : Opx) (M : List Nd) (T : List Te) : opM o.c M T = opM o M T := rfl
theorem opT_c (o : Opx) (M : List Nd) (T : List Te) : opT o.c M T = opT o M T := rfl
theorem Runs.uncons {o : Opx} {L : List Opx} {M M' : List Nd} {T T' : List Te} (h : Runs (o.c :: L) M T M' T') : opE o M T = 0 ∧ Runs L (opM o M T) (opT o M T) M' T' := by
  obtain ⟨e1, e2⟩ := h
  unfold OpS.err at e1
  unfold OpS.res at e2
  by_cases h' : opS.e o.c M T = 0
  · rw [if_pos h'] at e1 e2
    exact ⟨(opE_c o M T).symm.trans h', e1, e2⟩
  · rw [if_neg h'] at e1
    exact absurd e1 h'
theorem nErr_sz {b : ByteArray} (h : nErr b.data.toList = 0) : b.size ≤ maxLen := by
  have := nErr_short h
  rw [size_len]
  unfold maxLen
  omega
theorem gErr_sz {M : List Nd} {T : List Te} (h : gErr M T = 0) : SzN M ∧ SzT T := by
  obtain ⟨⟨_, _, h1⟩, ⟨_, _, h2⟩⟩ := (gErr_iff M T).1 h
  refine ⟨fun n hn => ?_, fun t ht => (te_key (h2 t ht)).1.1⟩
  obtain ⟨_, e2, e3⟩ := (ndE_iff n).1 (h1 n hn)
  have := rErr_le e3
  exact ⟨nErr_sz e2, sz_of e3, by unfold maxLen; omega⟩
theorem do_yes {vn vt : Value} {N : List Nd} {T : List Te} {o : Opx} {w : World} (hN : IsN w vn N) (hT : IsT w vt T) (he : gErr N T = 0) (hR : IsR w o.nd.rv o.nd.rc) (zo : OpSz o) (h0 : opE o (cN N) T = 0) :
    Calls Try.prog 6 #[.agg #[vn, vt], o.one] w fun e w' => ∃ un ut M, e = .returned (.tuple #[.agg #[un, ut], .nilIface]) ∧ (cN M = opM o (cN N) T ∧ OwnNs w' w.heap.size un M ∧ OwnTs w' w.heap.size ut (opT o (cN N) T) ∧ gErr M (opT o (cN N) T) = 0) ∧ Below w.heap.size w w' := by
  refine (do_in opS hN hT (gErr_sz he).1 (gErr_sz he).2 he hR zo (apply_all o) (keeps_all o)).mono ?_
  rintro e w' ⟨hB, ⟨_, un, ut, M, rfl, q1, q2, q3, q4⟩ | ⟨h, _⟩⟩
  · exact ⟨un, ut, M, rfl, ⟨q1, q2, q3, q4⟩, hB⟩
  · exact absurd h0 h

/-- Where a loop of DeltaBack stands: what is left of the ops makes of the graph at q what they are to come to. -/
def BkI (WS : World) (L : List Opx) (K : List Nd) (V : List Te) (q i : Nat) (wr : World) : Prop :=
  ∃ vn vt M U, wr.heap[q]? = some (.cells #[vn, vt] 25 (0, 0)) ∧ (∀ W, wr.grownBy W (some q) → IsN W vn M ∧ IsT W vt U) ∧ Runs ((L.drop i).map Opx.c) (cN M) U K V ∧ gErr M U = 0 ∧ WS.grownBy wr (some q)
theorem bk_start {WS : World} {L : List Opx} {K : List Nd} {V : List Te} {N : List Nd} {T : List Te} {vn vt : Value} {w : World} {q : Nat} (hN : IsN w vn N) (hT : IsT w vt T) (he : gErr N T = 0) (hw : Below w.heap.size w WS) (hq : WS.heap[q]? = some (.cells #[vn, vt] 25 (0, 0))) (hwq : w.heap.size ≤ q) (hr : Runs (L.map Opx.c) (cN N) T K V) : BkI WS L K V q 0 WS := by
  refine ⟨vn, vt, N, T, hq, fun W hg => ?_, hr, he, grown_of_below (Below.refl _ _) _⟩
  have : Below w.heap.size w W := below_grown hw hg hw.size (fun k hk => by injection hk with hk; subst hk; exact hwq)
  exact ⟨hN.on this, hT.on this⟩
theorem bk_startO {WS : World} {L : List Opx} {K : List Nd} {V : List Te} {N : List Nd} {T : List Te} {vn vt : Value} {B q : Nat} (hN : OwnNs WS B vn N) (hT : OwnTs WS B vt T) (he : gErr N T = 0) (hq : WS.heap[q]? = some (.cells #[vn, vt] 25 (0, 0))) (hr : Runs (L.map Opx.c) (cN N) T K V) : BkI WS L K V q 0 WS := by
  refine ⟨vn, vt, N, T, hq, fun W hw => ?_, hr, he, grown_of_below (Below.refl _ _) _⟩
  exact ⟨(hN.kt (.of_grown hq (by decide) hw) (.of_grown hq (by decide) hw)).isN, (hT.kt (.of_grown hq (by decide) hw)).isT⟩
theorem bk_step {WS wr wc : World} {L : List Opx} {K : List Nd} {V : List Te} {q i : Nat} {M : List Nd} {U : List Te} {X : List Nd} {vn vt un ut : Value} (hr : Runs ((L.drop (i + 1)).map Opx.c) X U K V) (h1 : OwnNs wc 0 un M) (h2 : OwnTs wc 0 ut U) (h3 : cN M = X) (h4 : gErr M U = 0) (h5 : wc.heap[q]? = some (.cells #[vn, vt] 25 (0, 0))) (h6 : Below wr.heap.size wr wc) (h7 : WS.grownBy wr (some q)) :
    BkI WS L K V q (i + 1) ((wc.setCell ⟨q, 0, none⟩ un).setCell ⟨q, 1, none⟩ ut) := by
  have hq3 : ((wc.setCell ⟨q, 0, none⟩ un).setCell ⟨q, 1, none⟩ ut).heap[q]? = some (.cells #[un, ut] 25 (0, 0)) := heap_setCell_same _ _ 1 _ 25 _ (heap_setCell_same wc _ 0 _ 25 _ h5)
  refine ⟨un, ut, M, U, hq3, fun W hg => ?_, by rw [h3]; exact hr, h4, grown_trans (but_below h7 h6) (grown_two q un ut)⟩
  have hw : wc.grownBy W (some q) := grown_trans (grown_two q un ut) hg
  exact ⟨(h1.kt (.of_grown h5 (by decide) hw) (.of_grown h5 (by decide) hw)).isN, (h2.kt (.of_grown h5 (by decide) hw)).isT⟩
theorem bk_next {L : List Opx} {K : List Nd} {V : List Te} {M : List Nd} {U : List Te} {i : Nat} {o : Opx} (hr : Runs ((L.drop i).map Opx.c) (cN M) U K V) (ho : L[i]? = some o) : opE o (cN M) U = 0 ∧ Runs ((L.drop (i + 1)).map Opx.c) (opM o (cN M) U) (opT o (cN M) U) K V := by
  rw [dropN ho, List.map_cons] at hr
  exact hr.uncons
theorem bk_end {L : List Opx} {K : List Nd} {V : List Te} {M : List Nd} {U : List Te} {i : Nat} (hr : Runs ((L.drop i).map Opx.c) (cN M) U K V) (hi : L.length ≤ i) : cN M = K ∧ U = V := by
  rw [List.drop_eq_nil_of_le hi] at hr
  obtain ⟨_, e⟩ := hr
  have e' : (cN M, U) = (K, V) := e
  injection e' with e1 e2
  exact ⟨e1, e2⟩

/-- The node of the fact. -/
def one4 : Nd := ⟨4, ⟨#[97]⟩, .slice none 0 0, []⟩
theorem one4_ok : gErr [one4] [] = 0 := by decide +kernel
theorem nil_ok : gErr [] [] = 0 := by decide +kernel
theorem fact_of {L : List Opx} (h : L.map Opx.c = difO [] [] [one4] []) : ∃ o, L = [o] ∧ o.wh = 1 ∧ o.nd.id = 4 := by
  have e : difO [] [] [one4] [] = [(newO one4).c] := by rfl
  rw [e] at h
  have hl := congrArg List.length h
  rw [List.length_map] at hl
  obtain ⟨o, rfl⟩ : ∃ o, L = [o] := List.length_eq_one_iff.1 hl
  simp only [List.map_cons, List.map_nil, List.cons.injEq, and_true] at h
  refine ⟨o, rfl, ?_, ?_⟩
  · have := congrArg Opx.wh h; exact this
  · have := congrArg (fun x => x.nd.id) h; exact this
theorem one4_isN (w : World) : IsN (w.alloc (.cells #[.int .i64 4, .string ⟨#[97]⟩, .slice none 0 0] 30)) (.slice (some ⟨w.heap.size, 0, none⟩) 1 1) [one4] := by
  have hn := heap_alloc_new w (.cells #[.int .i64 4, .string ⟨#[97]⟩, .slice none 0 0] 30)
  refine ⟨_, 1, rfl, Nat.le_refl _, .inr ⟨w.heap.size, 0, rfl, by simp, fun k x hx => ?_⟩⟩
  match k, hx with
  | 0, hx =>
    simp at hx
    subst hx
    exact ⟨cell_at hn rfl, cell_at hn rfl, cell_at hn rfl, none, 0, rfl, .inl rfl⟩
  | k + 1, hx => simp at hx
/-- The cells of an op. -/
theorem ops_at {W : World} {B : Nat} {v : Value} {L : List Opx} (h : OwnOs W B v L) {i : Nat} {o : Opx} (ho : L[i]? = some o) : ∃ b c, v = .slice (some ⟨b, 0, none⟩) L.length c ∧ b < W.heap.size ∧ (∀ W', Below W.heap.size W W' → ∀ j u, o.cells[j]? = some u → W'.cell? ⟨b, i * 11 + j, none⟩ = some u) ∧ IsR W o.nd.rv o.nd.rc := by
  have hr := (h.2 o (List.mem_of_getElem? ho)).isR
  obtain ⟨hw, ⟨rfl, h0⟩ | ⟨g, cap, cur, rfl, hb, hg, rest⟩⟩ := id h.1
  · rw [List.eq_nil_of_length_eq_zero h0] at ho
    simp at ho
  · have hlt := (Array.getElem?_eq_some_iff.1 hg).1
    refine ⟨g, cap, rfl, hlt, fun W' hB j u hu => ?_, hr⟩
    have hj : j < 11 := by have := (List.getElem?_eq_some_iff.1 hu).1; rwa [op_len] at this
    have := World.ownsRow.cells h.1 rfl (i * 11 + j) u ((flatK op_len L i o j ho hj).trans hu)
    rw [Addr.add_lit, Nat.zero_add] at this
    exact (hB.cell hlt).trans this
end Go.Proofs.Ytidmfdbckpficaa

/-
  The texts of the ops between two graphs are not too long; the cells of a round of DeltaBack.
-/
namespace Go.Proofs.Ytidmfdbckpficaa
open Go.RowKit
set_option linter.unusedVariables false
set_option linter.unusedSimpArgs false

theorem sz0 : (⟨#[]⟩ : ByteArray).size ≤ maxLen := by decide
theorem ndSz0 (id : Int) (v : Value) : (⟨#[]⟩ : ByteArray).size ≤ maxLen ∧ Sz [] ∧ ([] : List Pr).length ≤ maxLen := ⟨sz0, (fun p hp => by cases hp), by decide⟩
theorem opSz_c {o : Opx} (h : OpSz o.c) : OpSz o := h
theorem te_sz {t : Te} (h : t.bd.size ≤ maxLen) (wh : Int) : OpSz ⟨wh, nd0, pr0, t⟩ := ⟨ndSz0 0 .nilIface, ⟨sz0, sz0⟩, h⟩
theorem pr_sz {p : Pr} (h : p.nm.size ≤ maxLen ∧ p.s.size ≤ maxLen) (wh id : Int) : OpSz ⟨wh, ⟨id, ⟨#[]⟩, .slice none 0 0, []⟩, p, te0⟩ := ⟨ndSz0 0 .nilIface, h, sz0⟩
theorem prO_sz {id : Int} {A B : List Pr} (hA : Sz A) (hB : Sz B) : ∀ o ∈ prO id A B, OpSz o := by
  intro o ho
  unfold prO unsL setL at ho
  rcases List.mem_append.1 ho with ho | ho
  · obtain ⟨p, hp, rfl⟩ := List.mem_map.1 ho
    exact pr_sz (p := ⟨p.nm, 0, 0, ⟨#[]⟩⟩) ⟨(hA p (List.mem_filter.1 hp).1).1, sz0⟩ 4 id
  · obtain ⟨p, hp, rfl⟩ := List.mem_map.1 ho
    exact pr_sz (hB p (List.mem_filter.1 hp).1) 3 id
theorem difO_sz {N M : List Nd} {T U : List Te} (h1 : gErr N T = 0) (h2 : gErr M U = 0) : ∀ o ∈ difO N T M U, OpSz o := by
  obtain ⟨zN, zT⟩ := gErr_sz h1
  obtain ⟨zM, zU⟩ := gErr_sz h2
  intro o ho
  unfold difO at ho
  rcases List.mem_append.1 ho with ho | ho
  · obtain ⟨t, ht, rfl⟩ := List.mem_map.1 ho
    exact te_sz (zT t (List.mem_filter.1 ht).1) 6
  rcases List.mem_append.1 ho with ho | ho
  · obtain ⟨n, hn, rfl⟩ := List.mem_map.1 ho
    exact ⟨ndSz0 0 .nilIface, ⟨sz0, sz0⟩, sz0⟩
  rcases List.mem_append.1 ho with ho | ho
  · obtain ⟨n, hn, rfl⟩ := List.mem_map.1 ho
    exact ⟨zM n (List.mem_filter.1 hn).1, ⟨sz0, sz0⟩, sz0⟩
  rcases List.mem_append.1 ho with ho | ho
  · obtain ⟨n, hn, ho⟩ := List.mem_flatMap.1 ho
    cases hh : hasN M n with
    | false => rw [ndO_no hh] at ho; cases ho
    | true =>
      rw [ndO_yes hh] at ho
      refine prO_sz (zN n hn).2.1 ?_ o ho
      cases hg : nG M n.id with
      | none => rw [hasN_none hg] at hh; cases hh
      | some m => rw [rcOf_some hg]; exact (zM m (nG_mem hg).1).2.1
  · obtain ⟨t, ht, rfl⟩ := List.mem_map.1 ho
    exact te_sz (zU t (List.mem_filter.1 ht).1) 5
theorem map_sz {L D : List Opx} (h : L.map Opx.c = D) (hD : ∀ o ∈ D, OpSz o) : ∀ o ∈ L, OpSz o := fun o ho => opSz_c (hD o.c (by rw [← h]; exact List.mem_map.2 ⟨o, ho, rfl⟩))
theorem difO_len {N M : List Nd} {T U : List Te} (h1 : gErr N T = 0) (h2 : gErr M U = 0) : (difO N T M U).length ≤ 40000 := by
  obtain ⟨l1, l2, _, _⟩ := gErr_lens h1
  obtain ⟨l3, l4, _, _⟩ := gErr_lens h2
  have c1 := List.length_filter_le (fun x => !hasT U x) T
  have c2 := List.length_filter_le (fun x => !hasN M x) N
  have c3 := List.length_filter_le (fun x => !hasN N x) M
  have c4 := recO_len (gErr_rc8 h1) (gErr_rc8 h2)
  have c5 := List.length_filter_le (fun x => !stayT N M T x) U
  unfold difO
  simp only [List.length_append, List.length_map]
  omega
theorem own_grown {WS W : World} {B q : Nat} {v x y : Value} {L : List Opx} (h : OwnOs WS B v L) (hq : WS.heap[q]? = some (.cells #[x, y] 25 (0, 0))) (hg : WS.grownBy W (some q)) : OwnOs W B v L := h.kt (.of_grown hq (by decide) hg) (.of_grown hq (by decide) hg)
/-- The cells that a round reads: the graph at q, and the op. -/
def Rd (W : World) (q b n : Nat) (x y : Value) (o : Opx) : Prop :=
  W.cell? ⟨q, 0, none⟩ = some x ∧ W.cell? ⟨q, 1, none⟩ = some y ∧ W.cell? ⟨b, n, none⟩ = some (.int .i64 o.wh) ∧ W.cell? ⟨b, n + 1, none⟩ = some (.int .i64 o.nd.id) ∧ W.cell? ⟨b, n + 2, none⟩ = some (.string o.nd.kd) ∧ W.cell? ⟨b, n + 3, none⟩ = some o.nd.rv ∧ W.cell? ⟨b, n + 4, none⟩ = some (.string o.pr.nm) ∧ W.cell? ⟨b, n + 5, none⟩ = some (.int .i64 o.pr.t) ∧ W.cell? ⟨b, n + 6, none⟩ = some (.int .i64 o.pr.n) ∧ W.cell? ⟨b, n + 7, none⟩ = some (.string o.pr.s) ∧ W.cell? ⟨b, n + 8, none⟩ = some (.string o.te.bd) ∧ W.cell? ⟨b, n + 9, none⟩ = some (.int .i64 o.te.fr) ∧ W.cell? ⟨b, n + 10, none⟩ = some (.int .i64 o.te.tt)
theorem rd_of {W : World} {q b n : Nat} {x y : Value} {o : Opx} (hq : W.heap[q]? = some (.cells #[x, y] 25 (0, 0))) (h : ∀ j u, o.cells[j]? = some u → W.cell? ⟨b, n + j, none⟩ = some u) : Rd W q b n x y o :=
  ⟨cell_at hq rfl, cell_at hq rfl, h 0 _ rfl, h 1 _ rfl, h 2 _ rfl, h 3 _ rfl, h 4 _ rfl, h 5 _ rfl, h 6 _ rfl, h 7 _ rfl, h 8 _ rfl, h 9 _ rfl, h 10 _ rfl⟩
end Go.Proofs.Ytidmfdbckpficaa
