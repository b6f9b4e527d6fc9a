/-
  What the walk of DeltaBack asks: Do of an op that goes through; where its loops stand; the fact that stands first in it.
-/
import Derived.Test.YtelbmianojomgaaM24
import Derived.Test.YtelbmianojomgaaM26
import Derived.Deep.DeepCutAuto
import Derived.Deep.RegionHeld3
namespace Go.Proofs.Ytelbmianojomgaa
open Go.RowKit
set_option linter.unusedVariables false
set_option linter.unusedSimpArgs false

theorem opE_c (o : Opx) (M : List Nd) (T : List Te) : opE o.c M T = opE o M T := by
  have e : newE o.nd.c M = newE o.nd M := by
    unfold newE
    rw [show gErr [o.nd.c] [] = gErr [o.nd] [] from gErr_c [o.nd] []]
    rfl
  unfold opE
  rw [show o.c.wh = o.wh from rfl, show o.c.nd = o.nd.c from rfl, e]
  rfl
theorem opM_c (o : Opx) (M : List Nd) (T : List Te) : opM o.c M T = opM o M T := rfl
theorem opT_c (o : Opx) (M : List Nd) (T : List Te) : opT o.c M T = opT o M T := rfl
theorem Runs.uncons {o : Opx} {L : List Opx} {M M' : List Nd} {T T' : List Te} (h : Runs (o.c :: L) M T M' T') : opE o M T = 0 ∧ Runs L (opM o M T) (opT o M T) M' T' := by
  obtain ⟨e1, e2⟩ := h
  unfold OpS.err at e1
  unfold OpS.res at e2
  by_cases h' : opS.e o.c M T = 0
  · rw [if_pos h'] at e1 e2
    exact ⟨(opE_c o M T).symm.trans h', e1, e2⟩
  · rw [if_neg h'] at e1
    exact absurd e1 h'
theorem nErr_sz {b : ByteArray} (h : nErr b.data.toList = 0) : b.size ≤ maxLen := by
  have := nErr_short h
  rw [size_len]
  unfold maxLen
  omega
theorem gErr_sz {M : List Nd} {T : List Te} (h : gErr M T = 0) : SzN M ∧ SzT T := by
  obtain ⟨⟨_, _, h1⟩, ⟨_, _, h2⟩⟩ := (gErr_iff M T).1 h
  refine ⟨fun n hn => ?_, fun t ht => (te_key (h2 t ht)).1.1⟩
  obtain ⟨_, e2, e3⟩ := (ndE_iff n).1 (h1 n hn)
  have := rErr_le e3
  exact ⟨nErr_sz e2, sz_of e3, by unfold maxLen; omega⟩
theorem do_yes {vn vt : Value} {N : List Nd} {T : List Te} {o : Opx} {w : World} (hN : IsN w vn N) (hT : IsT w vt T) (he : gErr N T = 0) (hR : IsR w o.nd.rv o.nd.rc) (zo : OpSz o) (h0 : opE o (cN N) T = 0) :
    Calls Try.prog 19 #[.agg #[vn, vt], o.one] w fun e w' => ∃ un ut M, e = .returned (.tuple #[.agg #[un, ut], .nilIface]) ∧ (cN M = opM o (cN N) T ∧ OwnNs w' w.heap.size un M ∧ OwnTs w' w.heap.size ut (opT o (cN N) T) ∧ gErr M (opT o (cN N) T) = 0) ∧ Below w.heap.size w w' := by
  refine (do_in opS hN hT (gErr_sz he).1 (gErr_sz he).2 he hR zo (apply_all o) (keeps_all o)).mono ?_
  rintro e w' ⟨hB, ⟨_, un, ut, M, rfl, q1, q2, q3, q4⟩ | ⟨h, _⟩⟩
  · exact ⟨un, ut, M, rfl, ⟨q1, q2, q3, q4⟩, hB⟩
  · exact absurd h0 h

/-- Where a loop of DeltaBack stands: what is left of the ops makes of the graph at q what they are to come to. -/
def BkI (WS : World) (L : List Opx) (K : List Nd) (V : List Te) (q i : Nat) (wr : World) : Prop :=
  ∃ vn vt M U, wr.heap[q]? = some (.cells #[vn, vt] 25 (0, 0)) ∧ (∀ W, wr.grownBy W (some q) → IsN W vn M ∧ IsT W vt U) ∧ Runs ((L.drop i).map Opx.c) (cN M) U K V ∧ gErr M U = 0 ∧ WS.grownBy wr (some q)
theorem bk_start {WS : World} {L : List Opx} {K : List Nd} {V : List Te} {N : List Nd} {T : List Te} {vn vt : Value} {w : World} {q : Nat} (hN : IsN w vn N) (hT : IsT w vt T) (he : gErr N T = 0) (hw : Below w.heap.size w WS) (hq : WS.heap[q]? = some (.cells #[vn, vt] 25 (0, 0))) (hwq : w.heap.size ≤ q) (hr : Runs (L.map Opx.c) (cN N) T K V) : BkI WS L K V q 0 WS := by
  refine ⟨vn, vt, N, T, hq, fun W hg => ?_, hr, he, grown_of_below (Below.refl _ _) _⟩
  have : Below w.heap.size w W := below_grown hw hg hw.size (fun k hk => by injection hk with hk; subst hk; exact hwq)
  exact ⟨hN.on this, hT.on this⟩
theorem bk_startO {WS : World} {L : List Opx} {K : List Nd} {V : List Te} {N : List Nd} {T : List Te} {vn vt : Value} {B q : Nat} (hN : OwnNs WS B vn N) (hT : OwnTs WS B vt T) (he : gErr N T = 0) (hq : WS.heap[q]? = some (.cells #[vn, vt] 25 (0, 0))) (hr : Runs (L.map Opx.c) (cN N) T K V) : BkI WS L K V q 0 WS := by
  refine ⟨vn, vt, N, T, hq, fun W hw => ?_, hr, he, grown_of_below (Below.refl _ _) _⟩
  exact ⟨(hN.kt (.of_grown hq (by decide) hw) (.of_grown hq (by decide) hw)).isN, (hT.kt (.of_grown hq (by decide) hw)).isT⟩
theorem bk_step {WS wr wc : World} {L : List Opx} {K : List Nd} {V : List Te} {q i : Nat} {M : List Nd} {U : List Te} {X : List Nd} {vn vt un ut : Value} (hr : Runs ((L.drop (i + 1)).map Opx.c) X U K V) (h1 : OwnNs wc 0 un M) (h2 : OwnTs wc 0 ut U) (h3 : cN M = X) (h4 : gErr M U = 0) (h5 : wc.heap[q]? = some (.cells #[vn, vt] 25 (0, 0))) (h6 : Below wr.heap.size wr wc) (h7 : WS.grownBy wr (some q)) :
    BkI WS L K V q (i + 1) ((wc.setCell ⟨q, 0, none⟩ un).setCell ⟨q, 1, none⟩ ut) := by
  have hq3 : ((wc.setCell ⟨q, 0, none⟩ un).setCell ⟨q, 1, none⟩ ut).heap[q]? = some (.cells #[un, ut] 25 (0, 0)) := heap_setCell_same _ _ 1 _ 25 _ (heap_setCell_same wc _ 0 _ 25 _ h5)
  refine ⟨un, ut, M, U, hq3, fun W hg => ?_, by rw [h3]; exact hr, h4, grown_trans (but_below h7 h6) (grown_two q un ut)⟩
  have hw : wc.grownBy W (some q) := grown_trans (grown_two q un ut) hg
  exact ⟨(h1.kt (.of_grown h5 (by decide) hw) (.of_grown h5 (by decide) hw)).isN, (h2.kt (.of_grown h5 (by decide) hw)).isT⟩
theorem bk_next {L : List Opx} {K : List Nd} {V : List Te} {M : List Nd} {U : List Te} {i : Nat} {o : Opx} (hr : Runs ((L.drop i).map Opx.c) (cN M) U K V) (ho : L[i]? = some o) : opE o (cN M) U = 0 ∧ Runs ((L.drop (i + 1)).map Opx.c) (opM o (cN M) U) (opT o (cN M) U) K V := by
  rw [dropN ho, List.map_cons] at hr
  exact hr.uncons
theorem bk_end {L : List Opx} {K : List Nd} {V : List Te} {M : List Nd} {U : List Te} {i : Nat} (hr : Runs ((L.drop i).map Opx.c) (cN M) U K V) (hi : L.length ≤ i) : cN M = K ∧ U = V := by
  rw [List.drop_eq_nil_of_le hi] at hr
  obtain ⟨_, e⟩ := hr
  have e' : (cN M, U) = (K, V) := e
  injection e' with e1 e2
  exact ⟨e1, e2⟩

/-- The node of the fact. -/
def one4 : Nd := ⟨4, ⟨#[97]⟩, .slice none 0 0, []⟩
theorem one4_ok : gErr [one4] [] = 0 := by decide +kernel
theorem nil_ok : gErr [] [] = 0 := by decide +kernel
theorem fact_of {L : List Opx} (h : L.map Opx.c = difO [] [] [one4] []) : ∃ o, L = [o] ∧ o.wh = 1 ∧ o.nd.id = 4 := by
  have e : difO [] [] [one4] [] = [(newO one4).c] := by rfl
  rw [e] at h
  have hl := congrArg List.length h
  rw [List.length_map] at hl
  obtain ⟨o, rfl⟩ : ∃ o, L = [o] := List.length_eq_one_iff.1 hl
  simp only [List.map_cons, List.map_nil, List.cons.injEq, and_true] at h
  refine ⟨o, rfl, ?_, ?_⟩
  · have := congrArg Opx.wh h; exact this
  · have := congrArg (fun x => x.nd.id) h; exact this
theorem one4_isN (w : World) : IsN (w.alloc (.cells #[.int .i64 4, .string ⟨#[97]⟩, .slice none 0 0] 29)) (.slice (some ⟨w.heap.size, 0, none⟩) 1 1) [one4] := by
  have hn := heap_alloc_new w (.cells #[.int .i64 4, .string ⟨#[97]⟩, .slice none 0 0] 29)
  refine ⟨_, 1, rfl, Nat.le_refl _, .inr ⟨w.heap.size, 0, rfl, by simp, fun k x hx => ?_⟩⟩
  match k, hx with
  | 0, hx =>
    simp at hx
    subst hx
    exact ⟨cell_at hn rfl, cell_at hn rfl, cell_at hn rfl, none, 0, rfl, .inl rfl⟩
  | k + 1, hx => simp at hx
/-- The cells of an op. -/
theorem ops_at {W : World} {B : Nat} {v : Value} {L : List Opx} (h : OwnOs W B v L) {i : Nat} {o : Opx} (ho : L[i]? = some o) : ∃ b c, v = .slice (some ⟨b, 0, none⟩) L.length c ∧ b < W.heap.size ∧ (∀ W', Below W.heap.size W W' → ∀ j u, o.cells[j]? = some u → W'.cell? ⟨b, i * 11 + j, none⟩ = some u) ∧ IsR W o.nd.rv o.nd.rc := by
  have hr := (h.2 o (List.mem_of_getElem? ho)).isR
  obtain ⟨hw, ⟨rfl, h0⟩ | ⟨g, cap, cur, rfl, hb, hg, rest⟩⟩ := id h.1
  · rw [List.eq_nil_of_length_eq_zero h0] at ho
    simp at ho
  · have hlt := (Array.getElem?_eq_some_iff.1 hg).1
    refine ⟨g, cap, rfl, hlt, fun W' hB j u hu => ?_, hr⟩
    have hj : j < 11 := by have := (List.getElem?_eq_some_iff.1 hu).1; rwa [op_len] at this
    have := World.ownsRow.cells h.1 rfl (i * 11 + j) u ((flatK op_len L i o j ho hj).trans hu)
    rw [Addr.add_lit, Nat.zero_add] at this
    exact (hB.cell hlt).trans this
end Go.Proofs.Ytelbmianojomgaa

/-
  The texts of the ops between two graphs are not too long; the cells of a round of DeltaBack.
-/
namespace Go.Proofs.Ytelbmianojomgaa
open Go.RowKit
set_option linter.unusedVariables false
set_option linter.unusedSimpArgs false

theorem sz0 : (⟨#[]⟩ : ByteArray).size ≤ maxLen := by decide
theorem ndSz0 (id : Int) (v : Value) : (⟨#[]⟩ : ByteArray).size ≤ maxLen ∧ Sz [] ∧ ([] : List Pr).length ≤ maxLen := ⟨sz0, (fun p hp => by cases hp), by decide⟩
theorem opSz_c {o : Opx} (h : OpSz o.c) : OpSz o := h
theorem te_sz {t : Te} (h : t.bd.size ≤ maxLen) (wh : Int) : OpSz ⟨wh, nd0, pr0, t⟩ := ⟨ndSz0 0 .nilIface, ⟨sz0, sz0⟩, h⟩
theorem pr_sz {p : Pr} (h : p.nm.size ≤ maxLen ∧ p.s.size ≤ maxLen) (wh id : Int) : OpSz ⟨wh, ⟨id, ⟨#[]⟩, .slice none 0 0, []⟩, p, te0⟩ := ⟨ndSz0 0 .nilIface, h, sz0⟩
theorem prO_sz {id : Int} {A B : List Pr} (hA : Sz A) (hB : Sz B) : ∀ o ∈ prO id A B, OpSz o := by
  intro o ho
  unfold prO unsL setL at ho
  rcases List.mem_append.1 ho with ho | ho
  · obtain ⟨p, hp, rfl⟩ := List.mem_map.1 ho
    exact pr_sz (p := ⟨p.nm, 0, 0, ⟨#[]⟩⟩) ⟨(hA p (List.mem_filter.1 hp).1).1, sz0⟩ 4 id
  · obtain ⟨p, hp, rfl⟩ := List.mem_map.1 ho
    exact pr_sz (hB p (List.mem_filter.1 hp).1) 3 id
theorem difO_sz {N M : List Nd} {T U : List Te} (h1 : gErr N T = 0) (h2 : gErr M U = 0) : ∀ o ∈ difO N T M U, OpSz o := by
  obtain ⟨zN, zT⟩ := gErr_sz h1
  obtain ⟨zM, zU⟩ := gErr_sz h2
  intro o ho
  unfold difO at ho
  rcases List.mem_append.1 ho with ho | ho
  · obtain ⟨t, ht, rfl⟩ := List.mem_map.1 ho
    exact te_sz (zT t (List.mem_filter.1 ht).1) 6
  rcases List.mem_append.1 ho with ho | ho
  · obtain ⟨n, hn, rfl⟩ := List.mem_map.1 ho
    exact ⟨ndSz0 0 .nilIface, ⟨sz0, sz0⟩, sz0⟩
  rcases List.mem_append.1 ho with ho | ho
  · obtain ⟨n, hn, rfl⟩ := List.mem_map.1 ho
    exact ⟨zM n (List.mem_filter.1 hn).1, ⟨sz0, sz0⟩, sz0⟩
  rcases List.mem_append.1 ho with ho | ho
  · obtain ⟨n, hn, ho⟩ := List.mem_flatMap.1 ho
    cases hh : hasN M n with
    | false => rw [ndO_no hh] at ho; cases ho
    | true =>
      rw [ndO_yes hh] at ho
      refine prO_sz (zN n hn).2.1 ?_ o ho
      cases hg : nG M n.id with
      | none => rw [hasN_none hg] at hh; cases hh
      | some m => rw [rcOf_some hg]; exact (zM m (nG_mem hg).1).2.1
  · obtain ⟨t, ht, rfl⟩ := List.mem_map.1 ho
    exact te_sz (zU t (List.mem_filter.1 ht).1) 5
theorem map_sz {L D : List Opx} (h : L.map Opx.c = D) (hD : ∀ o ∈ D, OpSz o) : ∀ o ∈ L, OpSz o := fun o ho => opSz_c (hD o.c (by rw [← h]; exact List.mem_map.2 ⟨o, ho, rfl⟩))
theorem difO_len {N M : List Nd} {T U : List Te} (h1 : gErr N T = 0) (h2 : gErr M U = 0) : (difO N T M U).length ≤ 40000 := by
  obtain ⟨l1, l2, _, _⟩ := gErr_lens h1
  obtain ⟨l3, l4, _, _⟩ := gErr_lens h2
  have c1 := List.length_filter_le (fun x => !hasT U x) T
  have c2 := List.length_filter_le (fun x => !hasN M x) N
  have c3 := List.length_filter_le (fun x => !hasN N x) M
  have c4 := recO_len (gErr_rc8 h1) (gErr_rc8 h2)
  have c5 := List.length_filter_le (fun x => !stayT N M T x) U
  unfold difO
  simp only [List.length_append, List.length_map]
  omega
theorem own_grown {WS W : World} {B q : Nat} {v x y : Value} {L : List Opx} (h : OwnOs WS B v L) (hq : WS.heap[q]? = some (.cells #[x, y] 25 (0, 0))) (hg : WS.grownBy W (some q)) : OwnOs W B v L := h.kt (.of_grown hq (by decide) hg) (.of_grown hq (by decide) hg)
/-- The cells that a round reads: the graph at q, and the op. -/
def Rd (W : World) (q b n : Nat) (x y : Value) (o : Opx) : Prop :=
  W.cell? ⟨q, 0, none⟩ = some x ∧ W.cell? ⟨q, 1, none⟩ = some y ∧ W.cell? ⟨b, n, none⟩ = some (.int .i64 o.wh) ∧ W.cell? ⟨b, n + 1, none⟩ = some (.int .i64 o.nd.id) ∧ W.cell? ⟨b, n + 2, none⟩ = some (.string o.nd.kd) ∧ W.cell? ⟨b, n + 3, none⟩ = some o.nd.rv ∧ W.cell? ⟨b, n + 4, none⟩ = some (.string o.pr.nm) ∧ W.cell? ⟨b, n + 5, none⟩ = some (.int .i64 o.pr.t) ∧ W.cell? ⟨b, n + 6, none⟩ = some (.int .i64 o.pr.n) ∧ W.cell? ⟨b, n + 7, none⟩ = some (.string o.pr.s) ∧ W.cell? ⟨b, n + 8, none⟩ = some (.string o.te.bd) ∧ W.cell? ⟨b, n + 9, none⟩ = some (.int .i64 o.te.fr) ∧ W.cell? ⟨b, n + 10, none⟩ = some (.int .i64 o.te.tt)
theorem rd_of {W : World} {q b n : Nat} {x y : Value} {o : Opx} (hq : W.heap[q]? = some (.cells #[x, y] 25 (0, 0))) (h : ∀ j u, o.cells[j]? = some u → W.cell? ⟨b, n + j, none⟩ = some u) : Rd W q b n x y o :=
  ⟨cell_at hq rfl, cell_at hq rfl, h 0 _ rfl, h 1 _ rfl, h 2 _ rfl, h 3 _ rfl, h 4 _ rfl, h 5 _ rfl, h 6 _ rfl, h 7 _ rfl, h 8 _ rfl, h 9 _ rfl, h 10 _ rfl⟩
end Go.Proofs.Ytelbmianojomgaa

/-
  The walk of the law DeltaBack.
-/
namespace Go.Proofs.Ytelbmianojomgaa
open Go.RowKit
set_option linter.unusedVariables false
set_option linter.unusedSimpArgs false

set_option maxHeartbeats 16000000 in
set_option maxRecDepth 100000 in
theorem back_yes {vn vt un ut vl : Value} {N M : List Nd} {T U : List Te} {L : List Opx} {w : World} (hN : IsN w vn N) (hT : IsT w vt T) (hM : IsN w un M) (hU : IsT w ut U) (hL : IsO w vl L) (zN : SzN N) (zT : SzT T) (zM : SzN M) (zU : SzT U) (lN : N.length ≤ maxLen) (lT : T.length ≤ maxLen) (lM : M.length ≤ maxLen) (lU : U.length ≤ maxLen) (zL : ∀ o ∈ L, OpSz o) (lL : L.length ≤ maxLen) (g1 : gErr N T = 0) (g2 : gErr M U = 0) :
    Calls Try.prog 6 #[.agg #[vn, vt], .agg #[un, ut], vl] w fun e w' => e = .returned (.bool true) ∧ Below w.heap.size w w' := by
  obtain ⟨W1, hW1⟩ : ∃ W1, W1 = (((w.alloc (.cells #[vn, vt] 25)).alloc (.cells #[un, ut] 25)).alloc (.cells #[.int .i64 4, .string ⟨#[97]⟩, .slice none 0 0] 29)).alloc (.cells #[.slice (some ⟨w.heap.size + 1 + 1, 0, none⟩) 1 1, .slice none 0 0] 25) := ⟨_, rfl⟩
  have hB1 : Below w.heap.size w W1 := by rw [hW1]; exact b_alloc (b_alloc (b_alloc (b_alloc (Below.refl _ _) _) _) _) _
  have n0 : W1.heap[w.heap.size]? = some (.cells #[vn, vt] 25 (0, 0)) := by
    rw [hW1]
    exact (heap_alloc_old _ _ (by simp; omega)).trans ((heap_alloc_old _ _ (by simp; omega)).trans ((heap_alloc_old _ _ (by simp)).trans (heap_alloc_new w _)))
  have n1 : W1.heap[w.heap.size + 1]? = some (.cells #[un, ut] 25 (0, 0)) := by
    have := heap_alloc_new (w.alloc (.cells #[vn, vt] 25)) (.cells #[un, ut] 25)
    rw [World.size_alloc] at this
    rw [hW1]
    exact (heap_alloc_old _ _ (by simp; (try omega))).trans ((heap_alloc_old _ _ (by simp)).trans this)
  have n3 : W1.heap[w.heap.size + 1 + 1 + 1]? = some (.cells #[.slice (some ⟨w.heap.size + 1 + 1, 0, none⟩) 1 1, .slice none 0 0] 25 (0, 0)) := by
    have := heap_alloc_new (((w.alloc (.cells #[vn, vt] 25)).alloc (.cells #[un, ut] 25)).alloc (.cells #[.int .i64 4, .string ⟨#[97]⟩, .slice none 0 0] 29)) (.cells #[.slice (some ⟨w.heap.size + 1 + 1, 0, none⟩) 1 1, .slice none 0 0] 25)
    simp only [World.size_alloc] at this
    rw [hW1]
    exact this
  have i4 : IsN W1 (.slice (some ⟨w.heap.size + 1 + 1, 0, none⟩) 1 1) [one4] := by
    have := one4_isN ((w.alloc (.cells #[vn, vt] 25)).alloc (.cells #[un, ut] 25))
    simp only [World.size_alloc] at this
    rw [hW1]
    exact this.on (b_alloc (Below.refl _ _) _)
  have cF := diff_yes between_any (isN_nil W1) (isT_nil W1) i4 (isT_nil W1) (gErr_sz nil_ok).1 (gErr_sz nil_ok).2 (gErr_sz one4_ok).1 (gErr_sz one4_ok).2 nil_ok one4_ok
  have HX : Hid (∀ W, Below W1.heap.size W1 W → W.cell? ⟨w.heap.size, 0, none⟩ = some vn ∧ W.cell? ⟨w.heap.size, 1, none⟩ = some vt ∧ W.cell? ⟨w.heap.size + 1, 0, none⟩ = some un ∧ W.cell? ⟨w.heap.size + 1, 1, none⟩ = some ut) := fun W hb => ⟨cell_at ((hb.block _ (Array.getElem?_eq_some_iff.1 n0).1).trans n0) rfl, cell_at ((hb.block _ (Array.getElem?_eq_some_iff.1 n0).1).trans n0) rfl, cell_at ((hb.block _ (Array.getElem?_eq_some_iff.1 n1).1).trans n1) rfl, cell_at ((hb.block _ (Array.getElem?_eq_some_iff.1 n1).1).trans n1) rfl⟩
  have t0 := cell_at (i := 0) n3 rfl
  have t1 := cell_at (i := 1) n3 rfl
  have HB1 := Lib.hid hB1
  have HG : Hid (IsN w vn N ∧ IsT w vt T ∧ IsN w un M ∧ IsT w ut U ∧ IsO w vl L) := ⟨hN, hT, hM, hU, hL⟩
  obtain ⟨an, cn, hvn, _⟩ := hN
  obtain ⟨am, cm, hvt, _⟩ := hT
  obtain ⟨bn, dn, hun, _⟩ := hM
  obtain ⟨bm, dm, hut, _⟩ := hU
  obtain ⟨al, cl, hvl, _⟩ := hL
  subst hvn hvt hun hut hvl
  clear n0 n1 n3 i4 hB1
  go_enter Try.func6, Try.ntmps6
  go_upto_region 2 with fail
  rw [← hW1]
  clear hW1
  go_wp2_with (first | (go_at_call 18; refine cF.mono ?_; rintro e W2 ⟨ao4, c4, L4, rfl, hO4, hm4, hB2⟩; refine Hid.out ?_))
  refine Lib.hid ?_
  obtain ⟨o4, rfl, e1, e2⟩ := fact_of hm4
  obtain ⟨b4, c4', hv4, hb4, hcl4, _⟩ := ops_at (i := 0) (o := o4) hO4 rfl
  injection hv4 with hv41 hv42 hv43
  subst hv41
  clear hv42 hv43
  have f0 : W2.cell? ⟨b4, 0, none⟩ = some (.int .i64 1) := by
    have := hcl4 W2 (Below.refl _ _) 0 _ rfl
    rw [e1] at this
    simpa using this
  have f1 : W2.cell? ⟨b4, 1, none⟩ = some (.int .i64 4) := by
    have := hcl4 W2 (Below.refl _ _) 1 _ rfl
    rw [e2] at this
    simpa using this
  obtain ⟨x0, x1, x2, x3⟩ := HX.out W2 hB2
  have hbw2 := on1K HB1.out hB2 (Nat.le_refl _)
  have HB2 := Lib.hid hB2
  have cD := diff_yes between_any (HG.out.1.on hbw2) (HG.out.2.1.on hbw2) (HG.out.2.2.1.on hbw2) (HG.out.2.2.2.1.on hbw2) zN zT zM zU g1 g2
  clear cF hO4 hm4 hB2 hb4 hcl4 e1 e2 hbw2 t0 t1
  go_wp2_with (first | (go_at_call 18; refine cD.mono ?_; rintro e W3 ⟨ao, cd, LD, rfl, hO, hm, hB3⟩; refine Hid.out ?_))
  refine Lib.hid ?_
  have hBx : Below W3.heap.size W3 (W3.alloc (.cells #[.slice an N.length cn, .slice am T.length cm] 25)) := b_alloc (Below.refl _ _) _
  have h43 := heap_alloc_new W3 (.cells #[.slice an N.length cn, .slice am T.length cm] 25)
  have hB13 := on1K HB2.out hB3 (Nat.le_refl _)
  have hB14 := on1K hB13 hBx (Nat.le_refl _)
  obtain ⟨W4, hW4⟩ : ∃ W4, W4 = W3.alloc (.cells #[.slice an N.length cn, .slice am T.length cm] 25) := ⟨_, rfl⟩
  rw [← hW4] at hBx h43 hB14
  have hbw4 := on1K HB1.out hB14 (Nat.le_refl _)
  have HS : Hid (BkI W4 LD (cN M) U W3.heap.size 0 W4) := bk_start HG.out.1 HG.out.2.1 g1 hbw4 h43 (on1K HB1.out hB13 (Nat.le_refl _)).size (by rw [hm]; exact dif_runs g1 g2)
  have HO := Lib.hid (And.intro (hO.on hBx) h43)
  have HZ := Lib.hid (map_sz hm (difO_sz g1 g2))
  have hlen : LD.length ≤ 40000 := by rw [map_len hm]; exact difO_len g1 g2
  have HB4 : Hid (Below W1.heap.size W1 W4 ∧ W1.heap.size ≤ W3.heap.size) := ⟨hB14, hB13.size⟩
  clear x0 x1 x2 x3
  obtain ⟨x0, x1, x2, x3⟩ := HX.out W3 hB13
  obtain ⟨v0, v1, v2, v3⟩ := HX.out W4 hB14
  clear hO hm hB3 hBx h43 hB13 hB14 hbw4 cD f0 f1
  go_upto_region 8 with fail
  rw [← hW4]
  clear hW4
  go_wp2
  go_loopw [13] (fun s wr => ∃ i : Nat, i ≤ LD.length ∧ s = .int .i64 i ∧ BkI W4 LD (cN M) U W3.heap.size i wr) (fun s _ => LD.length - (intOf s).toNat)
  case atStart => exact ⟨0, Nat.zero_le _, rfl, HS.out⟩
  case round =>
    obtain ⟨i, hi, rfl, hM⟩ := hrel
    obtain ⟨xn, xt, X, Y, m1, m2, m3, m4, m5⟩ := hM
    by_cases hlt : i < LD.length
    · obtain ⟨o, ho⟩ : ∃ o, LD[i]? = some o := ⟨LD[i], by simp [hlt]⟩
      obtain ⟨b, c', hv, hb, hcl, hR⟩ := ops_at (own_grown HO.out.1 HO.out.2 m5) ho
      injection hv with hv1 hv2 hv3
      subst hv1
      clear hv2 hv3
      obtain ⟨e0, hnx⟩ := bk_next m3 ho
      have zo := HZ.out o (List.mem_of_getElem? ho)
      have cD := fun W (hB : Below wr.heap.size wr W) => do_yes (m2 W (grown_of_below hB _)).1 (m2 W (grown_of_below hB _)).2 m4 (hR.on hB) zo e0
      obtain ⟨a5, c5, hv5, _⟩ := (m2 wr (grown_of_below (Below.refl _ _) _)).1
      obtain ⟨a6, c6, hv6, _⟩ := (m2 wr (grown_of_below (Below.refl _ _) _)).2
      subst hv5 hv6
      have hqw : W3.heap.size < wr.heap.size := (Array.getElem?_eq_some_iff.1 m1).1
      have HC : Hid (∀ W, Below wr.heap.size wr W → Rd W W3.heap.size b (i * 11) (.slice a5 X.length c5) (.slice a6 Y.length c6) o) := fun W hB => rd_of ((hB.block _ hqw).trans m1) (fun j u hu => hcl W hB j u hu)
      obtain ⟨av, lv, cv, hov⟩ := hR.sl
      generalize hX2 : opM o (cN X) Y = X2 at *
      generalize hY2 : opT o (cN X) Y = Y2 at *
      clear hX2 hY2 e0 zo hcl hR ho m3 m4
      obtain ⟨wh, ⟨id, kd, rv, rc⟩, ⟨nm, pt, pn, ps⟩, ⟨bd, fr, tt⟩⟩ := o
      simp only at hov
      subst hov
      have HK : Hid (wr.heap[W3.heap.size]? = some (.cells #[.slice a5 X.length c5, .slice a6 Y.length c6] 25 (0, 0)) ∧ W4.grownBy wr (some W3.heap.size) ∧ Runs ((LD.drop (i + 1)).map Opx.c) X2 Y2 (cN M) U) := ⟨m1, m5, hnx⟩
      obtain ⟨x0, x1, x2, x3, x4, x5, x6, x7, x8, x9, x10, x11, x12⟩ := HC.out wr (Below.refl _ _)
      simp only at x2 x3 x4 x5 x6 x7 x8 x9 x10 x11 x12
      have hbw : b < wr.heap.size := hb
      have hn1 : ¬ wr.heap.size = b := by omega
      have hn2 : ¬ wr.heap.size = W3.heap.size := by omega
      have hn3 : W3.heap.size ≠ wr.heap.size := by omega
      have HN : Hid (∀ W, Below wr.heap.size wr W → ¬ W.heap.size = b ∧ ¬ W.heap.size = W3.heap.size) := fun W hB => by have := hB.size; omega
      clear m1 m2 m5 hnx
      go_upto_region 11 with fail
      go_cut [14, 15] (fun s t wx => EmC wr (.slice a5 X.length c5) (.slice a6 Y.length c6) X2 Y2 W3.heap.size s t wx)
      case first =>
        first | (go_region_held3 (fun w' => w'.cell? ⟨W3.heap.size, 0, none⟩ = some (.slice a5 X.length c5) ∧ w'.cell? ⟨W3.heap.size, 1, none⟩ = some (.slice a6 Y.length c6) ∧ w'.cell? ⟨b, i * 11, none⟩ = some (.int .i64 wh) ∧ w'.cell? ⟨b, i * 11 + 1, none⟩ = some (.int .i64 id) ∧ w'.cell? ⟨b, i * 11 + 2, none⟩ = some (.string kd) ∧ w'.cell? ⟨b, i * 11 + 3, none⟩ = some (.slice av lv cv) ∧ w'.cell? ⟨b, i * 11 + 4, none⟩ = some (.string nm) ∧ w'.cell? ⟨b, i * 11 + 5, none⟩ = some (.int .i64 pt) ∧ w'.cell? ⟨b, i * 11 + 6, none⟩ = some (.int .i64 pn) ∧ w'.cell? ⟨b, i * 11 + 7, none⟩ = some (.string ps) ∧ w'.cell? ⟨b, i * 11 + 8, none⟩ = some (.string bd) ∧ w'.cell? ⟨b, i * 11 + 9, none⟩ = some (.int .i64 fr) ∧ w'.cell? ⟨b, i * 11 + 10, none⟩ = some (.int .i64 tt)) (go_keep) (first | (go_at_call 19; refine (cD _ (by first | exact b_drew (Below.refl _ wr) | exact b_alloc (b_drew (Below.refl _ wr)) _)).mono ?_; rintro e D2 ⟨yn, yt, M2, rfl, ⟨hM2, hO2, hT2, hg2⟩, hB2'⟩; obtain ⟨a7, c7, hv7⟩ := own_slice hO2.1; obtain ⟨a8, c8, hv8⟩ := own_slice hT2; subst hv7 hv8; have hb2 : Hid (Below wr.heap.size wr D2) := on1K (by first | exact b_drew (Below.refl _ wr) | exact b_alloc (b_drew (Below.refl _ wr)) _) hB2' (Nat.le_refl _); obtain ⟨z0, z1, z2, z3, z4, z5, z6, z7, z8, z9, z10, z11, z12⟩ := HC.out D2 hb2.out; simp only at z2 z3 z4 z5 z6 z7 z8 z9 z10 z11 z12; have hn5 := HN.out D2 hb2.out; (try (have kb : D2.heap[wr.heap.size]? = some (.cells #[.slice none 0 0, .slice none 0 0] 25 (0, 0)) := (hB2'.block _ (by simp)).trans (heap_alloc_new wr.drew _); have y5 : D2.cell? ⟨wr.heap.size, 0, none⟩ = some (.slice none 0 0) := cell_at kb rfl; have y6 : D2.cell? ⟨wr.heap.size, 1, none⟩ = some (.slice none 0 0) := cell_at kb rfl; have f5 : D2.frozen? ⟨wr.heap.size, 0, none⟩ = false := frz_at kb; have f6 : D2.frozen? ⟨wr.heap.size, 1, none⟩ = false := frz_at kb; replace kb := Lib.hid kb)); clear hB2'; have HP := Lib.hid (And.intro hM2 (And.intro hO2 (And.intro hT2 hg2))); clear hM2 hO2 hT2 hg2))) | fail
        all_goals
          go_wp2
          go_meet
          have hq5 := (hb2.out.block _ hqw).trans HK.out.1
          first
            | with_reducible exact emC_alloc HP.out.2.1 HP.out.2.2.1 HP.out.1 HP.out.2.2.2 hq5 hb2.out
            | with_reducible exact emC_set kb.out hn3 (Nat.le_refl _) HP.out.2.1 HP.out.2.2.1 HP.out.1 HP.out.2.2.2 hq5 hb2.out
      case rest =>
      obtain ⟨p2, yn, yt, M2, rfl, rfl, r1, r2, r3, r4, r5, r6, r7⟩ := hcut
      obtain ⟨a7, c7, hv7⟩ := own_slice r2.1
      obtain ⟨a8, c8, hv8⟩ := own_slice r3
      subst hv7 hv8
      have z0 : wc.cell? ⟨p2, 0, none⟩ = some (.slice a7 M2.length c7) := cell_at r1 rfl
      have z1 : wc.cell? ⟨p2, 1, none⟩ = some (.slice a8 Y2.length c8) := cell_at r1 rfl
      have t0 : wc.cell? ⟨W3.heap.size, 0, none⟩ = some (.slice a5 X.length c5) := cell_at r6 rfl
      have t1 : wc.cell? ⟨W3.heap.size, 1, none⟩ = some (.slice a6 Y.length c6) := cell_at r6 rfl
      have f0 : wc.frozen? ⟨W3.heap.size, 0, none⟩ = false := frz_at r6
      have f1 : wc.frozen? ⟨W3.heap.size, 1, none⟩ = false := frz_at r6
      have HE2 : Hid (BkI W4 LD (cN M) U W3.heap.size (i + 1) ((wc.setCell ⟨W3.heap.size, 0, none⟩ (.slice a7 M2.length c7)).setCell ⟨W3.heap.size, 1, none⟩ (.slice a8 Y2.length c8))) := bk_step HK.out.2.2 r2 r3 r4 r5 r6 r7 HK.out.2.1
      clear r1 r2 r3 r4 r5 r6 r7 x0 x1 x2 x3 x4 x5 x6 x7 x8 x9 x10 x11 x12 cD HK HC HN
      go_wp2
      refine ⟨⟨i + 1, hlt, ?_, HE2.out⟩, ?_⟩
      · go_num
      · simp [intOf]
        omega
    · obtain rfl : i = LD.length := by omega
      obtain ⟨hXe, hYe⟩ := bk_end m3 (Nat.le_refl _)
      have hYs := hYe.symm
      subst hYs
      have hIX := m2 wr (grown_of_below (Below.refl _ _) _)
      obtain ⟨a5, c5, hv5, _⟩ := (m2 wr (grown_of_below (Below.refl _ _) _)).1
      obtain ⟨a6, c6, hv6, _⟩ := (m2 wr (grown_of_below (Below.refl _ _) _)).2
      subst hv5 hv6
      have hBr : Below W1.heap.size W1 wr := below_grown HB4.out.1 m5 HB4.out.1.size (fun k hk => by injection hk with hk; subst hk; exact HB4.out.2)
      have hbr := on1K HB1.out hBr (Nat.le_refl _)
      obtain ⟨r60, r120, _, _⟩ := gErr_lens m4
      obtain ⟨s60, s120, _, _⟩ := gErr_lens g2
      have cS := same_eq hIX.1 hIX.2 (HG.out.2.2.1.on hbr) (HG.out.2.2.2.1.on hbr) hXe m4 g2 (fun n hn => by have := gErr_rc8 m4 n hn; omega) (gErr_sz m4).1 (gErr_sz m4).2 zM r60 s60 r120
      obtain ⟨x0, x1, x2, x3⟩ := HX.out wr hBr
      have p0 := cell_at (i := 0) m1 rfl
      have p1 := cell_at (i := 1) m1 rfl
      have HBr := Lib.hid hBr
      clear m1 m2 m3 m4 m5 hIX hXe hBr hbr r60 r120 s60 s120 HS HO HZ HB4 hlen v0 v1 v2 v3
      go_wp2_with (first | (go_at_call 20; refine cS.mono ?_; rintro e Wt ⟨rfl, hB9⟩; refine Hid.out ?_))
      refine Lib.hid ?_
      have hBt := on1K HBr.out hB9 (Nat.le_refl _)
      clear cS hB9 HBr p0 p1
      clear x0 x1 x2 x3
      obtain ⟨x0, x1, x2, x3⟩ := HX.out Wt hBt
      have hbt := on1K HB1.out hBt (Nat.le_refl _)
      have HBt := Lib.hid hBt
      by_cases hA : AllOk N T L
      · have cA := all_yes (HG.out.1.on hbt) (HG.out.2.1.on hbt) zN zT (HG.out.2.2.2.2.on hbt) zL hA
        have hgT := hA.2.1
        clear hBt hbt
        go_wp2_with (first | (go_at_call 21; refine cA.mono ?_; rintro e W6 ⟨ga, gl, gc, ta, tl, tc, MA, rfl, q1, q2, q3, q4, hB6⟩; refine Hid.out ?_))
        refine Lib.hid ?_
        have hBx : Below W6.heap.size W6 (W6.alloc (.cells #[.slice ga gl gc, .slice ta tl tc] 25)) := b_alloc (Below.refl _ _) _
        have hB7 := on1K (on1K HBt.out hB6 (Nat.le_refl _)) hBx (Nat.le_refl _)
        have hbw7 := on1K HB1.out hB7 (Nat.le_refl _)
        have cT := turn_yes between_any (HG.out.1.on hbw7) (HG.out.2.1.on hbw7) zN zT (HG.out.2.2.2.2.on hbw7) zL hA
        obtain ⟨y0, y1, y2, y3⟩ := HX.out _ hB7
        have h76 := heap_alloc_new W6 (.cells #[.slice ga gl gc, .slice ta tl tc] 25)
        have HM : Hid (cN MA = (opS.res L (cN N) T).1 ∧ OwnNs W6 Wt.heap.size (.slice ga gl gc) MA ∧ OwnTs W6 Wt.heap.size (.slice ta tl tc) (opS.res L (cN N) T).2 ∧ gErr MA (opS.res L (cN N) T).2 = 0 ∧ Below W6.heap.size W6 (W6.alloc (.cells #[.slice ga gl gc, .slice ta tl tc] 25)) ∧ (W6.alloc (.cells #[.slice ga gl gc, .slice ta tl tc] 25)).heap[W6.heap.size]? = some (.cells #[.slice ga gl gc, .slice ta tl tc] 25 (0, 0)) ∧ Below W1.heap.size W1 (W6.alloc (.cells #[.slice ga gl gc, .slice ta tl tc] 25)) ∧ W1.heap.size ≤ W6.heap.size) := ⟨q1, q2, q3, q4, hBx, h76, hB7, (on1K HBt.out hB6 (Nat.le_refl _)).size⟩
        clear q1 q2 q3 q4 hBx hB7 hbw7 h76 cA hB6 x0 x1 x2 x3
        generalize hVV : (opS.res L (cN N) T).2 = VV at *
        generalize hRR : (opS.res L (cN N) T).1 = RR at *
        clear hVV hRR hA
        go_wp2_with (first | (go_at_call 22; refine cT.mono ?_; rintro e W8 ⟨MT, u1, u2, aob, cb, LT, rfl, hOb, hmb, hB8⟩; refine Hid.out ?_))
        refine Lib.hid ?_
        obtain ⟨q1, q2, q3, q4, hBx, h76, hB7, hq6⟩ := HM.out
        have h86 := (hB8.block _ (Array.getElem?_eq_some_iff.1 h76).1).trans h76
        have HS : Hid (BkI W8 LT (cN N) T W6.heap.size 0 W8) := by
          have hx8 := on1K hBx hB8 (Nat.le_refl _)
          exact bk_startO (q2.kt (.of_below hx8) (.of_below hx8)) (q3.kt (.of_below hx8)) q4 h86 (by rw [hmb, q1, ← u1]; exact dif_runs u2 hgT)
        have HO := Lib.hid (And.intro hOb h86)
        have HZ := Lib.hid (map_sz hmb (difO_sz u2 hgT))
        have hlen : LT.length ≤ 40000 := by rw [map_len hmb]; exact difO_len u2 hgT
        have HB8 : Hid (Below W1.heap.size W1 W8 ∧ W1.heap.size ≤ W6.heap.size) := ⟨on1K hB7 hB8 (Nat.le_refl _), hq6⟩
        obtain ⟨v0, v1, v2, v3⟩ := HX.out W8 HB8.out.1
        clear q1 q2 q3 q4 hBx h76 hB7 hq6 h86 hOb hmb hB8 u1 u2 HM cT y0 y1 y2 y3
        go_wp2
        go_loopw [22] (fun s wr => ∃ i : Nat, i ≤ LT.length ∧ s = .int .i64 i ∧ BkI W8 LT (cN N) T W6.heap.size i wr) (fun s _ => LT.length - (intOf s).toNat)
        case atStart => exact ⟨0, Nat.zero_le _, rfl, HS.out⟩
        case round =>
          obtain ⟨i, hi, rfl, hM⟩ := hrel
          obtain ⟨xn, xt, X, Y, m1, m2, m3, m4, m5⟩ := hM
          by_cases hlt : i < LT.length
          · obtain ⟨o, ho⟩ : ∃ o, LT[i]? = some o := ⟨LT[i], by simp [hlt]⟩
            obtain ⟨b, c', hv, hb, hcl, hR⟩ := ops_at (own_grown HO.out.1 HO.out.2 m5) ho
            injection hv with hv1 hv2 hv3
            subst hv1
            clear hv2 hv3
            obtain ⟨e0, hnx⟩ := bk_next m3 ho
            have zo := HZ.out o (List.mem_of_getElem? ho)
            have cD := fun W (hB : Below wr.heap.size wr W) => do_yes (m2 W (grown_of_below hB _)).1 (m2 W (grown_of_below hB _)).2 m4 (hR.on hB) zo e0
            obtain ⟨a5, c5, hv5, _⟩ := (m2 wr (grown_of_below (Below.refl _ _) _)).1
            obtain ⟨a6, c6, hv6, _⟩ := (m2 wr (grown_of_below (Below.refl _ _) _)).2
            subst hv5 hv6
            have hqw : W6.heap.size < wr.heap.size := (Array.getElem?_eq_some_iff.1 m1).1
            have HC : Hid (∀ W, Below wr.heap.size wr W → Rd W W6.heap.size b (i * 11) (.slice a5 X.length c5) (.slice a6 Y.length c6) o) := fun W hB => rd_of ((hB.block _ hqw).trans m1) (fun j u hu => hcl W hB j u hu)
            obtain ⟨av, lv, cv, hov⟩ := hR.sl
            generalize hX2 : opM o (cN X) Y = X2 at *
            generalize hY2 : opT o (cN X) Y = Y2 at *
            clear hX2 hY2 e0 zo hcl hR ho m3 m4
            obtain ⟨wh, ⟨id, kd, rv, rc⟩, ⟨nm, pt, pn, ps⟩, ⟨bd, fr, tt⟩⟩ := o
            simp only at hov
            subst hov
            have HK : Hid (wr.heap[W6.heap.size]? = some (.cells #[.slice a5 X.length c5, .slice a6 Y.length c6] 25 (0, 0)) ∧ W8.grownBy wr (some W6.heap.size) ∧ Runs ((LT.drop (i + 1)).map Opx.c) X2 Y2 (cN N) T) := ⟨m1, m5, hnx⟩
            obtain ⟨x0, x1, x2, x3, x4, x5, x6, x7, x8, x9, x10, x11, x12⟩ := HC.out wr (Below.refl _ _)
            simp only at x2 x3 x4 x5 x6 x7 x8 x9 x10 x11 x12
            have hbw : b < wr.heap.size := hb
            have hn1 : ¬ wr.heap.size = b := by omega
            have hn2 : ¬ wr.heap.size = W6.heap.size := by omega
            have hn3 : W6.heap.size ≠ wr.heap.size := by omega
            have HN : Hid (∀ W, Below wr.heap.size wr W → ¬ W.heap.size = b ∧ ¬ W.heap.size = W6.heap.size) := fun W hB => by have := hB.size; omega
            clear m1 m2 m5 hnx
            go_upto_region 27 with fail
            go_cut [23, 24] (fun s t wx => EmC wr (.slice a5 X.length c5) (.slice a6 Y.length c6) X2 Y2 W6.heap.size s t wx)
            case first =>
              first | (go_region_held3 (fun w' => w'.cell? ⟨W6.heap.size, 0, none⟩ = some (.slice a5 X.length c5) ∧ w'.cell? ⟨W6.heap.size, 1, none⟩ = some (.slice a6 Y.length c6) ∧ w'.cell? ⟨b, i * 11, none⟩ = some (.int .i64 wh) ∧ w'.cell? ⟨b, i * 11 + 1, none⟩ = some (.int .i64 id) ∧ w'.cell? ⟨b, i * 11 + 2, none⟩ = some (.string kd) ∧ w'.cell? ⟨b, i * 11 + 3, none⟩ = some (.slice av lv cv) ∧ w'.cell? ⟨b, i * 11 + 4, none⟩ = some (.string nm) ∧ w'.cell? ⟨b, i * 11 + 5, none⟩ = some (.int .i64 pt) ∧ w'.cell? ⟨b, i * 11 + 6, none⟩ = some (.int .i64 pn) ∧ w'.cell? ⟨b, i * 11 + 7, none⟩ = some (.string ps) ∧ w'.cell? ⟨b, i * 11 + 8, none⟩ = some (.string bd) ∧ w'.cell? ⟨b, i * 11 + 9, none⟩ = some (.int .i64 fr) ∧ w'.cell? ⟨b, i * 11 + 10, none⟩ = some (.int .i64 tt)) (go_keep) (first | (go_at_call 19; refine (cD _ (by first | exact b_drew (Below.refl _ wr) | exact b_alloc (b_drew (Below.refl _ wr)) _)).mono ?_; rintro e D2 ⟨yn, yt, M2, rfl, ⟨hM2, hO2, hT2, hg2⟩, hB2'⟩; obtain ⟨a7, c7, hv7⟩ := own_slice hO2.1; obtain ⟨a8, c8, hv8⟩ := own_slice hT2; subst hv7 hv8; have hb2 : Hid (Below wr.heap.size wr D2) := on1K (by first | exact b_drew (Below.refl _ wr) | exact b_alloc (b_drew (Below.refl _ wr)) _) hB2' (Nat.le_refl _); obtain ⟨z0, z1, z2, z3, z4, z5, z6, z7, z8, z9, z10, z11, z12⟩ := HC.out D2 hb2.out; simp only at z2 z3 z4 z5 z6 z7 z8 z9 z10 z11 z12; have hn5 := HN.out D2 hb2.out; (try (have kb : D2.heap[wr.heap.size]? = some (.cells #[.slice none 0 0, .slice none 0 0] 25 (0, 0)) := (hB2'.block _ (by simp)).trans (heap_alloc_new wr.drew _); have y5 : D2.cell? ⟨wr.heap.size, 0, none⟩ = some (.slice none 0 0) := cell_at kb rfl; have y6 : D2.cell? ⟨wr.heap.size, 1, none⟩ = some (.slice none 0 0) := cell_at kb rfl; have f5 : D2.frozen? ⟨wr.heap.size, 0, none⟩ = false := frz_at kb; have f6 : D2.frozen? ⟨wr.heap.size, 1, none⟩ = false := frz_at kb; replace kb := Lib.hid kb)); clear hB2'; have HP := Lib.hid (And.intro hM2 (And.intro hO2 (And.intro hT2 hg2))); clear hM2 hO2 hT2 hg2))) | fail
              all_goals
                go_wp2
                go_meet
                have hq5 := (hb2.out.block _ hqw).trans HK.out.1
                first
                  | with_reducible exact emC_alloc HP.out.2.1 HP.out.2.2.1 HP.out.1 HP.out.2.2.2 hq5 hb2.out
                  | with_reducible exact emC_set kb.out hn3 (Nat.le_refl _) HP.out.2.1 HP.out.2.2.1 HP.out.1 HP.out.2.2.2 hq5 hb2.out
            case rest =>
            obtain ⟨p2, yn, yt, M2, rfl, rfl, r1, r2, r3, r4, r5, r6, r7⟩ := hcut
            obtain ⟨a7, c7, hv7⟩ := own_slice r2.1
            obtain ⟨a8, c8, hv8⟩ := own_slice r3
            subst hv7 hv8
            have z0 : wc.cell? ⟨p2, 0, none⟩ = some (.slice a7 M2.length c7) := cell_at r1 rfl
            have z1 : wc.cell? ⟨p2, 1, none⟩ = some (.slice a8 Y2.length c8) := cell_at r1 rfl
            have t0 : wc.cell? ⟨W6.heap.size, 0, none⟩ = some (.slice a5 X.length c5) := cell_at r6 rfl
            have t1 : wc.cell? ⟨W6.heap.size, 1, none⟩ = some (.slice a6 Y.length c6) := cell_at r6 rfl
            have f0 : wc.frozen? ⟨W6.heap.size, 0, none⟩ = false := frz_at r6
            have f1 : wc.frozen? ⟨W6.heap.size, 1, none⟩ = false := frz_at r6
            have HE2 : Hid (BkI W8 LT (cN N) T W6.heap.size (i + 1) ((wc.setCell ⟨W6.heap.size, 0, none⟩ (.slice a7 M2.length c7)).setCell ⟨W6.heap.size, 1, none⟩ (.slice a8 Y2.length c8))) := bk_step HK.out.2.2 r2 r3 r4 r5 r6 r7 HK.out.2.1
            clear r1 r2 r3 r4 r5 r6 r7 x0 x1 x2 x3 x4 x5 x6 x7 x8 x9 x10 x11 x12 cD HK HC HN
            go_wp2
            refine ⟨⟨i + 1, hlt, ?_, HE2.out⟩, ?_⟩
            · go_num
            · simp [intOf]
              omega
          · obtain rfl : i = LT.length := by omega
            obtain ⟨hXe, hYe⟩ := bk_end m3 (Nat.le_refl _)
            have hYs := hYe.symm
            subst hYs
            have hIX := m2 wr (grown_of_below (Below.refl _ _) _)
            obtain ⟨a5, c5, hv5, _⟩ := (m2 wr (grown_of_below (Below.refl _ _) _)).1
            obtain ⟨a6, c6, hv6, _⟩ := (m2 wr (grown_of_below (Below.refl _ _) _)).2
            subst hv5 hv6
            have hBr : Below W1.heap.size W1 wr := below_grown HB8.out.1 m5 HB8.out.1.size (fun k hk => by injection hk with hk; subst hk; exact HB8.out.2)
            have hbr := on1K HB1.out hBr (Nat.le_refl _)
            obtain ⟨r60, r120, _, _⟩ := gErr_lens m4
            obtain ⟨s60, s120, _, _⟩ := gErr_lens hgT
            have cS := same_eq hIX.1 hIX.2 (HG.out.1.on hbr) (HG.out.2.1.on hbr) hXe m4 hgT (fun n hn => by have := gErr_rc8 m4 n hn; omega) (gErr_sz m4).1 (gErr_sz m4).2 zN r60 s60 r120
            obtain ⟨y0, y1, y2, y3⟩ := HX.out wr hBr
            have p0 := cell_at (i := 0) m1 rfl
            have p1 := cell_at (i := 1) m1 rfl
            clear m1 m2 m3 m4 m5 hIX hXe hBr r60 r120 s60 s120 v0 v1 v2 v3
            go_wp2_with (first | (go_at_call 20; refine cS.mono ?_; rintro e W9 ⟨rfl, hB9⟩))
            go_ret
            exact ⟨rfl, on1K hbr hB9 (Nat.le_refl _)⟩
      · have cA := all_no (HG.out.1.on hbt) (HG.out.2.1.on hbt) zN zT lN lT (HG.out.2.2.2.2.on hbt) zL lL hA
        clear hBt hA
        go_wp2_with (first | (go_at_call 21; refine cA.mono ?_; rintro e W6 ⟨k6, z6, hz6, rfl, hB6⟩))
        go_ret
        exact ⟨rfl, b_alloc (on1K hbt hB6 (Nat.le_refl _)) _⟩
end Go.Proofs.Ytelbmianojomgaa
