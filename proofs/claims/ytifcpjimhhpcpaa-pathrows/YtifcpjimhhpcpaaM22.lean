/-
  The walk of many: nodes and ties in a row.
-/
import Derived.Test.YtifcpjimhhpcpaaM10
import Derived.Test.YtifcpjimhhpcpaaM07
import Derived.Laws.OwnMore
import Derived.Laws.AppendOwnNone
import Derived.Laws.ResultCell
import Derived.Lib.Hide
import Derived.Deep.RegionLaw
import Derived.Lib.AppendZeros
namespace Go.Proofs.Ytifcpjimhhpcpaa
open Go.RowKit
set_option linter.unusedVariables false
set_option linter.unusedSimpArgs false


/-- The property of a node of the row. -/
def prK (i : Int) : Pr := ⟨⟨#[107]⟩, 1, i, ⟨#[]⟩⟩
def Nd.cells (n : Nd) : List Value := [.int .i64 n.id, .string n.kd, n.rv]
def cellsN (N : List Nd) : List Value := N.flatMap Nd.cells
def Te.cells (t : Te) : List Value := [.string t.bd, .int .i64 t.fr, .int .i64 t.tt]
def cellsT (T : List Te) : List Value := T.flatMap Te.cells
theorem infoN : (Try.prog.info? 68).map (fun i => (i.zero, i.size, i.bytes)) = some (some (.agg #[.int .i64 0, .string ⟨#[]⟩, .slice none 0 0]), 3, 48) := by kernel_rfl
theorem infoT : (Try.prog.info? 70).map (fun i => (i.zero, i.size, i.bytes)) = some (some (.agg #[.string ⟨#[]⟩, .int .i64 0, .int .i64 0]), 3, 32) := by kernel_rfl
/-- The records of a row of nodes lie there. -/
def Recs (w : World) (N : List Nd) : Prop :=
  ∀ (j : Nat) (n : Nd), N[j]? = some n → n.id = ((j : Int) + 1) ∧ n.kd = ⟨#[97]⟩ ∧ n.rc = [prK ((j : Int) + 1)] ∧ ∃ b, n.rv = .slice (some ⟨b, 0, none⟩) 1 1 ∧ w.heap[b]? = some (.cells #[.string ⟨#[107]⟩, .int .i64 1, .int .i64 ((j : Int) + 1), .string ⟨#[]⟩] 64 (0, 0))
/-- Where the first loop stands. -/
def M1 (w : World) (n : Nat) (i : Value) (wr : World) : Prop :=
  ∃ (N : List Nd) (v : Value), N.length ≤ n ∧ i = .int .i64 ((N.length : Int) + 1) ∧ wr.ownsRow w.heap.size 68 3 v N.length (cellsN N) ∧ wr.heap[w.heap.size + 1]? = some (.cells #[v, .slice none 0 0] 39 (0, 0)) ∧ wr.heap[w.heap.size]? = some (.cells #[.slice none 0 0, .slice none 0 0] 39 (0, 0)) ∧ Recs wr N ∧ Below w.heap.size w wr
theorem cell_of {w : World} {b i : Nat} {cs : Array Value} {t : TypeId} {u : Value} (h : w.heap[b]? = some (.cells cs t (0, 0))) (hu : cs[i]? = some u) : w.cell? ⟨b, i, none⟩ = some u := by simp [World.cell?, h, hu]
theorem frz_of {w : World} {b i : Nat} {cs : Array Value} {t : TypeId} (h : w.heap[b]? = some (.cells cs t (0, 0))) : w.frozen? ⟨b, i, none⟩ = false := by simp [World.frozen?, h]

theorem step_append_own {P : Program} {ops : Array Oper} {o : Oper} {a : Act} {w : World} {K : Act → World → Prop} {Q : Exit → Act → World → Prop} {E : Prop}
    (hg : o.guard = none) (s x : Operand) (t : TypeId) (ho : o.op = .call { callee := .builtin .append, args := #[s, x], argTypes := #[t, t] })
    (base : Nat) (e : TypeId) (i : TypeInfo) (z : Value) (size bytes : Nat) (ht : P.underlying t = some (.slice e)) (hi : P.info? e = some i) (hz : i.zero = some z)
    (hsize : i.size = size) (hby : i.bytes = bytes) (hzs : z.cells.size = size) (hsz : 0 < size)
    (v : Value) (n : Nat) (xs : List Value) (hs : a.eval s = v) (hown : w.ownsRow base e size v n xs)
    (ad : Addr) (m c : Nat) (news : List Value) (hx : a.eval x = .slice (some ad) m c) (hl : news.length = m * size) (hnews : ∀ j u, news[j]? = some u → w.cell? (ad.add j) = some u) (h1 : ∀ u ∈ news, u.oneCell' = true)
    (h63 : n + m ≤ maxLen) (hbytes : (n + m) * bytes ≤ 140737488355328) (hbase : base ≤ w.heap.size)
    (hK : ∀ v' w', w'.ownsRow base e size v' (n + m) (xs ++ news) → w.grownBy w' v.ownBlock → K (a.put o.dst v') w') :
    if Region.wanted o (yielded ops a.tmps) = true then Oper.wp P o a w K Q else E := by
  have hw : Region.wanted o (yielded ops a.tmps) = true := by simp [Region.wanted, hg]
  rw [if_pos hw]
  exact wp_append_own w s x t ho base e i z size bytes ht hi hz hsize hby hzs hsz v n xs hs hown ad m c news hx hl hnews h1 h63 hbytes hbase (fun v' w' h2 h3 _ => hK v' w' h2 h3)
/-- A block of another type is not the row's. -/
theorem row_apart {w : World} {base : Nat} {e t : TypeId} {size : Nat} {v : Value} {n : Nat} {xs : List Value} (h : w.ownsRow base e size v n xs) {b : Nat} {cs : Array Value} (hb : w.heap[b]? = some (.cells cs t (0, 0))) (hne : t ≠ e) : v.ownBlock ≠ some b := by
  rcases h.2 with ⟨rfl, _⟩ | ⟨g, cap, cur, rfl, _, hg, _⟩
  · intro h; cases h
  · intro h
    have : g = b := by simpa [Value.ownBlock] using h
    subst this
    rw [hg] at hb
    injection hb with hb
    injection hb with _ ht _
    exact hne ht.symm
/-- The new node. -/
abbrev ndK (k b : Nat) : Nd := ⟨((k : Int) + 1), ⟨#[97]⟩, .slice (some ⟨b, 0, none⟩) 1 1, [prK ((k : Int) + 1)]⟩
/-- The world ahead of the append. -/
abbrev wK (wr : World) (k : Nat) : World := (((wr.alloc (.cells #[.int .i64 1, .int .i64 ((k : Int) + 1), .string ⟨#[]⟩] 61)).alloc (.cells #[.string ⟨#[107]⟩, .int .i64 1, .int .i64 ((k : Int) + 1), .string ⟨#[]⟩] 64)).alloc (.cells #[.int .i64 ((k : Int) + 1), .string ⟨#[97]⟩, .slice (some ⟨wr.heap.size + 1, 0, none⟩) 1 1] 68)).drew

theorem bK (wr : World) (k : Nat) : Below wr.heap.size wr (wK wr k) := b_drew (b_alloc (b_alloc (b_alloc (Below.refl _ _) _) _) _)
theorem own_drew {w : World} {base : Nat} {e : TypeId} {size : Nat} {v : Value} {n : Nat} {xs : List Value} (h : w.ownsRow base e size v n xs) : w.drew.ownsRow base e size v n xs := h
theorem own_set {w : World} {base : Nat} {e : TypeId} {size : Nat} {v : Value} {n : Nat} {xs : List Value} (h : w.ownsRow base e size v n xs) {G : Nat} (hne : v.ownBlock ≠ some G) (i : Nat) (u : Value) : (w.setCell ⟨G, i, none⟩ u).ownsRow base e size v n xs := by
  refine ⟨h.1, ?_⟩
  rcases h.2 with h | ⟨g, cap, cur, rfl, hb, hg, rest⟩
  · exact .inl h
  · exact .inr ⟨g, cap, cur, rfl, hb, (heap_setCell_other w ⟨G, i, none⟩ g u (fun e => hne (by rw [e]; rfl))).trans hg, rest⟩
theorem cellsN_snoc (N : List Nd) (n : Nd) : cellsN (N ++ [n]) = cellsN N ++ n.cells := by simp [cellsN]
theorem cellsT_snoc (T : List Te) (t : Te) : cellsT (T ++ [t]) = cellsT T ++ t.cells := by simp [cellsT]
set_option maxRecDepth 100000 in
theorem m1_step {w wr w1 : World} {N : List Nd} {v : Value} {a1 : Option Addr} {c1 k n : Nat} (hk : N.length = k) (hlt : k < n) (hRe : Recs wr N) (hB : Below w.heap.size w wr) (hG : wr.heap[w.heap.size + 1]? = some (.cells #[v, .slice none 0 0] 39 (0, 0))) (hR : wr.heap[w.heap.size]? = some (.cells #[.slice none 0 0, .slice none 0 0] 39 (0, 0)))
    (hO : wr.ownsRow w.heap.size 68 3 v k (cellsN N)) (hown1 : w1.ownsRow w.heap.size 68 3 (.slice a1 (k + 1) c1) (k + 1) (cellsN N ++ (ndK k (wr.heap.size + 1)).cells)) (hgrow1 : (wK wr k).grownBy w1 v.ownBlock) :
    M1 w n (.int .i64 ((k : Int) + 1 + 1)) (w1.setCell ⟨w.heap.size + 1, 0, none⟩ (.slice a1 (k + 1) c1)) := by
  have hgl : w.heap.size + 1 < wr.heap.size := (Array.getElem?_eq_some_iff.1 hG).1
  have hold : ∀ (b : Nat) (cs : Array Value) (t : TypeId), t ≠ 68 → wr.heap[b]? = some (.cells cs t (0, 0)) → w1.heap[b]? = some (.cells cs t (0, 0)) := fun b cs t ht hb => by
    have hl : b < wr.heap.size := (Array.getElem?_eq_some_iff.1 hb).1
    exact (hgrow1.block b (Nat.lt_of_lt_of_le hl (bK wr k).size) (fun h => row_apart hO hb ht h.symm)).trans (((bK wr k).block b hl).trans hb)
  have hG1 := hold _ _ _ (by decide) hG
  have hR1 := hold _ _ _ (by decide) hR
  have hrec : w1.heap[wr.heap.size + 1]? = some (.cells #[.string ⟨#[107]⟩, .int .i64 1, .int .i64 ((k : Int) + 1), .string ⟨#[]⟩] 64 (0, 0)) := by
    have e1 : (wK wr k).heap[wr.heap.size + 1]? = some (.cells #[.string ⟨#[107]⟩, .int .i64 1, .int .i64 ((k : Int) + 1), .string ⟨#[]⟩] 64 (0, 0)) := by
      have h1 := heap_alloc_new (wr.alloc (.cells #[.int .i64 1, .int .i64 ((k : Int) + 1), .string ⟨#[]⟩] 61)) (.cells #[.string ⟨#[107]⟩, .int .i64 1, .int .i64 ((k : Int) + 1), .string ⟨#[]⟩] 64)
      rw [World.size_alloc] at h1
      exact (Below.heap_alloc _ _ _ (by simp)).trans h1
    have hne : some (wr.heap.size + 1) ≠ v.ownBlock := by
      rcases hO.2 with ⟨rfl, _⟩ | ⟨g, cap, cur, rfl, _, hg, _⟩
      · intro h; cases h
      · intro h
        have : wr.heap.size + 1 = g := by simpa [Value.ownBlock] using h
        have := (Array.getElem?_eq_some_iff.1 hg).1
        omega
    exact (hgrow1.block _ (by simp [wK]) hne).trans e1
  refine ⟨N ++ [ndK k (wr.heap.size + 1)], .slice a1 (k + 1) c1, by simp; omega, by simp [hk], ?_, ?_, ?_, ?_, ?_⟩
  · rw [List.length_append, List.length_singleton, hk, cellsN_snoc]
    exact own_set hown1 (row_apart hown1 hG1 (by decide)) _ _
  · exact (heap_setCell_same w1 (w.heap.size + 1) 0 _ 39 _ hG1).trans rfl
  · exact (heap_setCell_other w1 _ _ _ (by simp)).trans hR1
  · intro j n' hn'
    by_cases hj : j < k
    · rw [List.getElem?_append_left (by omega)] at hn'
      obtain ⟨h1, h2, h3, b, h4, h5⟩ := hRe j n' hn'
      refine ⟨h1, h2, h3, b, h4, (heap_setCell_other w1 _ _ _ ?_).trans (hold b _ _ (by decide) h5)⟩
      intro e
      simp only at e
      rw [e, hG] at h5
      injection h5 with h5
      injection h5 with _ ht _
      cases ht
    · have hjl : j < k + 1 := by
        have := (List.getElem?_eq_some_iff.1 hn').1
        simp at this; omega
      obtain rfl : j = k := by omega
      rw [List.getElem?_append_right (by omega), hk, Nat.sub_self] at hn'
      obtain rfl : ndK j (wr.heap.size + 1) = n' := by simpa using hn'
      refine ⟨rfl, rfl, rfl, _, rfl, (heap_setCell_other w1 _ _ _ ?_).trans hrec⟩
      simp; omega
  · exact ((hB.trans ((bK wr k).mono hB.size)).grown hgrow1 (by have := (bK wr k).size; omega) (fun g hg => (hO.lt g hg).1)).setCell (p := ⟨w.heap.size + 1, 0, none⟩) (by simp) _

/-- The ties of the row. -/
def tK (j : Nat) : Te := ⟨⟨#[112]⟩, (j : Int) + 1, (j : Int) + 1 + 1⟩
def rowT (k : Nat) : List Te := (List.range k).map tK
theorem rowT_s (k : Nat) : rowT (k + 1) = rowT k ++ [tK k] := by simp [rowT, List.range_succ]
theorem rowT_len (k : Nat) : (rowT k).length = k := by simp [rowT]
/-- Where the second loop stands. -/
def M2 (w W : World) (vN : Value) (m : Nat) (i : Value) (wr : World) : Prop :=
  ∃ (k : Nat) (v : Value), k ≤ m ∧ i = .int .i64 ((k : Int) + 1) ∧ wr.ownsRow W.heap.size 70 3 v k (cellsT (rowT k)) ∧ wr.heap[w.heap.size + 1]? = some (.cells #[vN, v] 39 (0, 0)) ∧ (∀ b, b < W.heap.size → b ≠ w.heap.size + 1 → wr.heap[b]? = W.heap[b]?) ∧ W.heap.size ≤ wr.heap.size ∧ Below w.heap.size w wr
theorem m2_step {w W wr w1 : World} {vN v : Value} {a1 : Option Addr} {c1 k m : Nat} (hlt : k < m) (hwW : w.heap.size + 1 < W.heap.size) (hO : wr.ownsRow W.heap.size 70 3 v k (cellsT (rowT k))) (hG : wr.heap[w.heap.size + 1]? = some (.cells #[vN, v] 39 (0, 0))) (hK : ∀ b, b < W.heap.size → b ≠ w.heap.size + 1 → wr.heap[b]? = W.heap[b]?) (hs : W.heap.size ≤ wr.heap.size) (hB : Below w.heap.size w wr)
    (hown1 : w1.ownsRow W.heap.size 70 3 (.slice a1 (k + 1) c1) (k + 1) (cellsT (rowT k) ++ (tK k).cells)) (hgrow1 : (wr.alloc (.cells #[.string ⟨#[112]⟩, .int .i64 ((k : Int) + 1), .int .i64 ((k : Int) + 1 + 1)] 70)).grownBy w1 v.ownBlock) :
    M2 w W vN m (.int .i64 ((k : Int) + 1 + 1)) (w1.setCell ⟨w.heap.size + 1, 1, none⟩ (.slice a1 (k + 1) c1)) := by
  have hgl : w.heap.size + 1 < wr.heap.size := (Array.getElem?_eq_some_iff.1 hG).1
  have hb1 : Below wr.heap.size wr (wr.alloc (.cells #[.string ⟨#[112]⟩, .int .i64 ((k : Int) + 1), .int .i64 ((k : Int) + 1 + 1)] 70)) := b_alloc (Below.refl _ _) _
  have hown : ∀ g, v.ownBlock = some g → W.heap.size ≤ g := fun g hg => (hO.lt g hg).1
  have hold : ∀ b, b < W.heap.size → w1.heap[b]? = wr.heap[b]? := fun b hb =>
    (hgrow1.block b (Nat.lt_of_lt_of_le (Nat.lt_of_lt_of_le hb hs) hb1.size) (fun h => by have := hown b h.symm; omega)).trans (hb1.block b (Nat.lt_of_lt_of_le hb hs))
  have hG1 := (hold _ hwW).trans hG
  refine ⟨k + 1, .slice a1 (k + 1) c1, by omega, by simp, ?_, ?_, ?_, ?_, ?_⟩
  · rw [rowT_s, cellsT_snoc]
    exact own_set hown1 (row_apart hown1 hG1 (by decide)) _ _
  · exact (heap_setCell_same w1 (w.heap.size + 1) 1 _ 39 _ hG1).trans rfl
  · intro b hb hne
    exact (heap_setCell_other w1 _ _ _ hne).trans ((hold b hb).trans (hK b hb hne))
  · have := hgrow1.size
    simp at this ⊢
    omega
  · exact ((hB.trans (hb1.mono hB.size)).grown hgrow1 (by have := hb1.size; have := hB.size; omega) (fun g hg => by have := hown g hg; have := hB.size; omega)).setCell (p := ⟨w.heap.size + 1, 1, none⟩) (by simp) _
/-- What many gives. -/
def RowN (b0 : Nat) (w : World) (vN : Value) (n : Nat) : Prop := ∃ N base, b0 ≤ base ∧ List.length N = n ∧ IsN w vN N ∧ (∀ (j : Nat) (x : Nd), N[j]? = some x → x.id = (j : Int) + 1 ∧ x.kd = ⟨#[97]⟩ ∧ x.rc = [prK ((j : Int) + 1)]) ∧ w.ownsRow base 68 3 vN n (cellsN N)
theorem flat3 {α : Type} (f : α → List Value) (h : ∀ x, (f x).length = 3) : ∀ (L : List α) (k : Nat) (x : α) (i : Nat), L[k]? = some x → i < 3 → (L.flatMap f)[k * 3 + i]? = (f x)[i]?
  | [], k, x, i, hx, _ => by simp at hx
  | a :: r, 0, x, i, hx, hi => by
    obtain rfl : a = x := by simpa using hx
    rw [List.flatMap_cons, List.getElem?_append_left (by rw [h]; omega)]; simp
  | a :: r, k + 1, x, i, hx, hi => by
    rw [List.flatMap_cons, List.getElem?_append_right (by rw [h]; omega), h]
    have := flat3 f h r k x i (by simpa using hx) hi
    rw [← this]; congr 1; omega
theorem own_isT {w : World} {base : Nat} {v : Value} {M : List Te} (h : w.ownsRow base 70 3 v M.length (cellsT M)) : IsT w v M := by
  have hc : ∀ g, v.ownBlock = some g → ∀ j u, (cellsT M)[j]? = some u → w.cell? ((⟨g, 0, none⟩ : Addr).add j) = some u := fun g hg => h.cells hg
  rcases h.2 with ⟨rfl, h0⟩ | ⟨g, cap, cur, rfl, hb, hg, hle, hcm, hcs, ht⟩
  · exact ⟨none, 0, by rw [h0], by omega, .inl (List.eq_nil_of_length_eq_zero h0)⟩
  · refine ⟨_, cap, rfl, hle, .inr ⟨g, 0, rfl, (Array.getElem?_eq_some_iff.1 hg).1, fun k p hp => ?_⟩⟩
    have hat := flat3 Te.cells (fun _ => rfl) M k p
    have d0 := hc g rfl _ _ ((hat 0 hp (by decide)).trans rfl)
    have d1 := hc g rfl _ _ ((hat 1 hp (by decide)).trans rfl)
    have d2 := hc g rfl _ _ ((hat 2 hp (by decide)).trans rfl)
    rw [Addr.add_lit] at d0 d1 d2
    exact ⟨d0, by rw [Nat.add_assoc]; exact d1, by rw [Nat.add_assoc]; exact d2⟩
theorem own_isN {w : World} {base : Nat} {v : Value} {M : List Nd} (h : w.ownsRow base 68 3 v M.length (cellsN M)) (hr : ∀ n ∈ M, IsR w n.rv n.rc) : IsN w v M := by
  have hc : ∀ g, v.ownBlock = some g → ∀ j u, (cellsN M)[j]? = some u → w.cell? ((⟨g, 0, none⟩ : Addr).add j) = some u := fun g hg => h.cells hg
  rcases h.2 with ⟨rfl, h0⟩ | ⟨g, cap, cur, rfl, hb, hg, hle, hcm, hcs, ht⟩
  · exact ⟨none, 0, by rw [h0], by omega, .inl (List.eq_nil_of_length_eq_zero h0)⟩
  · refine ⟨_, cap, rfl, hle, .inr ⟨g, 0, rfl, (Array.getElem?_eq_some_iff.1 hg).1, fun k p hp => ?_⟩⟩
    have hat := flat3 Nd.cells (fun _ => rfl) M k p
    have d0 := hc g rfl _ _ ((hat 0 hp (by decide)).trans rfl)
    have d1 := hc g rfl _ _ ((hat 1 hp (by decide)).trans rfl)
    have d2 := hc g rfl _ _ ((hat 2 hp (by decide)).trans rfl)
    rw [Addr.add_lit] at d0 d1 d2
    exact ⟨d0, by rw [Nat.add_assoc]; exact d1, by rw [Nat.add_assoc]; exact d2, hr p (List.mem_of_getElem? hp)⟩
theorem recs_isR {w : World} {N : List Nd} (h : Recs w N) : ∀ n ∈ N, IsR w n.rv n.rc := fun n hn => by
  obtain ⟨j, hj⟩ := List.mem_iff_getElem?.1 hn
  obtain ⟨_, _, h3, b, h4, h5⟩ := h j n hj
  rw [h3, h4]
  refine ⟨_, 1, rfl, .inr ⟨b, 0, rfl, (Array.getElem?_eq_some_iff.1 h5).1, fun k p hp => ?_⟩⟩
  match k with
  | 0 =>
    obtain rfl : prK ((j : Int) + 1) = p := by simpa using hp
    exact ⟨cell_of h5 rfl, cell_of h5 rfl, cell_of h5 rfl, cell_of h5 rfl⟩
  | k + 1 => simp at hp
theorem own_heap {w w' : World} {base : Nat} {e : TypeId} {size : Nat} {v : Value} {n : Nat} {xs : List Value} (h : w.ownsRow base e size v n xs) (hb : ∀ g, v.ownBlock = some g → w'.heap[g]? = w.heap[g]?) : w'.ownsRow base e size v n xs := by
  refine ⟨h.1, ?_⟩
  rcases h.2 with h | ⟨g, cap, cur, rfl, hg0, hg, rest⟩
  · exact .inl h
  · exact .inr ⟨g, cap, cur, rfl, hg0, (hb g rfl).trans hg, rest⟩
theorem own_ge {w : World} {base : Nat} {e : TypeId} {size : Nat} {v : Value} {n : Nat} {xs : List Value} (h : w.ownsRow base e size v n xs) {g : Nat} (hg : v.ownBlock = some g) : base ≤ g ∧ ∃ cs, w.heap[g]? = some (.cells cs e (0, 0)) := by
  rcases h.2 with ⟨rfl, _⟩ | ⟨g', cap, cur, rfl, hb, hg', _⟩
  · cases hg
  · obtain rfl : g' = g := by simpa [Value.ownBlock] using hg
    exact ⟨hb, cur, hg'⟩
theorem many_end {w W wr : World} {N : List Nd} {an am : Option Addr} {cn cm k m : Nat} (hk : N.length = k) (hO : W.ownsRow w.heap.size 68 3 (.slice an k cn) k (cellsN N)) (hRe : Recs W N) (hR : W.heap[w.heap.size]? = some (.cells #[.slice none 0 0, .slice none 0 0] 39 (0, 0))) (hwW : w.heap.size + 1 < W.heap.size) (hG : W.heap[w.heap.size + 1]? = some (.cells #[.slice an k cn, .slice none 0 0] 39 (0, 0)))
    (hO2 : wr.ownsRow W.heap.size 70 3 (.slice am m cm) m (cellsT (rowT m))) (hG2 : wr.heap[w.heap.size + 1]? = some (.cells #[.slice an k cn, .slice am m cm] 39 (0, 0))) (hK : ∀ b, b < W.heap.size → b ≠ w.heap.size + 1 → wr.heap[b]? = W.heap[b]?) (hs : W.heap.size ≤ wr.heap.size) (hB : Below w.heap.size w wr) :
    RowN w.heap.size ((wr.setCell ⟨w.heap.size, 0, none⟩ (.slice an k cn)).setCell ⟨w.heap.size, 1, none⟩ (.slice am m cm)) (.slice an k cn) k ∧ IsT ((wr.setCell ⟨w.heap.size, 0, none⟩ (.slice an k cn)).setCell ⟨w.heap.size, 1, none⟩ (.slice am m cm)) (.slice am m cm) (rowT m) ∧ Below w.heap.size w ((wr.setCell ⟨w.heap.size, 0, none⟩ (.slice an k cn)).setCell ⟨w.heap.size, 1, none⟩ (.slice am m cm)) := by
  have hset : ∀ b, b ≠ w.heap.size → ((wr.setCell ⟨w.heap.size, 0, none⟩ (.slice an k cn)).setCell ⟨w.heap.size, 1, none⟩ (.slice am m cm)).heap[b]? = wr.heap[b]? := fun b hb => (heap_setCell_other _ _ _ _ hb).trans (heap_setCell_other _ _ _ _ hb)
  have ty : ∀ {b : Nat} {cs cs' : Array Value} {t t' : TypeId}, W.heap[b]? = some (.cells cs t (0, 0)) → W.heap[b]? = some (.cells cs' t' (0, 0)) → t = t' := fun h h' => by
    rw [h] at h'
    injection h' with h'
    injection h' with _ ht _
  have hkeep : ∀ {b : Nat} {cs : Array Value} {t : TypeId}, t ≠ 39 → W.heap[b]? = some (.cells cs t (0, 0)) → ((wr.setCell ⟨w.heap.size, 0, none⟩ (.slice an k cn)).setCell ⟨w.heap.size, 1, none⟩ (.slice am m cm)).heap[b]? = W.heap[b]? := fun {b cs t} ht h => by
    have h1 : b ≠ w.heap.size := fun e => by subst e; exact ht (ty h hR)
    have h2 : b ≠ w.heap.size + 1 := fun e => by subst e; exact ht (ty h hG)
    exact (hset b h1).trans (hK b (Array.getElem?_eq_some_iff.1 h).1 h2)
  have hown := own_heap hO (w' := (wr.setCell ⟨w.heap.size, 0, none⟩ (.slice an k cn)).setCell ⟨w.heap.size, 1, none⟩ (.slice am m cm)) fun g hg => by
    obtain ⟨_, cs, h⟩ := own_ge hO hg
    exact hkeep (by decide) h
  refine ⟨⟨N, w.heap.size, Nat.le_refl _, hk, ?_, fun j x hx => ?_, hown⟩, ?_, ?_⟩
  · have this := hown
    rw [← hk] at this ⊢
    refine own_isN this (recs_isR fun j x hx => ?_)
    obtain ⟨h1, h2, h3, b, h4, h5⟩ := hRe j x hx
    rw [hk]
    exact ⟨h1, h2, h3, b, h4, (hkeep (by decide) h5).trans h5⟩
  · obtain ⟨h1, h2, h3, _⟩ := hRe j x hx
    exact ⟨h1, h2, h3⟩
  · have := own_heap hO2 (w' := (wr.setCell ⟨w.heap.size, 0, none⟩ (.slice an k cn)).setCell ⟨w.heap.size, 1, none⟩ (.slice am m cm)) fun g hg => by
      obtain ⟨h1, _⟩ := own_ge hO2 hg
      exact hset g (by omega)
    have e := rowT_len m
    exact own_isT (by rw [e]; exact this)
  · exact (hB.setCell (p := ⟨w.heap.size, 0, none⟩) (Nat.le_refl _) _).setCell (p := ⟨w.heap.size, 1, none⟩) (Nat.le_refl _) _
end Go.Proofs.Ytifcpjimhhpcpaa

/-
  A graph of the call's own: how it lies, and what keeps it; appending to nothing; rows of elements of several cells.
-/
namespace Go.Proofs.Ytifcpjimhhpcpaa
open Go.RowKit
set_option linter.unusedVariables false
set_option linter.unusedSimpArgs false

section
variable {α : Type} {f : α → List Value} {sz : Nat}
theorem flatK (h : ∀ x, (f x).length = sz) : ∀ (L : List α) (k : Nat) (x : α) (i : Nat), L[k]? = some x → i < sz → (L.flatMap f)[k * sz + i]? = (f x)[i]?
  | [], k, x, i, hk, _ => by simp at hk
  | y :: r, 0, x, i, hk, hi => by
    simp at hk; subst hk
    rw [List.flatMap_cons, List.getElem?_append_left (by rw [h]; omega)]
    simp
  | y :: r, k + 1, x, i, hk, hi => by
    rw [List.flatMap_cons, List.getElem?_append_right (by rw [h, Nat.add_mul]; omega), h]
    have := flatK h r k x i (by simpa using hk) hi
    rw [← this]
    congr 1
    rw [Nat.add_mul]; omega
theorem flatK_len (h : ∀ x, (f x).length = sz) : ∀ L : List α, (L.flatMap f).length = L.length * sz
  | [] => by simp
  | y :: r => by rw [List.flatMap_cons, List.length_append, h, flatK_len h r, List.length_cons, Nat.add_mul]; omega
theorem flatK_inv (h : ∀ x, (f x).length = sz) (L : List α) {j : Nat} {u : Value} (hu : (L.flatMap f)[j]? = some u) : ∃ k x i, L[k]? = some x ∧ i < sz ∧ j = k * sz + i ∧ (f x)[i]? = some u := by
  have hj := (List.getElem?_eq_some_iff.1 hu).1
  rw [flatK_len h] at hj
  have hsz : 0 < sz := Nat.pos_of_ne_zero (fun e => by subst e; simp at hj)
  have hk : j / sz < L.length := Nat.div_lt_of_lt_mul (by rw [Nat.mul_comm]; exact hj)
  have hi : j % sz < sz := Nat.mod_lt _ hsz
  have hji : j = j / sz * sz + j % sz := by rw [Nat.mul_comm]; exact (Nat.div_add_mod j sz).symm
  refine ⟨j / sz, L[j / sz], j % sz, by simp [hk], hi, hji, ?_⟩
  rw [← flatK h L (j / sz) _ (j % sz) (by simp [hk]) hi, ← hji]
  exact hu
theorem flatK_take (h : ∀ x, (f x).length = sz) (L : List α) (k : Nat) : (L.take k).flatMap f = (L.flatMap f).take (k * sz) := by
  induction L generalizing k with
  | nil => simp
  | cons y r ih =>
    cases k with
    | zero => simp
    | succ k =>
      rw [List.take_succ_cons, List.flatMap_cons, ih, List.flatMap_cons, List.take_append, h, List.take_of_length_le (l := f y) (by rw [h, Nat.add_mul]; omega), show (k + 1) * sz - sz = k * sz by rw [Nat.add_mul]; omega]
theorem flatK_drop (h : ∀ x, (f x).length = sz) (L : List α) (k : Nat) : (L.drop k).flatMap f = (L.flatMap f).drop (k * sz) := by
  induction L generalizing k with
  | nil => simp
  | cons y r ih =>
    cases k with
    | zero => simp
    | succ k =>
      rw [List.drop_succ_cons, ih, List.flatMap_cons, List.drop_append, h, show List.drop ((k + 1) * sz) (f y) = [] from List.drop_eq_nil_of_le (by rw [h, Nat.add_mul]; omega), List.nil_append, show (k + 1) * sz - sz = k * sz by rw [Nat.add_mul]; omega]
/-- One element is another one: its cells are. -/
theorem flatK_set (h : ∀ x, (f x).length = sz) (L : List α) (k : Nat) (x : α) (hk : k < L.length) : (L.set k x).flatMap f = (L.flatMap f).take (k * sz) ++ f x ++ (L.flatMap f).drop ((k + 1) * sz) := by
  rw [List.set_eq_take_append_cons_drop, if_pos hk, List.flatMap_append, List.flatMap_cons, flatK_take h, flatK_drop h, List.append_assoc]
end

theorem nd_len (n : Nd) : n.cells.length = 3 := rfl
theorem te_len (t : Te) : t.cells.length = 3 := rfl
theorem pr_len (p : Pr) : p.cells.length = 4 := rfl
def cellsR (L : List Pr) : List Value := L.flatMap Pr.cells
theorem pr_one (L : List Pr) : ∀ u ∈ cellsR L, u.oneCell' = true := by
  intro u hu
  obtain ⟨p, _, hp⟩ := List.mem_flatMap.1 hu
  simp [Pr.cells] at hp
  rcases hp with rfl | rfl | rfl | rfl <;> rfl
theorem te_one (L : List Te) : ∀ u ∈ cellsT L, u.oneCell' = true := by
  intro u hu
  obtain ⟨p, _, hp⟩ := List.mem_flatMap.1 hu
  simp [Te.cells] at hp
  rcases hp with rfl | rfl | rfl <;> rfl
/-- The nodes' records are slices. -/
def SlN (N : List Nd) : Prop := ∀ n ∈ N, ∃ a l c, n.rv = .slice a l c
theorem nd_one {N : List Nd} (h : SlN N) : ∀ u ∈ cellsN N, u.oneCell' = true := by
  intro u hu
  obtain ⟨p, hp0, hp⟩ := List.mem_flatMap.1 hu
  obtain ⟨a, l, c, e⟩ := h p hp0
  simp [Nd.cells, e] at hp
  rcases hp with rfl | rfl | rfl <;> rfl

/-- A record of the call's own. -/
def OwnRc (w : World) (base : Nat) (v : Value) (L : List Pr) : Prop := w.ownsRow base 64 4 v L.length (cellsR L)
/-- Nodes of the call's own, their records, too. -/
def OwnNs (w : World) (base : Nat) (v : Value) (N : List Nd) : Prop := w.ownsRow base 68 3 v N.length (cellsN N) ∧ ∀ n ∈ N, OwnRc w base n.rv n.rc
def OwnTs (w : World) (base : Nat) (v : Value) (T : List Te) : Prop := w.ownsRow base 70 3 v T.length (cellsT T)
/-- A graph of the call's own behind a pointer. -/
def OG (w : World) (base p : Nat) (N : List Nd) (T : List Te) : Prop := ∃ vn vt, base ≤ p ∧ w.heap[p]? = some (.cells #[vn, vt] 39 (0, 0)) ∧ OwnNs w base vn N ∧ OwnTs w base vt T
theorem OwnRc.kt {w w' : World} {base : Nat} {v : Value} {L : List Pr} (h : OwnRc w base v L) (hk : Kt 64 w w') : OwnRc w' base v L := own_kt h hk
theorem OwnNs.kt {w w' : World} {base : Nat} {v : Value} {N : List Nd} (h : OwnNs w base v N) (hk : Kt 68 w w') (hr : Kt 64 w w') : OwnNs w' base v N := ⟨own_kt h.1 hk, fun n hn => (h.2 n hn).kt hr⟩
theorem OwnTs.kt {w w' : World} {base : Nat} {v : Value} {T : List Te} (h : OwnTs w base v T) (hk : Kt 70 w w') : OwnTs w' base v T := own_kt h hk
theorem OG.on {w w' : World} {base p : Nat} {N : List Nd} {T : List Te} (h : OG w base p N T) (hB : Below w.heap.size w w') : OG w' base p N T := by
  obtain ⟨vn, vt, h1, h2, h3, h4⟩ := h
  exact ⟨vn, vt, h1, (hB.block p (Array.getElem?_eq_some_iff.1 h2).1).trans h2, h3.kt (.of_below hB) (.of_below hB), h4.kt (.of_below hB)⟩
theorem OwnRc.sl {w : World} {base : Nat} {v : Value} {L : List Pr} (h : OwnRc w base v L) : ∃ a l c, v = .slice a l c := by
  obtain ⟨ao, cp, rfl⟩ := own_slice h
  exact ⟨_, _, _, rfl⟩
theorem OwnNs.sl {w : World} {base : Nat} {v : Value} {N : List Nd} (h : OwnNs w base v N) : SlN N := fun n hn => (h.2 n hn).sl
theorem OwnRc.isR {w : World} {base : Nat} {v : Value} {L : List Pr} (h : OwnRc w base v L) : IsR w v L := by
  have hc : ∀ g, v.ownBlock = some g → ∀ j u, (cellsR L)[j]? = some u → w.cell? ((⟨g, 0, none⟩ : Addr).add j) = some u := fun g hg => World.ownsRow.cells h hg
  rcases h.2 with ⟨rfl, h0⟩ | ⟨g, cap, cur, rfl, hb, hg, hle, hm, rest⟩
  · exact ⟨none, 0, by rw [h0], .inl (List.eq_nil_of_length_eq_zero h0)⟩
  · refine ⟨_, cap, rfl, .inr ⟨g, 0, rfl, (Array.getElem?_eq_some_iff.1 hg).1, fun k p hp => ?_⟩⟩
    have c : ∀ i u, i < 4 → p.cells[i]? = some u → w.cell? ⟨g, 0 + (k * 4 + i), none⟩ = some u := fun i u hi hu => by
      have := hc g rfl (k * 4 + i) u ((flatK pr_len L k p i hp hi).trans hu)
      rwa [Addr.add_lit] at this
    exact ⟨c 0 _ (by omega) rfl, c 1 _ (by omega) rfl, c 2 _ (by omega) rfl, c 3 _ (by omega) rfl⟩
theorem OwnNs.isN {w : World} {base : Nat} {v : Value} {N : List Nd} (h : OwnNs w base v N) : IsN w v N := own_isN h.1 fun n hn => (h.2 n hn).isR
theorem OwnTs.isT {w : World} {base : Nat} {v : Value} {T : List Te} (h : OwnTs w base v T) : IsT w v T := own_isT h

/-- What a slice holds, cell by cell; one that has nothing may lie anywhere. -/
def HasC (w : World) (v : Value) (n : Nat) (xs : List Value) : Prop := ∃ ao c, v = .slice ao n c ∧ ((n = 0 ∧ xs = []) ∨ ∃ b off, ao = some ⟨b, off, none⟩ ∧ b < w.heap.size ∧ ∀ j u, xs[j]? = some u → w.cell? ((⟨b, off, none⟩ : Addr).add j) = some u)
theorem HasC.on {w w' : World} {v : Value} {n : Nat} {xs : List Value} (h : HasC w v n xs) (hB : Below w.heap.size w w') : HasC w' v n xs := by
  obtain ⟨ao, c, rfl, h0 | ⟨b, off, rfl, hb, hL⟩⟩ := h
  · exact ⟨ao, c, rfl, .inl h0⟩
  · refine ⟨_, c, rfl, .inr ⟨b, off, rfl, Nat.lt_of_lt_of_le hb hB.size, fun j u hu => ?_⟩⟩
    have := hL j u hu
    rw [Addr.add_lit] at this ⊢
    exact (hB.cell hb).trans this
theorem IsR.has {w : World} {v : Value} {L : List Pr} (h : IsR w v L) : HasC w v L.length (cellsR L) := by
  obtain ⟨ao, c, rfl, rfl | ⟨b, off, rfl, hb, hL⟩⟩ := h
  · exact ⟨ao, c, rfl, .inl ⟨rfl, rfl⟩⟩
  · refine ⟨_, c, rfl, .inr ⟨b, off, rfl, hb, fun j u hu => ?_⟩⟩
    obtain ⟨k, x, i, hk, hi, rfl, hx⟩ := flatK_inv pr_len L hu
    obtain ⟨c0, c1, c2, c3⟩ := hL k x hk
    rw [Addr.add_lit, ← Nat.add_assoc]
    match i, hi with
    | 0, _ => exact c0.trans hx
    | 1, _ => exact c1.trans hx
    | 2, _ => exact c2.trans hx
    | 3, _ => exact c3.trans hx
theorem IsN.has {w : World} {v : Value} {L : List Nd} (h : IsN w v L) : HasC w v L.length (cellsN L) := by
  obtain ⟨ao, c, rfl, _, rfl | ⟨b, off, rfl, hb, hL⟩⟩ := h
  · exact ⟨ao, c, rfl, .inl ⟨rfl, rfl⟩⟩
  · refine ⟨_, c, rfl, .inr ⟨b, off, rfl, hb, fun j u hu => ?_⟩⟩
    obtain ⟨k, x, i, hk, hi, rfl, hx⟩ := flatK_inv nd_len L hu
    obtain ⟨c0, c1, c2, _⟩ := hL k x hk
    rw [Addr.add_lit, ← Nat.add_assoc]
    match i, hi with
    | 0, _ => exact c0.trans hx
    | 1, _ => exact c1.trans hx
    | 2, _ => exact c2.trans hx
theorem IsT.has {w : World} {v : Value} {L : List Te} (h : IsT w v L) : HasC w v L.length (cellsT L) := by
  obtain ⟨ao, c, rfl, _, rfl | ⟨b, off, rfl, hb, hL⟩⟩ := h
  · exact ⟨ao, c, rfl, .inl ⟨rfl, rfl⟩⟩
  · refine ⟨_, c, rfl, .inr ⟨b, off, rfl, hb, fun j u hu => ?_⟩⟩
    obtain ⟨k, x, i, hk, hi, rfl, hx⟩ := flatK_inv te_len L hu
    obtain ⟨c0, c1, c2⟩ := hL k x hk
    rw [Addr.add_lit, ← Nat.add_assoc]
    match i, hi with
    | 0, _ => exact c0.trans hx
    | 1, _ => exact c1.trans hx
    | 2, _ => exact c2.trans hx
theorem IsR.sl {w : World} {v : Value} {L : List Pr} (h : IsR w v L) : ∃ a l c, v = .slice a l c := by
  obtain ⟨ao, c, rfl, _⟩ := h
  exact ⟨_, _, _, rfl⟩
theorem IsN.sl {w : World} {v : Value} {N : List Nd} (h : IsN w v N) : SlN N := by
  obtain ⟨ao, c, rfl, _, rfl | ⟨b, off, rfl, hb, hL⟩⟩ := h
  · intro n hn; cases hn
  · intro n hn
    obtain ⟨k, hk⟩ := List.getElem?_of_mem hn
    exact (hL k n hk).2.2.2.sl

section
variable {P : Program}
theorem run_append_nothing (w : World) (t ty e : TypeId) (i : TypeInfo) (ht : P.underlying t = some (.slice e)) (hi : P.info? e = some i) (ao : Option Addr) (c : Nat) :
    (Builtin.append_ #[t, t] ty #[.slice none 0 0, .slice ao 0 c]).run P w = .ok (.slice none 0 0) w := by
  cases ao <;> simp [Builtin.append_, run_underlying ht, sizeOf, typeInfo, hi, Builtin.lenOf, Builtin.firstCells, loadCells, loadCellsFrom]
/-- append(nil, x...): a copy of the call's own. -/
theorem run_clone (w : World) (base : Nat) (t ty e : TypeId) (i : TypeInfo) (z : Value) (size bytes : Nat) (ht : P.underlying t = some (.slice e)) (hi : P.info? e = some i) (hz : i.zero = some z)
    (hsize : i.size = size) (hby : i.bytes = bytes) (hzs : z.cells.size = size) (hsz : 0 < size) (u : Value) (m : Nat) (news : List Value) (hx : HasC w u m news) (hl : news.length = m * size) (h1 : ∀ u ∈ news, u.oneCell' = true)
    (h63 : m ≤ maxLen) (hbytes : m * bytes ≤ 140737488355328) (hbase : base ≤ w.heap.size) :
    ∃ v' w', (Builtin.append_ #[t, t] ty #[.slice none 0 0, u]).run P w = .ok v' w' ∧ w'.ownsRow base e size v' m news ∧ w.grownBy w' none := by
  obtain ⟨ao, c, rfl, ⟨rfl, rfl⟩ | ⟨b, off, rfl, hb, hL⟩⟩ := hx
  · exact ⟨_, w, run_append_nothing w t ty e i ht hi ao c, World.ownsRow_nil _ _ _ _, ⟨rfl, rfl, rfl, Nat.le_refl _, fun _ _ _ => rfl⟩⟩
  · obtain ⟨v', w', r1, r2, r3, _⟩ := run_append_own (P := P) w base t ty e i z size bytes ht hi hz hsize hby hzs hsz (.slice none 0 0) 0 [] (World.ownsRow_nil _ _ _ _) ⟨b, off, none⟩ m c news hl hL h1 (by omega) (by rw [Nat.zero_add]; exact hbytes) hbase
    refine ⟨v', w', r1, ?_, r3⟩
    simpa using r2
theorem wp_append_E {w : World} {o : Oper} {a : Act} {K : Act → World → Prop} {Q : Exit → Act → World → Prop} (s x : Operand) (t : TypeId) (ho : o.op = .call { callee := .builtin .append, args := #[s, x], argTypes := #[t, t] })
    (v u : Value) (hs : a.eval s = v) (hx : a.eval x = u) {R : Value → World → Prop} (hr : ∃ v' w', (Builtin.append_ #[t, t] o.type #[v, u]).run P w = .ok v' w' ∧ R v' w') (hK : ∀ v' w', R v' w' → K (a.put o.dst v') w') : o.wp P a w K Q := by
  obtain ⟨v', w', hr, r2⟩ := hr
  unfold Oper.wp execOp
  simp only [ho, resolve, invoke, builtin, Sem.run_bind, Sem.run_pure, Result.andThen_ok, List.map_toArray, List.map_cons, List.map_nil, hs, hx, hr]
  exact hK v' w' r2
theorem wpList_append_E {w : World} {ops : Array Oper} {rest : List Oper} {o : Oper} {a : Act} {Q : Exit → Act → World → Prop} (hg : o.guard = none) (s x : Operand) (t : TypeId) (ho : o.op = .call { callee := .builtin .append, args := #[s, x], argTypes := #[t, t] })
    (v u : Value) (hs : a.eval s = v) (hx : a.eval x = u) {R : Value → World → Prop} (hr : ∃ v' w', (Builtin.append_ #[t, t] o.type #[v, u]).run P w = .ok v' w' ∧ R v' w') (hK : ∀ v' w', R v' w' → wpList P ops Q rest (a.put o.dst v') w') : wpList P ops Q (o :: rest) a w :=
  wpList_plain hg fun K hK' => wp_append_E s x t ho v u hs hx hr (fun v' w' r => hK' _ _ (hK v' w' r))
theorem step_append_E {w : World} {ops : Array Oper} {o : Oper} {a : Act} {K : Act → World → Prop} {Q : Exit → Act → World → Prop} {E : Prop} (hg : o.guard = none) (s x : Operand) (t : TypeId) (ho : o.op = .call { callee := .builtin .append, args := #[s, x], argTypes := #[t, t] })
    (v u : Value) (hs : a.eval s = v) (hx : a.eval x = u) {R : Value → World → Prop} (hr : ∃ v' w', (Builtin.append_ #[t, t] o.type #[v, u]).run P w = .ok v' w' ∧ R v' w') (hK : ∀ v' w', R v' w' → K (a.put o.dst v') w') :
    if Region.wanted o (yielded ops a.tmps) = true then Oper.wp P o a w K Q else E := by
  have hw : Region.wanted o (yielded ops a.tmps) = true := by simp [Region.wanted, hg]
  rw [if_pos hw]
  exact wp_append_E s x t ho v u hs hx hr hK
end
theorem infoP : (Try.prog.info? 64).map (fun i => (i.zero, i.size, i.bytes)) = some (some (.agg #[.string ⟨#[]⟩, .int .i64 0, .int .i64 0, .string ⟨#[]⟩]), 4, 48) := by kernel_rfl
theorem clone_rec (w : World) (base : Nat) (hb : base ≤ w.heap.size) {v : Value} {L : List Pr} (h : IsR w v L) (hl : L.length ≤ 1000) (ty : TypeId) :
    ∃ v' w', (Builtin.append_ #[66, 66] ty #[.slice none 0 0, v]).run Try.prog w = .ok v' w' ∧ (OwnRc w' base v' L ∧ w.grownBy w' none) := by
  obtain ⟨i0, hi0, hz0, hz1, hz2⟩ := info_parts infoP
  exact run_clone w base 66 ty 64 i0 _ 4 48 Try.underlying66 hi0 hz0 hz1 hz2 rfl (by decide) v _ _ h.has (flatK_len pr_len L) (pr_one L) (by unfold maxLen; omega) (by omega) hb
theorem clone_nodes (w : World) (base : Nat) (hb : base ≤ w.heap.size) {v : Value} {L : List Nd} (h : IsN w v L) (hl : L.length ≤ 1000) (ty : TypeId) :
    ∃ v' w', (Builtin.append_ #[36, 36] ty #[.slice none 0 0, v]).run Try.prog w = .ok v' w' ∧ (w'.ownsRow base 68 3 v' L.length (cellsN L) ∧ w.grownBy w' none) := by
  obtain ⟨i0, hi0, hz0, hz1, hz2⟩ := info_parts infoN
  exact run_clone w base 36 ty 68 i0 _ 3 48 Try.underlying36 hi0 hz0 hz1 hz2 rfl (by decide) v _ _ h.has (flatK_len nd_len L) (nd_one h.sl) (by unfold maxLen; omega) (by omega) hb
theorem clone_ties (w : World) (base : Nat) (hb : base ≤ w.heap.size) {v : Value} {L : List Te} (h : IsT w v L) (hl : L.length ≤ 1000) (ty : TypeId) :
    ∃ v' w', (Builtin.append_ #[37, 37] ty #[.slice none 0 0, v]).run Try.prog w = .ok v' w' ∧ (OwnTs w' base v' L ∧ w.grownBy w' none) := by
  obtain ⟨i0, hi0, hz0, hz1, hz2⟩ := info_parts infoT
  exact run_clone w base 37 ty 70 i0 _ 3 32 Try.underlying37 hi0 hz0 hz1 hz2 rfl (by decide) v _ _ h.has (flatK_len te_len L) (te_one L) (by unfold maxLen; omega) (by omega) hb
end Go.Proofs.Ytifcpjimhhpcpaa
