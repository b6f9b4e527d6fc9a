/-
  The walk of many: nodes and ties in a row.
-/
import Derived.Test.YteabdlandbmdaaaDoorM05
import Derived.Laws.OwnMore
import Derived.Laws.AppendOwnNone
import Derived.Laws.ResultCell
import Derived.Lib.Hide
import Derived.Deep.RegionLaw
namespace Go.Proofs.YteabdlandbmdaaaDoor
open Go.RowKit
set_option linter.unusedVariables false
set_option linter.unusedSimpArgs false

theorem number_any (k : Int) (w : World) : Calls Tryd.prog 12 #[.int .i64 k] w fun e w' => e = .returned (.agg #[.int .i64 1, .int .i64 k, .string ⟨#[]⟩]) ∧ w' = w.alloc (.cells #[.int .i64 1, .int .i64 k, .string ⟨#[]⟩] 50) := by
  go_enter Tryd.func12, Tryd.ntmps12
  go_wp2
  exact bodyPost_ret (v := .agg #[.int .i64 1, .int .i64 k, .string ⟨#[]⟩]) (by simp [results, Tryd.results12, go_sem]) rfl ⟨rfl, rfl⟩

def prK (i : Int) : Pr := ⟨⟨#[107]⟩, 1, i, ⟨#[]⟩⟩
def Nd.cells (n : Nd) : List Value := [.int .i64 n.id, .string n.kd, n.rv]
def cellsN (N : List Nd) : List Value := N.flatMap Nd.cells
def Te.cells (t : Te) : List Value := [.string t.bd, .int .i64 t.fr, .int .i64 t.tt]
def cellsT (T : List Te) : List Value := T.flatMap Te.cells
theorem infoN : (Tryd.prog.info? 40).map (fun i => (i.zero, i.size, i.bytes)) = some (some (.agg #[.int .i64 0, .string ⟨#[]⟩, .slice none 0 0]), 3, 48) := by kernel_rfl
theorem infoT : (Tryd.prog.info? 47).map (fun i => (i.zero, i.size, i.bytes)) = some (some (.agg #[.string ⟨#[]⟩, .int .i64 0, .int .i64 0]), 3, 32) := by kernel_rfl
def Recs (w : World) (N : List Nd) : Prop :=
  ∀ (j : Nat) (n : Nd), N[j]? = some n → n.id = ((j : Int) + 1) ∧ n.kd = ⟨#[97]⟩ ∧ n.rc = [prK ((j : Int) + 1)] ∧ ∃ b, n.rv = .slice (some ⟨b, 0, none⟩) 1 1 ∧ w.heap[b]? = some (.cells #[.string ⟨#[107]⟩, .int .i64 1, .int .i64 ((j : Int) + 1), .string ⟨#[]⟩] 53 (0, 0))
def M1 (w : World) (n : Nat) (i : Value) (wr : World) : Prop :=
  ∃ (N : List Nd) (v : Value), N.length ≤ n ∧ i = .int .i64 ((N.length : Int) + 1) ∧ wr.ownsRow w.heap.size 40 3 v N.length (cellsN N) ∧ wr.heap[w.heap.size + 1]? = some (.cells #[v, .slice none 0 0] 25 (0, 0)) ∧ wr.heap[w.heap.size]? = some (.cells #[.slice none 0 0, .slice none 0 0] 25 (0, 0)) ∧ Recs wr N ∧ Below w.heap.size w wr
theorem cell_of {w : World} {b i : Nat} {cs : Array Value} {t : TypeId} {u : Value} (h : w.heap[b]? = some (.cells cs t (0, 0))) (hu : cs[i]? = some u) : w.cell? ⟨b, i, none⟩ = some u := by simp [World.cell?, h, hu]
theorem frz_of {w : World} {b i : Nat} {cs : Array Value} {t : TypeId} (h : w.heap[b]? = some (.cells cs t (0, 0))) : w.frozen? ⟨b, i, none⟩ = false := by simp [World.frozen?, h]

theorem step_append_ownF {P : Program} {ops : Array Oper} {o : Oper} {a : Act} {w : World} {K : Act → World → Prop} {Q : Exit → Act → World → Prop} {E : Prop}
    (hg : o.guard = none) (s x : Operand) (t : TypeId) (ho : o.op = .call { callee := .builtin .append, args := #[s, x], argTypes := #[t, t] })
    (base : Nat) (e : TypeId) (i : TypeInfo) (z : Value) (size bytes : Nat) (ht : P.underlying t = some (.slice e)) (hi : P.info? e = some i) (hz : i.zero = some z)
    (hsize : i.size = size) (hby : i.bytes = bytes) (hzs : z.cells.size = size) (hsz : 0 < size)
    (v : Value) (n : Nat) (xs : List Value) (hs : a.eval s = v) (hown : w.ownsRow base e size v n xs)
    (ad : Addr) (m c : Nat) (news : List Value) (hx : a.eval x = .slice (some ad) m c) (hl : news.length = m * size) (hnews : ∀ j u, news[j]? = some u → w.cell? (ad.add j) = some u) (h1 : ∀ u ∈ news, u.oneCell' = true)
    (h63 : n + m ≤ maxLen) (hbytes : (n + m) * bytes ≤ 140737488355328) (hbase : base ≤ w.heap.size)
    (hK : ∀ v' w', w'.ownsRow base e size v' (n + m) (xs ++ news) → w.grownBy w' v.ownBlock → K (a.put o.dst v') w') :
    if Region.wanted o (yielded ops a.tmps) = true then Oper.wp P o a w K Q else E := by
  have hw : Region.wanted o (yielded ops a.tmps) = true := by simp [Region.wanted, hg]
  rw [if_pos hw]
  exact wp_append_own w s x t ho base e i z size bytes ht hi hz hsize hby hzs hsz v n xs hs hown ad m c news hx hl hnews h1 h63 hbytes hbase (fun v' w' h2 h3 _ => hK v' w' h2 h3)
theorem row_apart {w : World} {base : Nat} {e t : TypeId} {size : Nat} {v : Value} {n : Nat} {xs : List Value} (h : w.ownsRow base e size v n xs) {b : Nat} {cs : Array Value} (hb : w.heap[b]? = some (.cells cs t (0, 0))) (hne : t ≠ e) : v.ownBlock ≠ some b := by
  rcases h.2 with ⟨rfl, _⟩ | ⟨g, cap, cur, rfl, _, hg, _⟩
  · intro h; cases h
  · intro h
    have : g = b := by simpa [Value.ownBlock] using h
    subst this
    rw [hg] at hb
    injection hb with hb
    injection hb with _ ht _
    exact hne ht.symm
abbrev ndK (k b : Nat) : Nd := ⟨((k : Int) + 1), ⟨#[97]⟩, .slice (some ⟨b, 0, none⟩) 1 1, [prK ((k : Int) + 1)]⟩
abbrev wK (wr : World) (k : Nat) : World := (((wr.alloc (.cells #[.int .i64 1, .int .i64 ((k : Int) + 1), .string ⟨#[]⟩] 50)).alloc (.cells #[.string ⟨#[107]⟩, .int .i64 1, .int .i64 ((k : Int) + 1), .string ⟨#[]⟩] 53)).alloc (.cells #[.int .i64 ((k : Int) + 1), .string ⟨#[97]⟩, .slice (some ⟨wr.heap.size + 1, 0, none⟩) 1 1] 40)).drew

theorem bK (wr : World) (k : Nat) : Below wr.heap.size wr (wK wr k) := b_drew (b_alloc (b_alloc (b_alloc (Below.refl _ _) _) _) _)
theorem own_drew {w : World} {base : Nat} {e : TypeId} {size : Nat} {v : Value} {n : Nat} {xs : List Value} (h : w.ownsRow base e size v n xs) : w.drew.ownsRow base e size v n xs := h
theorem own_set {w : World} {base : Nat} {e : TypeId} {size : Nat} {v : Value} {n : Nat} {xs : List Value} (h : w.ownsRow base e size v n xs) {G : Nat} (hne : v.ownBlock ≠ some G) (i : Nat) (u : Value) : (w.setCell ⟨G, i, none⟩ u).ownsRow base e size v n xs := by
  refine ⟨h.1, ?_⟩
  rcases h.2 with h | ⟨g, cap, cur, rfl, hb, hg, rest⟩
  · exact .inl h
  · exact .inr ⟨g, cap, cur, rfl, hb, (heap_setCell_other w ⟨G, i, none⟩ g u (fun e => hne (by rw [e]; rfl))).trans hg, rest⟩
theorem cellsN_snoc (N : List Nd) (n : Nd) : cellsN (N ++ [n]) = cellsN N ++ n.cells := by simp [cellsN]
theorem cellsT_snoc (T : List Te) (t : Te) : cellsT (T ++ [t]) = cellsT T ++ t.cells := by simp [cellsT]
set_option maxRecDepth 100000 in
theorem m1_step {w wr w1 : World} {N : List Nd} {v : Value} {a1 : Option Addr} {c1 k n : Nat} (hk : N.length = k) (hlt : k < n) (hRe : Recs wr N) (hB : Below w.heap.size w wr) (hG : wr.heap[w.heap.size + 1]? = some (.cells #[v, .slice none 0 0] 25 (0, 0))) (hR : wr.heap[w.heap.size]? = some (.cells #[.slice none 0 0, .slice none 0 0] 25 (0, 0)))
    (hO : wr.ownsRow w.heap.size 40 3 v k (cellsN N)) (hown1 : w1.ownsRow w.heap.size 40 3 (.slice a1 (k + 1) c1) (k + 1) (cellsN N ++ (ndK k (wr.heap.size + 1)).cells)) (hgrow1 : (wK wr k).grownBy w1 v.ownBlock) :
    M1 w n (.int .i64 ((k : Int) + 1 + 1)) (w1.setCell ⟨w.heap.size + 1, 0, none⟩ (.slice a1 (k + 1) c1)) := by
  have hgl : w.heap.size + 1 < wr.heap.size := (Array.getElem?_eq_some_iff.1 hG).1
  have hold : ∀ (b : Nat) (cs : Array Value) (t : TypeId), t ≠ 40 → wr.heap[b]? = some (.cells cs t (0, 0)) → w1.heap[b]? = some (.cells cs t (0, 0)) := fun b cs t ht hb => by
    have hl : b < wr.heap.size := (Array.getElem?_eq_some_iff.1 hb).1
    exact (hgrow1.block b (Nat.lt_of_lt_of_le hl (bK wr k).size) (fun h => row_apart hO hb ht h.symm)).trans (((bK wr k).block b hl).trans hb)
  have hG1 := hold _ _ _ (by decide) hG
  have hR1 := hold _ _ _ (by decide) hR
  have hrec : w1.heap[wr.heap.size + 1]? = some (.cells #[.string ⟨#[107]⟩, .int .i64 1, .int .i64 ((k : Int) + 1), .string ⟨#[]⟩] 53 (0, 0)) := by
    have e1 : (wK wr k).heap[wr.heap.size + 1]? = some (.cells #[.string ⟨#[107]⟩, .int .i64 1, .int .i64 ((k : Int) + 1), .string ⟨#[]⟩] 53 (0, 0)) := by
      have h1 := heap_alloc_new (wr.alloc (.cells #[.int .i64 1, .int .i64 ((k : Int) + 1), .string ⟨#[]⟩] 50)) (.cells #[.string ⟨#[107]⟩, .int .i64 1, .int .i64 ((k : Int) + 1), .string ⟨#[]⟩] 53)
      rw [World.size_alloc] at h1
      exact (Below.heap_alloc _ _ _ (by simp)).trans h1
    have hne : some (wr.heap.size + 1) ≠ v.ownBlock := by
      rcases hO.2 with ⟨rfl, _⟩ | ⟨g, cap, cur, rfl, _, hg, _⟩
      · intro h; cases h
      · intro h
        have : wr.heap.size + 1 = g := by simpa [Value.ownBlock] using h
        have := (Array.getElem?_eq_some_iff.1 hg).1
        omega
    exact (hgrow1.block _ (by simp [wK]) hne).trans e1
  refine ⟨N ++ [ndK k (wr.heap.size + 1)], .slice a1 (k + 1) c1, by simp; omega, by simp [hk], ?_, ?_, ?_, ?_, ?_⟩
  · rw [List.length_append, List.length_singleton, hk, cellsN_snoc]
    exact own_set hown1 (row_apart hown1 hG1 (by decide)) _ _
  · exact (heap_setCell_same w1 (w.heap.size + 1) 0 _ 25 _ hG1).trans rfl
  · exact (heap_setCell_other w1 _ _ _ (by simp)).trans hR1
  · intro j n' hn'
    by_cases hj : j < k
    · rw [List.getElem?_append_left (by omega)] at hn'
      obtain ⟨h1, h2, h3, b, h4, h5⟩ := hRe j n' hn'
      refine ⟨h1, h2, h3, b, h4, (heap_setCell_other w1 _ _ _ ?_).trans (hold b _ _ (by decide) h5)⟩
      intro e
      simp only at e
      rw [e, hG] at h5
      injection h5 with h5
      injection h5 with _ ht _
      cases ht
    · have hjl : j < k + 1 := by
        have := (List.getElem?_eq_some_iff.1 hn').1
        simp at this; omega
      obtain rfl : j = k := by omega
      rw [List.getElem?_append_right (by omega), hk, Nat.sub_self] at hn'
      obtain rfl : ndK j (wr.heap.size + 1) = n' := by simpa using hn'
      refine ⟨rfl, rfl, rfl, _, rfl, (heap_setCell_other w1 _ _ _ ?_).trans hrec⟩
      simp; omega
  · exact ((hB.trans ((bK wr k).mono hB.size)).grown hgrow1 (by have := (bK wr k).size; omega) (fun g hg => (hO.lt g hg).1)).setCell (p := ⟨w.heap.size + 1, 0, none⟩) (by simp) _

def tK (j : Nat) : Te := ⟨⟨#[112]⟩, (j : Int) + 1, (j : Int) + 1 + 1⟩
def rowT (k : Nat) : List Te := (List.range k).map tK
theorem rowT_s (k : Nat) : rowT (k + 1) = rowT k ++ [tK k] := by simp [rowT, List.range_succ]
theorem rowT_len (k : Nat) : (rowT k).length = k := by simp [rowT]
def M2 (w W : World) (vN : Value) (m : Nat) (i : Value) (wr : World) : Prop :=
  ∃ (k : Nat) (v : Value), k ≤ m ∧ i = .int .i64 ((k : Int) + 1) ∧ wr.ownsRow W.heap.size 47 3 v k (cellsT (rowT k)) ∧ wr.heap[w.heap.size + 1]? = some (.cells #[vN, v] 25 (0, 0)) ∧ (∀ b, b < W.heap.size → b ≠ w.heap.size + 1 → wr.heap[b]? = W.heap[b]?) ∧ W.heap.size ≤ wr.heap.size ∧ Below w.heap.size w wr
theorem m2_step {w W wr w1 : World} {vN v : Value} {a1 : Option Addr} {c1 k m : Nat} (hlt : k < m) (hwW : w.heap.size + 1 < W.heap.size) (hO : wr.ownsRow W.heap.size 47 3 v k (cellsT (rowT k))) (hG : wr.heap[w.heap.size + 1]? = some (.cells #[vN, v] 25 (0, 0))) (hK : ∀ b, b < W.heap.size → b ≠ w.heap.size + 1 → wr.heap[b]? = W.heap[b]?) (hs : W.heap.size ≤ wr.heap.size) (hB : Below w.heap.size w wr)
    (hown1 : w1.ownsRow W.heap.size 47 3 (.slice a1 (k + 1) c1) (k + 1) (cellsT (rowT k) ++ (tK k).cells)) (hgrow1 : (wr.alloc (.cells #[.string ⟨#[112]⟩, .int .i64 ((k : Int) + 1), .int .i64 ((k : Int) + 1 + 1)] 47)).grownBy w1 v.ownBlock) :
    M2 w W vN m (.int .i64 ((k : Int) + 1 + 1)) (w1.setCell ⟨w.heap.size + 1, 1, none⟩ (.slice a1 (k + 1) c1)) := by
  have hgl : w.heap.size + 1 < wr.heap.size := (Array.getElem?_eq_some_iff.1 hG).1
  have hb1 : Below wr.heap.size wr (wr.alloc (.cells #[.string ⟨#[112]⟩, .int .i64 ((k : Int) + 1), .int .i64 ((k : Int) + 1 + 1)] 47)) := b_alloc (Below.refl _ _) _
  have hown : ∀ g, v.ownBlock = some g → W.heap.size ≤ g := fun g hg => (hO.lt g hg).1
  have hold : ∀ b, b < W.heap.size → w1.heap[b]? = wr.heap[b]? := fun b hb =>
    (hgrow1.block b (Nat.lt_of_lt_of_le (Nat.lt_of_lt_of_le hb hs) hb1.size) (fun h => by have := hown b h.symm; omega)).trans (hb1.block b (Nat.lt_of_lt_of_le hb hs))
  have hG1 := (hold _ hwW).trans hG
  refine ⟨k + 1, .slice a1 (k + 1) c1, by omega, by simp, ?_, ?_, ?_, ?_, ?_⟩
  · rw [rowT_s, cellsT_snoc]
    exact own_set hown1 (row_apart hown1 hG1 (by decide)) _ _
  · exact (heap_setCell_same w1 (w.heap.size + 1) 1 _ 25 _ hG1).trans rfl
  · intro b hb hne
    exact (heap_setCell_other w1 _ _ _ hne).trans ((hold b hb).trans (hK b hb hne))
  · have := hgrow1.size
    simp at this ⊢
    omega
  · exact ((hB.trans (hb1.mono hB.size)).grown hgrow1 (by have := hb1.size; have := hB.size; omega) (fun g hg => by have := hown g hg; have := hB.size; omega)).setCell (p := ⟨w.heap.size + 1, 1, none⟩) (by simp) _
def RowN (b0 : Nat) (w : World) (vN : Value) (n : Nat) : Prop := ∃ N base, b0 ≤ base ∧ List.length N = n ∧ IsN w vN N ∧ (∀ (j : Nat) (x : Nd), N[j]? = some x → x.id = (j : Int) + 1 ∧ x.kd = ⟨#[97]⟩ ∧ x.rc = [prK ((j : Int) + 1)]) ∧ w.ownsRow base 40 3 vN n (cellsN N)
theorem flat3 {α : Type} (f : α → List Value) (h : ∀ x, (f x).length = 3) : ∀ (L : List α) (k : Nat) (x : α) (i : Nat), L[k]? = some x → i < 3 → (L.flatMap f)[k * 3 + i]? = (f x)[i]?
  | [], k, x, i, hx, _ => by simp at hx
  | a :: r, 0, x, i, hx, hi => by
    obtain rfl : a = x := by simpa using hx
    rw [List.flatMap_cons, List.getElem?_append_left (by rw [h]; omega)]; simp
  | a :: r, k + 1, x, i, hx, hi => by
    rw [List.flatMap_cons, List.getElem?_append_right (by rw [h]; omega), h]
    have := flat3 f h r k x i (by simpa using hx) hi
    rw [← this]; congr 1; omega
theorem own_isT {w : World} {base : Nat} {v : Value} {M : List Te} (h : w.ownsRow base 47 3 v M.length (cellsT M)) : IsT w v M := by
  have hc : ∀ g, v.ownBlock = some g → ∀ j u, (cellsT M)[j]? = some u → w.cell? ((⟨g, 0, none⟩ : Addr).add j) = some u := fun g hg => h.cells hg
  rcases h.2 with ⟨rfl, h0⟩ | ⟨g, cap, cur, rfl, hb, hg, hle, hcm, hcs, ht⟩
  · exact ⟨none, 0, by rw [h0], by omega, .inl (List.eq_nil_of_length_eq_zero h0)⟩
  · refine ⟨_, cap, rfl, hle, .inr ⟨g, 0, rfl, (Array.getElem?_eq_some_iff.1 hg).1, fun k p hp => ?_⟩⟩
    have hat := flat3 Te.cells (fun _ => rfl) M k p
    have d0 := hc g rfl _ _ ((hat 0 hp (by decide)).trans rfl)
    have d1 := hc g rfl _ _ ((hat 1 hp (by decide)).trans rfl)
    have d2 := hc g rfl _ _ ((hat 2 hp (by decide)).trans rfl)
    rw [Addr.add_lit] at d0 d1 d2
    exact ⟨d0, by rw [Nat.add_assoc]; exact d1, by rw [Nat.add_assoc]; exact d2⟩
theorem own_isN {w : World} {base : Nat} {v : Value} {M : List Nd} (h : w.ownsRow base 40 3 v M.length (cellsN M)) (hr : ∀ n ∈ M, IsR w n.rv n.rc) : IsN w v M := by
  have hc : ∀ g, v.ownBlock = some g → ∀ j u, (cellsN M)[j]? = some u → w.cell? ((⟨g, 0, none⟩ : Addr).add j) = some u := fun g hg => h.cells hg
  rcases h.2 with ⟨rfl, h0⟩ | ⟨g, cap, cur, rfl, hb, hg, hle, hcm, hcs, ht⟩
  · exact ⟨none, 0, by rw [h0], by omega, .inl (List.eq_nil_of_length_eq_zero h0)⟩
  · refine ⟨_, cap, rfl, hle, .inr ⟨g, 0, rfl, (Array.getElem?_eq_some_iff.1 hg).1, fun k p hp => ?_⟩⟩
    have hat := flat3 Nd.cells (fun _ => rfl) M k p
    have d0 := hc g rfl _ _ ((hat 0 hp (by decide)).trans rfl)
    have d1 := hc g rfl _ _ ((hat 1 hp (by decide)).trans rfl)
    have d2 := hc g rfl _ _ ((hat 2 hp (by decide)).trans rfl)
    rw [Addr.add_lit] at d0 d1 d2
    exact ⟨d0, by rw [Nat.add_assoc]; exact d1, by rw [Nat.add_assoc]; exact d2, hr p (List.mem_of_getElem? hp)⟩
theorem recs_isR {w : World} {N : List Nd} (h : Recs w N) : ∀ n ∈ N, IsR w n.rv n.rc := fun n hn => by
  obtain ⟨j, hj⟩ := List.mem_iff_getElem?.1 hn
  obtain ⟨_, _, h3, b, h4, h5⟩ := h j n hj
  rw [h3, h4]
  refine ⟨_, 1, rfl, .inr ⟨b, 0, rfl, (Array.getElem?_eq_some_iff.1 h5).1, fun k p hp => ?_⟩⟩
  match k with
  | 0 =>
    obtain rfl : prK ((j : Int) + 1) = p := by simpa using hp
    exact ⟨cell_of h5 rfl, cell_of h5 rfl, cell_of h5 rfl, cell_of h5 rfl⟩
  | k + 1 => simp at hp
theorem own_heap {w w' : World} {base : Nat} {e : TypeId} {size : Nat} {v : Value} {n : Nat} {xs : List Value} (h : w.ownsRow base e size v n xs) (hb : ∀ g, v.ownBlock = some g → w'.heap[g]? = w.heap[g]?) : w'.ownsRow base e size v n xs := by
  refine ⟨h.1, ?_⟩
  rcases h.2 with h | ⟨g, cap, cur, rfl, hg0, hg, rest⟩
  · exact .inl h
  · exact .inr ⟨g, cap, cur, rfl, hg0, (hb g rfl).trans hg, rest⟩
theorem own_ge {w : World} {base : Nat} {e : TypeId} {size : Nat} {v : Value} {n : Nat} {xs : List Value} (h : w.ownsRow base e size v n xs) {g : Nat} (hg : v.ownBlock = some g) : base ≤ g ∧ ∃ cs, w.heap[g]? = some (.cells cs e (0, 0)) := by
  rcases h.2 with ⟨rfl, _⟩ | ⟨g', cap, cur, rfl, hb, hg', _⟩
  · cases hg
  · obtain rfl : g' = g := by simpa [Value.ownBlock] using hg
    exact ⟨hb, cur, hg'⟩
theorem many_end {w W wr : World} {N : List Nd} {an am : Option Addr} {cn cm k m : Nat} (hk : N.length = k) (hO : W.ownsRow w.heap.size 40 3 (.slice an k cn) k (cellsN N)) (hRe : Recs W N) (hR : W.heap[w.heap.size]? = some (.cells #[.slice none 0 0, .slice none 0 0] 25 (0, 0))) (hwW : w.heap.size + 1 < W.heap.size) (hG : W.heap[w.heap.size + 1]? = some (.cells #[.slice an k cn, .slice none 0 0] 25 (0, 0)))
    (hO2 : wr.ownsRow W.heap.size 47 3 (.slice am m cm) m (cellsT (rowT m))) (hG2 : wr.heap[w.heap.size + 1]? = some (.cells #[.slice an k cn, .slice am m cm] 25 (0, 0))) (hK : ∀ b, b < W.heap.size → b ≠ w.heap.size + 1 → wr.heap[b]? = W.heap[b]?) (hs : W.heap.size ≤ wr.heap.size) (hB : Below w.heap.size w wr) :
    RowN w.heap.size ((wr.setCell ⟨w.heap.size, 0, none⟩ (.slice an k cn)).setCell ⟨w.heap.size, 1, none⟩ (.slice am m cm)) (.slice an k cn) k ∧ IsT ((wr.setCell ⟨w.heap.size, 0, none⟩ (.slice an k cn)).setCell ⟨w.heap.size, 1, none⟩ (.slice am m cm)) (.slice am m cm) (rowT m) ∧ Below w.heap.size w ((wr.setCell ⟨w.heap.size, 0, none⟩ (.slice an k cn)).setCell ⟨w.heap.size, 1, none⟩ (.slice am m cm)) := by
  have hset : ∀ b, b ≠ w.heap.size → ((wr.setCell ⟨w.heap.size, 0, none⟩ (.slice an k cn)).setCell ⟨w.heap.size, 1, none⟩ (.slice am m cm)).heap[b]? = wr.heap[b]? := fun b hb => (heap_setCell_other _ _ _ _ hb).trans (heap_setCell_other _ _ _ _ hb)
  have ty : ∀ {b : Nat} {cs cs' : Array Value} {t t' : TypeId}, W.heap[b]? = some (.cells cs t (0, 0)) → W.heap[b]? = some (.cells cs' t' (0, 0)) → t = t' := fun h h' => by
    rw [h] at h'
    injection h' with h'
    injection h' with _ ht _
  have hkeep : ∀ {b : Nat} {cs : Array Value} {t : TypeId}, t ≠ 25 → W.heap[b]? = some (.cells cs t (0, 0)) → ((wr.setCell ⟨w.heap.size, 0, none⟩ (.slice an k cn)).setCell ⟨w.heap.size, 1, none⟩ (.slice am m cm)).heap[b]? = W.heap[b]? := fun {b cs t} ht h => by
    have h1 : b ≠ w.heap.size := fun e => by subst e; exact ht (ty h hR)
    have h2 : b ≠ w.heap.size + 1 := fun e => by subst e; exact ht (ty h hG)
    exact (hset b h1).trans (hK b (Array.getElem?_eq_some_iff.1 h).1 h2)
  have hown := own_heap hO (w' := (wr.setCell ⟨w.heap.size, 0, none⟩ (.slice an k cn)).setCell ⟨w.heap.size, 1, none⟩ (.slice am m cm)) fun g hg => by
    obtain ⟨_, cs, h⟩ := own_ge hO hg
    exact hkeep (by decide) h
  refine ⟨⟨N, w.heap.size, Nat.le_refl _, hk, ?_, fun j x hx => ?_, hown⟩, ?_, ?_⟩
  · have this := hown
    rw [← hk] at this ⊢
    refine own_isN this (recs_isR fun j x hx => ?_)
    obtain ⟨h1, h2, h3, b, h4, h5⟩ := hRe j x hx
    rw [hk]
    exact ⟨h1, h2, h3, b, h4, (hkeep (by decide) h5).trans h5⟩
  · obtain ⟨h1, h2, h3, _⟩ := hRe j x hx
    exact ⟨h1, h2, h3⟩
  · have := own_heap hO2 (w' := (wr.setCell ⟨w.heap.size, 0, none⟩ (.slice an k cn)).setCell ⟨w.heap.size, 1, none⟩ (.slice am m cm)) fun g hg => by
      obtain ⟨h1, _⟩ := own_ge hO2 hg
      exact hset g (by omega)
    have e := rowT_len m
    exact own_isT (by rw [e]; exact this)
  · exact (hB.setCell (p := ⟨w.heap.size, 0, none⟩) (Nat.le_refl _) _).setCell (p := ⟨w.heap.size, 1, none⟩) (Nat.le_refl _) _
end Go.Proofs.YteabdlandbmdaaaDoor
