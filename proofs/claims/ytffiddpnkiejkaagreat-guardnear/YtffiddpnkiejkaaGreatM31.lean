/-
  The walk of delta.changeRecord, whatever the change.
-/
import Derived.Test.YtffiddpnkiejkaaGreatM30
import Derived.Test.YtffiddpnkiejkaaGreatM09
import Derived.Test.YtffiddpnkiejkaaGreatM04
import Derived.Test.YtffiddpnkiejkaaGreatM17
import Derived.Deep.RegionLaw
namespace Go.Proofs.YtffiddpnkiejkaaGreat
open Go.RowKit
set_option linter.unusedVariables false
set_option linter.unusedSimpArgs false

/-- The call of a change at a record. -/
def ChP (F : Nat) (q : Nat) (rv : Value) (z : Int) (r' : List Pr) (w : World) : Prop := ∀ W, Below w.heap.size w W → Calls Tryz.prog F #[rv, .pointer (some ⟨q, 0, none⟩)] W fun e w' => ∃ a l c, e = .returned (.tuple #[.slice a l c, errV z]) ∧ (z = 0 → OwnRc w' W.heap.size (.slice a l c) r') ∧ Below W.heap.size W w'

set_option maxHeartbeats 2000000 in
set_option maxRecDepth 100000 in
theorem change_no {w : World} {base p : Nat} {N : List Nd} {T : List Te} (h : OG w base p N T) (hs : SrtN N) (h60 : N.length ≤ 96) (id : Int) (F q : Nat) (hf : fndN id N = false) :
    Calls Tryz.prog 36 #[.pointer (some ⟨p, 0, none⟩), .int .i64 id, .func (.func F) #[] #[.pointer (some ⟨q, 0, none⟩)]] w fun e w' => e = .returned (.iface 74 (.int .i64 5)) ∧ Below w.heap.size w w' := by
  obtain ⟨vn, vt, hbp, hpb, hN, hT⟩ := h
  have cF := findNode_any hN.isN hs h60 id
  rw [hf] at cF
  obtain ⟨an, cn, hvn⟩ := own_slice hN.1
  subst hvn
  have x0 : w.cell? ⟨p, 0, none⟩ = some (.slice an N.length cn) := cell_at hpb rfl
  generalize loN id N = lo at *
  clear hpb hN hT hf hs
  go_enter Tryz.func36, Tryz.ntmps36
  go_wp2_with (first | (go_at_call 55; refine cF.mono ?_; rintro e W1 ⟨rfl, hB1⟩))
  go_ret
  exact ⟨rfl, hB1⟩

theorem set_same {α : Type} {l : List α} {i : Nat} {a : α} (h : l[i]? = some a) : l.set i a = l := by
  apply List.ext_getElem?
  intro j
  by_cases e : i = j
  · subst e
    rw [List.getElem?_set_self (List.getElem?_eq_some_iff.1 h).1, h]
  · rw [List.getElem?_set_ne e]
theorem cellsN_rec (N : List Nd) (k : Nat) (n : Nd) (hn : N[k]? = some n) (v : Value) (r : List Pr) : (cellsN N).set (k * 3 + 2) v = cellsN (N.set k ⟨n.id, n.kd, v, r⟩) := by
  rw [← cellsN_set N k (List.getElem?_eq_some_iff.1 hn).1 n.id n.kd v r]
  have h0 : (cellsN N)[k * 3]? = some (.int .i64 n.id) := (flatK nd_len N k n 0 hn (by omega)).trans rfl
  have h1 : (cellsN N)[k * 3 + 1]? = some (.string n.kd) := (flatK nd_len N k n 1 hn (by omega)).trans rfl
  rw [set_same h0, set_same h1]
/-- A node of a graph of the call's own has another record. -/
theorem rec_put {W : World} {base p g cn lo B : Nat} {vt v : Value} {N : List Nd} {T : List Te} {n : Nd} {r' : List Pr} (D : OGv W base p (.slice (some ⟨g, 0, none⟩) N.length cn) vt N T) (hn : N[lo]? = some n) (hO : OwnRc W B v r') (hB : base ≤ B) :
    OG (W.setCell ⟨g, lo * 3 + 2, none⟩ v) base p (N.set lo ⟨n.id, n.kd, v, r'⟩) T ∧ cN (N.set lo ⟨n.id, n.kd, v, r'⟩) = (cN N).set lo ⟨n.id, n.kd, .nilIface, r'⟩ := by
  obtain ⟨s1, s2⟩ := World.ownsRow.stored D.hN.1 (lo * 3 + 2) v
  rw [cellsN_rec N lo n hn v r'] at s1
  have k : ∀ t, 34 ≠ t → Kt t W (W.setCell ⟨g, lo * 3 + 2, none⟩ v) := fun t ht => Kt.of_own D.hN.1 ht s2
  have hp : (W.setCell ⟨g, lo * 3 + 2, none⟩ v).heap[p]? = some (.cells #[.slice (some ⟨g, 0, none⟩) N.length cn, vt] 29 (0, 0)) := D.pN s2
  refine ⟨⟨_, _, D.hb, hp, ⟨by rw [List.length_set]; exact s1, fun m hm => ?_⟩, D.hT.kt (k 36 (by decide))⟩, ?_⟩
  · rcases List.mem_or_eq_of_mem_set hm with h | rfl
    · exact (D.hN.2 m h).kt (k 45 (by decide))
    · exact OwnRc.kt (own_base hO hB) (k 45 (by decide))
  · unfold cN
    rw [List.map_set]
    rfl

set_option maxHeartbeats 4000000 in
set_option maxRecDepth 100000 in
theorem change67_yes {w : World} {base p : Nat} {N : List Nd} {T : List Te} (h : OG w base p N T) (hbw : base ≤ w.heap.size) (hs : SrtN N) (h60 : N.length ≤ 96) (id : Int) (q : Nat) (hf : fndN id N = true) {n : Nd} (hn : N[loN id N]? = some n) {z : Int} {r' : List Pr}
    (hch : ChP 37 q n.rv z r' w) :
    Calls Tryz.prog 36 #[.pointer (some ⟨p, 0, none⟩), .int .i64 id, .func (.func 37) #[] #[.pointer (some ⟨q, 0, none⟩)]] w fun e w' => e = .returned (errV z) ∧ (z = 0 → ∃ N', cN N' = (cN N).set (loN id N) ⟨n.id, n.kd, .nilIface, r'⟩ ∧ OG w' base p N' T) ∧ Below base w w' := by
  obtain ⟨vn, vt, hbp, hpb, hN, hT⟩ := h
  have D : OGv w base p vn vt N T := ⟨hbp, hpb, hN, hT⟩
  have cF := findNode_any hN.isN hs h60 id
  rw [hf] at cF
  have hlt := fndN_lt hf
  obtain ⟨an, cn, hvn⟩ := own_slice hN.1
  obtain ⟨am, cm, hvt⟩ := own_slice hT
  subst hvn hvt
  obtain ⟨g, rfl⟩ : ∃ g, an = some ⟨g, 0, none⟩ := by
    rcases hN.1.2 with ⟨e, h0⟩ | ⟨g', cap', cur, e, _⟩
    · omega
    · injection e with e1; exact ⟨g', e1⟩
  have hcap : N.length ≤ cn := by
    rcases hN.1.2 with ⟨e, h0⟩ | ⟨g', cap', cur, e, _, _, h1, _⟩
    · cases e
    · injection e with _ _ e3; subst e3; exact h1
  have hnm := List.mem_of_getElem? hn
  obtain ⟨av, lv, cv, hv⟩ := (hN.2 n hnm).sl
  generalize loN id N = lo at *
  have x0 : w.cell? ⟨p, 0, none⟩ = some (.slice (some ⟨g, 0, none⟩) N.length cn) := cell_at hpb rfl
  have HX : Hid (∀ W, Below w.heap.size w W → OGv W base p (.slice (some ⟨g, 0, none⟩) N.length cn) (.slice am T.length cm) N T ∧ W.cell? ⟨p, 0, none⟩ = some (.slice (some ⟨g, 0, none⟩) N.length cn) ∧ W.cell? ⟨g, lo * 3 + 2, none⟩ = some n.rv ∧ W.frozen? ⟨g, lo * 3 + 2, none⟩ = false) := fun W hB => by
    have D' := D.on hB
    have := World.ownsRow.cells D'.hN.1 rfl (lo * 3 + 2) n.rv ((flatK nd_len N lo n 2 hn (by omega)).trans rfl)
    rw [Addr.add_lit, Nat.zero_add] at this
    exact ⟨D', cell_at D'.hp rfl, this, World.ownsRow.frozenAt D'.hN.1 _⟩
  have HN : Hid (N[lo]? = some n) := hn
  obtain ⟨ni, kd, rv, rc⟩ := n
  simp only at hv HX hch ⊢
  subst hv
  clear hpb hN hT hf hs D hn hnm
  by_cases hz : z = 0
  · subst hz
    rw [show errV 0 = .nilIface from rfl]
    unfold ChP at hch
    rw [show errV 0 = .nilIface from rfl] at hch
    go_enter Tryz.func36, Tryz.ntmps36
    go_wp2_with (first | (go_at_call 55; refine cF.mono ?_; rintro e W1 ⟨rfl, hB1⟩; obtain ⟨D1, y0, y1, y2⟩ := HX.out W1 hB1; have c2 := hch W1 hB1; clear D1) | (go_at_call 37; refine c2.mono ?_; rintro e W2 ⟨a2, l2, c2', rfl, hO2, hB2⟩; refine Hid.out ?_))
    refine Lib.hid ?_
    obtain ⟨D2, t0, t1, t2⟩ := HX.out W2 (on1K hB1 hB2 (Nat.le_refl _))
    have hO := hO2 (by trivial)
    have HO := Lib.hid (And.intro hO (And.intro D2 (And.intro (on1K hB1 hB2 (Nat.le_refl _)) hB1.size)))
    clear hO2 hO D2 hB1 hB2 c2 cF hch y0 y1 y2 HX
    go_wp2
    go_ret
    obtain ⟨o1, o2, o3, o4⟩ := HO.out
    obtain ⟨r1, r2⟩ := rec_put o2 HN.out o1 (Nat.le_trans hbw o4)
    exact ⟨rfl, fun _ => ⟨_, r2, r1⟩, (o3.mono hbw).setCell (World.ownsRow.lt o2.hN.1 g rfl).1 _⟩
  · rw [errV_ne hz]
    unfold ChP at hch
    rw [errV_ne hz] at hch
    have HZ := Lib.hid hz
    clear hz
    go_enter Tryz.func36, Tryz.ntmps36
    go_wp2_with (first | (go_at_call 55; refine cF.mono ?_; rintro e W1 ⟨rfl, hB1⟩; obtain ⟨D1, y0, y1, y2⟩ := HX.out W1 hB1; have c2 := hch W1 hB1; clear D1) | (go_at_call 37; refine c2.mono ?_; rintro e W2 ⟨a2, l2, c2', rfl, hO2, hB2⟩))
    go_ret
    exact ⟨rfl, fun h => absurd h HZ.out, (on1K hB1 hB2 (Nat.le_refl _)).mono hbw⟩
set_option maxHeartbeats 4000000 in
set_option maxRecDepth 100000 in
theorem change69_yes {w : World} {base p : Nat} {N : List Nd} {T : List Te} (h : OG w base p N T) (hbw : base ≤ w.heap.size) (hs : SrtN N) (h60 : N.length ≤ 96) (id : Int) (q : Nat) (hf : fndN id N = true) {n : Nd} (hn : N[loN id N]? = some n) {z : Int} {r' : List Pr}
    (hch : ChP 39 q n.rv z r' w) :
    Calls Tryz.prog 36 #[.pointer (some ⟨p, 0, none⟩), .int .i64 id, .func (.func 39) #[] #[.pointer (some ⟨q, 0, none⟩)]] w fun e w' => e = .returned (errV z) ∧ (z = 0 → ∃ N', cN N' = (cN N).set (loN id N) ⟨n.id, n.kd, .nilIface, r'⟩ ∧ OG w' base p N' T) ∧ Below base w w' := by
  obtain ⟨vn, vt, hbp, hpb, hN, hT⟩ := h
  have D : OGv w base p vn vt N T := ⟨hbp, hpb, hN, hT⟩
  have cF := findNode_any hN.isN hs h60 id
  rw [hf] at cF
  have hlt := fndN_lt hf
  obtain ⟨an, cn, hvn⟩ := own_slice hN.1
  obtain ⟨am, cm, hvt⟩ := own_slice hT
  subst hvn hvt
  obtain ⟨g, rfl⟩ : ∃ g, an = some ⟨g, 0, none⟩ := by
    rcases hN.1.2 with ⟨e, h0⟩ | ⟨g', cap', cur, e, _⟩
    · omega
    · injection e with e1; exact ⟨g', e1⟩
  have hcap : N.length ≤ cn := by
    rcases hN.1.2 with ⟨e, h0⟩ | ⟨g', cap', cur, e, _, _, h1, _⟩
    · cases e
    · injection e with _ _ e3; subst e3; exact h1
  have hnm := List.mem_of_getElem? hn
  obtain ⟨av, lv, cv, hv⟩ := (hN.2 n hnm).sl
  generalize loN id N = lo at *
  have x0 : w.cell? ⟨p, 0, none⟩ = some (.slice (some ⟨g, 0, none⟩) N.length cn) := cell_at hpb rfl
  have HX : Hid (∀ W, Below w.heap.size w W → OGv W base p (.slice (some ⟨g, 0, none⟩) N.length cn) (.slice am T.length cm) N T ∧ W.cell? ⟨p, 0, none⟩ = some (.slice (some ⟨g, 0, none⟩) N.length cn) ∧ W.cell? ⟨g, lo * 3 + 2, none⟩ = some n.rv ∧ W.frozen? ⟨g, lo * 3 + 2, none⟩ = false) := fun W hB => by
    have D' := D.on hB
    have := World.ownsRow.cells D'.hN.1 rfl (lo * 3 + 2) n.rv ((flatK nd_len N lo n 2 hn (by omega)).trans rfl)
    rw [Addr.add_lit, Nat.zero_add] at this
    exact ⟨D', cell_at D'.hp rfl, this, World.ownsRow.frozenAt D'.hN.1 _⟩
  have HN : Hid (N[lo]? = some n) := hn
  obtain ⟨ni, kd, rv, rc⟩ := n
  simp only at hv HX hch ⊢
  subst hv
  clear hpb hN hT hf hs D hn hnm
  by_cases hz : z = 0
  · subst hz
    rw [show errV 0 = .nilIface from rfl]
    unfold ChP at hch
    rw [show errV 0 = .nilIface from rfl] at hch
    go_enter Tryz.func36, Tryz.ntmps36
    go_wp2_with (first | (go_at_call 55; refine cF.mono ?_; rintro e W1 ⟨rfl, hB1⟩; obtain ⟨D1, y0, y1, y2⟩ := HX.out W1 hB1; have c2 := hch W1 hB1; clear D1) | (go_at_call 39; refine c2.mono ?_; rintro e W2 ⟨a2, l2, c2', rfl, hO2, hB2⟩; refine Hid.out ?_))
    refine Lib.hid ?_
    obtain ⟨D2, t0, t1, t2⟩ := HX.out W2 (on1K hB1 hB2 (Nat.le_refl _))
    have hO := hO2 (by trivial)
    have HO := Lib.hid (And.intro hO (And.intro D2 (And.intro (on1K hB1 hB2 (Nat.le_refl _)) hB1.size)))
    clear hO2 hO D2 hB1 hB2 c2 cF hch y0 y1 y2 HX
    go_wp2
    go_ret
    obtain ⟨o1, o2, o3, o4⟩ := HO.out
    obtain ⟨r1, r2⟩ := rec_put o2 HN.out o1 (Nat.le_trans hbw o4)
    exact ⟨rfl, fun _ => ⟨_, r2, r1⟩, (o3.mono hbw).setCell (World.ownsRow.lt o2.hN.1 g rfl).1 _⟩
  · rw [errV_ne hz]
    unfold ChP at hch
    rw [errV_ne hz] at hch
    have HZ := Lib.hid hz
    clear hz
    go_enter Tryz.func36, Tryz.ntmps36
    go_wp2_with (first | (go_at_call 55; refine cF.mono ?_; rintro e W1 ⟨rfl, hB1⟩; obtain ⟨D1, y0, y1, y2⟩ := HX.out W1 hB1; have c2 := hch W1 hB1; clear D1) | (go_at_call 39; refine c2.mono ?_; rintro e W2 ⟨a2, l2, c2', rfl, hO2, hB2⟩))
    go_ret
    exact ⟨rfl, fun h => absurd h HZ.out, (on1K hB1 hB2 (Nat.le_refl _)).mono hbw⟩
end Go.Proofs.YtffiddpnkiejkaaGreat

/-
  The walk of record.merged with one property.
-/
namespace Go.Proofs.YtffiddpnkiejkaaGreat
open Go.RowKit
set_option linter.unusedVariables false
set_option linter.unusedSimpArgs false

/-- A record with a property, in the place of one of its name. -/
def ins (p : Pr) : List Pr → List Pr
  | [] => [p]
  | a :: r => if a.lt p = true then a :: ins p r else if (a.nm.toList == p.nm.toList) = true then p :: r else p :: a :: r

/-- All cells. -/
def cellsOf (L : List Pr) : List Value := L.flatMap Pr.cells

theorem cellsOf_snoc (L : List Pr) (p : Pr) : cellsOf (L ++ [p]) = cellsOf L ++ p.cells := by simp [cellsOf]
theorem cellsOf_app (L M : List Pr) : cellsOf (L ++ M) = cellsOf L ++ cellsOf M := by simp [cellsOf]
theorem cellsOf_len (L : List Pr) : (cellsOf L).length = L.length * 4 := by
  induction L with
  | nil => rfl
  | cons a r ih => simp [cellsOf, Pr.cells] at ih ⊢; omega
theorem cellsOf_one (L : List Pr) : ∀ u ∈ cellsOf L, u.oneCell' = true := by
  intro u hu
  obtain ⟨p, _, hp⟩ := List.mem_flatMap.1 hu
  simp [Pr.cells] at hp
  rcases hp with rfl | rfl | rfl | rfl <;> rfl

theorem info33 : (Tryz.prog.info? 45).map (fun i => (i.zero, i.size, i.bytes)) = some (some (.agg #[.string ⟨#[]⟩, .int .i64 0, .int .i64 0, .string ⟨#[]⟩]), 4, 48) := by kernel_rfl



theorem ins_len (p : Pr) (L : List Pr) : L.length ≤ (ins p L).length ∧ (ins p L).length ≤ L.length + 1 := by
  induction L with
  | nil => simp [ins]
  | cons a r ih =>
    unfold ins
    split
    · simp; omega
    · split <;> simp
/-- How long a slice is. -/
def slen : Value → Nat | .slice _ n _ => n | _ => 0

theorem own_al {w w0 : World} {base : Nat} {e : TypeId} {size : Nat} {v : Value} {n : Nat} {xs : List Value} (h : w.ownsRow base e size v n xs) (hh : w0.heap = w.heap) (o : Obj) : (w0.alloc o).ownsRow base e size v n xs := by
  have h0 : w0.ownsRow base e size v n xs := by unfold World.ownsRow at *; rw [hh]; exact h
  exact h0.alloc o
theorem cells_new (w0 : World) (p : Pr) : ∀ j u, p.cells[j]? = some u → (w0.alloc (.cells #[.string p.nm, .int .i64 p.t, .int .i64 p.n, .string p.s] 45)).cell? ((⟨w0.heap.size, 0, none⟩ : Addr).add j) = some u := by
  intro j u hu
  match j, hu with
  | 0, hu => simp [Pr.cells] at hu; subst hu; simp [Addr.add]
  | 1, hu => simp [Pr.cells] at hu; subst hu; simp [Addr.add]
  | 2, hu => simp [Pr.cells] at hu; subst hu; simp [Addr.add]
  | 3, hu => simp [Pr.cells] at hu; subst hu; simp [Addr.add]
  | k + 4, hu => simp [Pr.cells] at hu
theorem cells_one (p : Pr) : ∀ u ∈ p.cells, u.oneCell' = true := by
  intro u hu
  simp [Pr.cells] at hu
  rcases hu with rfl | rfl | rfl | rfl <;> rfl

/-- What stands between two rounds. -/
def MR (w : World) (b off cap b2 o2 : Nat) (p : Pr) (L : List Pr) (a bb all : Value) (wr : World) : Prop :=
  ∃ (i o nb : Nat) (xs : List Pr), i ≤ L.length ∧ (i < L.length → o = off + i * 4) ∧ a = .slice (some ⟨b, o, none⟩) (L.length - i) (cap - i) ∧ bb = .slice (some ⟨b2, o2, none⟩) nb nb ∧
    ((nb = 1 ∧ xs = L.take i ∧ ins p L = L.take i ++ ins p (L.drop i)) ∨ (nb = 0 ∧ xs ++ L.drop i = ins p L)) ∧ wr.ownsRow w.heap.size 45 4 all xs.length (cellsOf xs) ∧ Below w.heap.size w wr

theorem mr_a {w w1 : World} {b off cap b2 o2 i la ca o' cc : Nat} {p a0 : Pr} {L : List Pr} {v1 : Value} (hi : i < L.length) (hcap : L.length ≤ cap)
    (HH : Hid (L.drop i = a0 :: L.drop (i + 1) ∧ L.take (i + 1) = L.take i ++ [a0] ∧ ins p L = L.take i ++ ins p (L.drop i))) (HL : Hid (la = L.length - i ∧ ca = cap - i ∧ (L.take i).length = i))
    (h1 : a0.lt p = true) (hown1 : w1.ownsRow w.heap.size 45 4 v1 ((L.take i).length + 1) (cellsOf (L.take i) ++ a0.cells)) (hB1 : Below w.heap.size w w1) (ho' : ca = 1 ∨ o' = off + i * 4 + 4) (hcc : cc = ca - 1) :
    MR w b off cap b2 o2 p L (.slice (some ⟨b, o', none⟩) (la - 1) cc) (.slice (some ⟨b2, o2, none⟩) 1 1) v1 w1 := by
  obtain ⟨hD, hT, hins⟩ := HH.out
  obtain ⟨hla, hca, hlen⟩ := HL.out
  refine ⟨i + 1, o', 1, L.take (i + 1), by omega, fun h => by omega, by rw [hcc, hla, hca, Nat.sub_sub, Nat.sub_sub], rfl, .inl ⟨rfl, rfl, ?_⟩, ?_, hB1⟩
  · rw [hins, hD, hT]; simp [ins, h1]
  · rw [hT, cellsOf_snoc]; simpa using hown1
theorem mr_b {w w1 : World} {b off cap b2 o2 i la ca o' cc : Nat} {p a0 : Pr} {L : List Pr} {v1 : Value} (hi : i < L.length) (hcap : L.length ≤ cap)
    (HH : Hid (L.drop i = a0 :: L.drop (i + 1) ∧ L.take (i + 1) = L.take i ++ [a0] ∧ ins p L = L.take i ++ ins p (L.drop i))) (HL : Hid (la = L.length - i ∧ ca = cap - i ∧ (L.take i).length = i))
    (h1 : ¬ a0.lt p = true) (h2 : (a0.nm.toList == p.nm.toList) = true) (hown1 : w1.ownsRow w.heap.size 45 4 v1 ((L.take i).length + 1) (cellsOf (L.take i) ++ p.cells)) (hB1 : Below w.heap.size w w1) (ho' : ca = 1 ∨ o' = off + i * 4 + 4) (hcc : cc = ca - 1) :
    MR w b off cap b2 o2 p L (.slice (some ⟨b, o', none⟩) (la - 1) cc) (.slice (some ⟨b2, o2, none⟩) 0 0) v1 w1 := by
  obtain ⟨hD, hT, hins⟩ := HH.out
  obtain ⟨hla, hca, hlen⟩ := HL.out
  refine ⟨i + 1, o', 0, L.take i ++ [p], by omega, fun h => by omega, by rw [hcc, hla, hca, Nat.sub_sub, Nat.sub_sub], rfl, .inr ⟨rfl, ?_⟩, ?_, hB1⟩
  · rw [hins, hD]; unfold ins; rw [if_neg h1, if_pos h2]; simp
  · rw [cellsOf_snoc]; simpa using hown1
theorem mr_c {w w1 : World} {b off cap b2 o2 i la ca : Nat} {p a0 : Pr} {L : List Pr} {v1 : Value} (hi : i < L.length) (hcap : L.length ≤ cap)
    (HH : Hid (L.drop i = a0 :: L.drop (i + 1) ∧ L.take (i + 1) = L.take i ++ [a0] ∧ ins p L = L.take i ++ ins p (L.drop i))) (HL : Hid (la = L.length - i ∧ ca = cap - i ∧ (L.take i).length = i))
    (h1 : ¬ a0.lt p = true) (h2 : ¬ (a0.nm.toList == p.nm.toList) = true) (hown1 : w1.ownsRow w.heap.size 45 4 v1 ((L.take i).length + 1) (cellsOf (L.take i) ++ p.cells)) (hB1 : Below w.heap.size w w1) :
    MR w b off cap b2 o2 p L (.slice (some ⟨b, off + i * 4, none⟩) la ca) (.slice (some ⟨b2, o2, none⟩) 0 0) v1 w1 := by
  obtain ⟨hD, hT, hins⟩ := HH.out
  obtain ⟨hla, hca, hlen⟩ := HL.out
  refine ⟨i, off + i * 4, 0, L.take i ++ [p], by omega, fun h => rfl, by rw [hla, hca], rfl, .inr ⟨rfl, ?_⟩, ?_, hB1⟩
  · rw [hins, hD]; conv => rhs; unfold ins
    rw [if_neg h1, if_neg h2]; simp
  · rw [cellsOf_snoc]; simpa using hown1
theorem lies_cells {w : World} {b o : Nat} {M : List Pr} (h : ∀ k p, M[k]? = some p → w.cell? ⟨b, o + k * 4, none⟩ = some (.string p.nm) ∧ w.cell? ⟨b, o + k * 4 + 1, none⟩ = some (.int .i64 p.t) ∧ w.cell? ⟨b, o + k * 4 + 2, none⟩ = some (.int .i64 p.n) ∧ w.cell? ⟨b, o + k * 4 + 3, none⟩ = some (.string p.s)) :
    ∀ j u, (cellsOf M)[j]? = some u → w.cell? ((⟨b, o, none⟩ : Addr).add j) = some u := by
  induction M generalizing o with
  | nil => intro j u hu; simp [cellsOf] at hu
  | cons a r ih =>
    intro j u hu
    obtain ⟨c0, c1, c2, c3⟩ := h 0 a rfl
    rw [Addr.add_lit]
    simp only [Nat.zero_mul, Nat.add_zero] at c0 c1 c2 c3
    match j, hu with
    | 0, hu => simp [cellsOf, Pr.cells] at hu; subst hu; exact c0
    | 1, hu => simp [cellsOf, Pr.cells] at hu; subst hu; exact c1
    | 2, hu => simp [cellsOf, Pr.cells] at hu; subst hu; exact c2
    | 3, hu => simp [cellsOf, Pr.cells] at hu; subst hu; exact c3
    | k + 4, hu =>
      have hu' : (cellsOf r)[k]? = some u := by simpa [cellsOf, Pr.cells] using hu
      have := ih (o := o + 4) (fun k p hp => by
        have := h (k + 1) p (by simpa using hp)
        rw [show o + (k + 1) * 4 = o + 4 + k * 4 by omega] at this
        exact this) k u hu'
      rw [Addr.add_lit] at this
      rw [show o + (k + 4) = o + 4 + k by omega]; exact this
theorem Lies.drop {w : World} {b off : Nat} {L : List Pr} (h : Lies w b off L) (i : Nat) : Lies w b (off + i * 4) (L.drop i) := fun k p hp => by
  have := h (i + k) p (by simpa using hp)
  rw [show off + (i + k) * 4 = off + i * 4 + k * 4 by omega] at this
  exact this

set_option maxHeartbeats 4000000 in
set_option maxRecDepth 100000 in
theorem merged_some (b off cap b2 o2 : Nat) (p : Pr) (L : List Pr) (w : World) (hb : b < w.heap.size) (hL : Lies w b off L) (hn : L.length ≤ 8) (hcap : L.length ≤ cap) (hb2 : b2 < w.heap.size) (hp : Lies w b2 o2 [p]) :
    Calls Tryz.prog 93 #[.slice (some ⟨b, off, none⟩) L.length cap, .slice (some ⟨b2, o2, none⟩) 1 1] w fun e w' => ∃ v, e = .returned v ∧ w'.ownsRow w.heap.size 45 4 v (ins p L).length (cellsOf (ins p L)) ∧ Below w.heap.size w w' := by
  obtain ⟨i0, hi0, hz0, hz1, hz2⟩ := info_parts info33
  go_enter Tryz.func93, Tryz.ntmps93
  go_wp2
  go_loopw [0, 1, 5] (fun a bb all wr => MR w b off cap b2 o2 p L a bb all wr) (fun a bb _ _ => slen a + slen bb)
  case atStart => exact ⟨0, off, 1, [], Nat.zero_le _, fun _ => by omega, rfl, rfl, .inl ⟨rfl, rfl, rfl⟩, World.ownsRow_nil _ _ _ _, Below.refl _ _⟩
  case round =>
    obtain ⟨i, o, nb, xs, hi, ho, rfl, rfl, hst, hown, hB⟩ := hrel
    obtain ⟨q0, q1, q2, q3⟩ := hp 0 p rfl
    simp only [Nat.zero_mul, Nat.add_zero] at q0 q1 q2 q3
    have f0 := (hB.cell (p := ⟨b2, o2, none⟩) hb2).trans q0
    have f1 := (hB.cell (p := ⟨b2, o2 + 1, none⟩) hb2).trans q1
    have f2 := (hB.cell (p := ⟨b2, o2 + 2, none⟩) hb2).trans q2
    have f3 := (hB.cell (p := ⟨b2, o2 + 3, none⟩) hb2).trans q3
    clear q0 q1 q2 q3
    have hbase := hB.size
    rcases hst with ⟨rfl, rfl, hins⟩ | ⟨rfl, hins⟩
    · by_cases hlt : i < L.length
      · obtain rfl := ho hlt
        obtain ⟨a0, ha0⟩ : ∃ a0, L[i]? = some a0 := ⟨L[i], by simp [hlt]⟩
        obtain ⟨c0, c1, c2, c3⟩ := hL i a0 ha0
        have d0 := (hB.cell (p := ⟨b, off + i * 4, none⟩) hb).trans c0
        have d1 := (hB.cell (p := ⟨b, off + i * 4 + 1, none⟩) hb).trans c1
        have d2 := (hB.cell (p := ⟨b, off + i * 4 + 2, none⟩) hb).trans c2
        have d3 := (hB.cell (p := ⟨b, off + i * 4 + 3, none⟩) hb).trans c3
        have hD : L.drop i = a0 :: L.drop (i + 1) := drop_at ha0
        have hT : L.take (i + 1) = L.take i ++ [a0] := by
          obtain ⟨hk, rfl⟩ := List.getElem?_eq_some_iff.1 ha0
          exact List.take_succ_eq_append_getElem hk
        have HH : Hid (L.drop i = a0 :: L.drop (i + 1) ∧ L.take (i + 1) = L.take i ++ [a0] ∧ ins p L = L.take i ++ ins p (L.drop i)) := ⟨hD, hT, hins⟩
        obtain ⟨la, hla⟩ : ∃ la, la = L.length - i := ⟨_, rfl⟩
        obtain ⟨ca, hca⟩ : ∃ ca, ca = cap - i := ⟨_, rfl⟩
        have hl0 : 0 < la := by omega
        have hlc : la ≤ ca := by omega
        have hlen : (L.take i).length = i := by simp; omega
        have HL : Hid (la = L.length - i ∧ ca = cap - i ∧ (L.take i).length = i) := ⟨hla, hca, hlen⟩
        have HO : Hid (wr.ownsRow w.heap.size 45 4 u5 (L.take i).length (cellsOf (L.take i))) := hown
        have hi8 : i < 8 := by omega
        rw [← hla, ← hca]
        clear hla hca hlen hD hT hins ha0 c0 c1 c2 c3 hL hp
        have HM : Hid ((L.take i).length + 1 ≤ maxLen ∧ ((L.take i).length + 1) * 48 ≤ 140737488355328) := by
          rw [HL.out.2.2]; unfold maxLen; exact ⟨by omega, by omega⟩
        have hl1 : 1 ≤ (la : Int) := by omega
        have HX : Hid (i < L.length ∧ L.length ≤ cap) := ⟨hlt, hcap⟩
        have HB : Hid (Below w.heap.size w wr) := hB
        clear hown hlt hcap hi ho
        by_cases h1 : a0.lt p = true
        · have h1' : Op.bytesLess a0.nm.toList p.nm.toList = true := h1
          have H1 : Hid (a0.lt p = true) := h1
          clear h1
          go_wp2_with fail
          go_quiet (fail)
          go_wp2_with fail
          by_cases hc1 : ca = 1
          all_goals
            go_region_law (refine step_append_own rfl (.tmp 23) (.tmp 27) 32 rfl w.heap.size 45 i0 _ 4 48 Tryz.underlying32 hi0 hz0 hz1 hz2 rfl (by decide) u5 (L.take i).length (cellsOf (L.take i)) (by simp [Act.eval, Act.put]) (own_al HO.out rfl _) ⟨wr.heap.size, 0, none⟩ 1 1 a0.cells (by simp [Act.eval, Act.put]) rfl (cells_new _ a0) (cells_one a0) HM.out.1 HM.out.2 (by simp; omega) ?_; intro v1 w1 hown1 hgrow1)
            all_goals
              go_wp2
              refine ⟨?_, ?_⟩
              · (repeat apply Exists.intro)
                refine ⟨?_, rfl⟩
                exact mr_a HX.out.1 HX.out.2 HH HL H1.out hown1 ((b_alloc ((b_drewN HB.out _).drew) _).grown hgrow1 (b_alloc ((b_drewN HB.out _).drew) _).size (fun k hk => (HO.out.lt k hk).1)) (by first | exact .inl hc1 | exact .inr rfl) (by omega)
              · simp [Act.put, slen]
                try omega
        · have h1' : Op.bytesLess a0.nm.toList p.nm.toList = false := by simpa [Pr.lt] using h1
          have H1 : Hid (¬ a0.lt p = true) := h1
          clear h1
          by_cases h2 : (a0.nm.toList == p.nm.toList) = true
          · by_cases hc1 : ca = 1
            all_goals
              go_wp2_with fail
              go_quiet (fail)
              go_wp2_with fail
              go_quiet (fail)
              go_wp2_with fail
              go_region_law (refine step_append_own rfl (.tmp 42) (.tmp 46) 32 rfl w.heap.size 45 i0 _ 4 48 Tryz.underlying32 hi0 hz0 hz1 hz2 rfl (by decide) u5 (L.take i).length (cellsOf (L.take i)) (by simp [Act.eval, Act.put]) (own_al HO.out rfl _) ⟨wr.heap.size, 0, none⟩ 1 1 p.cells (by simp [Act.eval, Act.put]) rfl (cells_new _ p) (cells_one p) HM.out.1 HM.out.2 (by simp; omega) ?_; intro v1 w1 hown1 hgrow1)
              all_goals
                refine ⟨?_, ?_⟩
                · (repeat apply Exists.intro)
                  refine ⟨?_, rfl⟩
                  exact mr_b HX.out.1 HX.out.2 HH HL H1.out h2 hown1 ((b_alloc (b_drewN HB.out _) _).grown hgrow1 (b_alloc (b_drewN HB.out _) _).size (fun k hk => (HO.out.lt k hk).1)) (by first | exact .inl hc1 | exact .inr rfl) (by omega)
                · simp [Act.put, slen]
                  try omega
          · have h2' : (a0.nm.toList == p.nm.toList) = false := by simpa using h2
            have H2 : Hid (¬ (a0.nm.toList == p.nm.toList) = true) := h2
            clear h2
            go_wp2_with fail
            go_quiet (fail)
            go_wp2_with fail
            go_quiet (fail)
            go_wp2_with fail
            go_region_law (refine step_append_own rfl (.tmp 42) (.tmp 46) 32 rfl w.heap.size 45 i0 _ 4 48 Tryz.underlying32 hi0 hz0 hz1 hz2 rfl (by decide) u5 (L.take i).length (cellsOf (L.take i)) (by simp [Act.eval, Act.put]) (own_al HO.out rfl _) ⟨wr.heap.size, 0, none⟩ 1 1 p.cells (by simp [Act.eval, Act.put]) rfl (cells_new _ p) (cells_one p) HM.out.1 HM.out.2 (by simp; omega) ?_; intro v1 w1 hown1 hgrow1)
            all_goals
              refine ⟨?_, ?_⟩
              · (repeat apply Exists.intro)
                refine ⟨?_, rfl⟩
                exact mr_c HX.out.1 HX.out.2 HH HL H1.out H2.out hown1 ((b_alloc (b_drewN HB.out _) _).grown hgrow1 (b_alloc (b_drewN HB.out _) _).size (fun k hk => (HO.out.lt k hk).1))
              · simp [Act.put, slen]
                try omega
      · obtain rfl : i = L.length := by omega
        have hT : L.take L.length = L := List.take_length
        have H1 : Hid (ins p L = L ++ [p]) := by
          show _ = _
          rw [hins, hT, List.drop_length]; rfl
        rw [hT] at hown
        have e0 : L.length - L.length = 0 := Nat.sub_self _
        rw [e0]
        have HM : Hid (L.length + 0 ≤ maxLen ∧ (L.length + 0) * 48 ≤ 140737488355328 ∧ L.length + 0 + 1 ≤ maxLen ∧ (L.length + 0 + 1) * 48 ≤ 140737488355328) := by
          unfold maxLen; exact ⟨by omega, by omega, by omega, by omega⟩
        have HO : Hid (wr.ownsRow w.heap.size 45 4 u5 L.length (cellsOf L)) := hown
        have HP : Hid (Lies w b2 o2 [p]) := hp
        have HB : Hid (Below w.heap.size w wr) := hB
        obtain ⟨cc, hcc⟩ : ∃ cc, cc = cap - L.length := ⟨_, rfl⟩
        rw [← hcc]
        clear hT hins e0 ho hown hL hp hB hcc
        go_wp2_with (first
          | (at_builtin; refine wpList_append_own _ rfl (.tmp 50) (.tmp 51) 32 rfl w.heap.size 45 i0 _ 4 48 Tryz.underlying32 hi0 hz0 hz1 hz2 rfl (by decide) u5 L.length (cellsOf L) rfl HO.out ⟨b, o, none⟩ 0 cc [] rfl rfl (by intro j u hu; simp at hu) (by intro u hu; simp at hu) HM.out.1 HM.out.2.1 hbase ?_; intro v1 w1 hown1 hgrow1 _)
          | (at_builtin; refine wpList_append_own _ rfl (.tmp 52) (.tmp 53) 32 rfl w.heap.size 45 i0 _ 4 48 Tryz.underlying32 hi0 hz0 hz1 hz2 rfl (by decide) v1 (L.length + 0) (cellsOf L ++ []) rfl hown1 ⟨b2, o2, none⟩ 1 1 (cellsOf [p]) rfl rfl (lies_cells (HP.out.on hb2 (HB.out.grown hgrow1 HB.out.size (fun k hk => (HO.out.lt k hk).1)))) (cellsOf_one [p]) HM.out.2.2.1 HM.out.2.2.2 (Nat.le_trans hbase hgrow1.size) ?_; intro v2 w2 hown2 hgrow2 _))
        go_ret
        refine ⟨v2, rfl, ?_, ?_⟩
        · rw [H1.out, cellsOf_app]; simpa using hown2
        · have h1 := HB.out.grown hgrow1 HB.out.size (fun k hk => (HO.out.lt k hk).1)
          exact h1.grown hgrow2 h1.size (fun k hk => (hown1.lt k hk).1)
    · have H1 : Hid (xs ++ L.drop i = ins p L) := hins
      obtain ⟨la, hla⟩ : ∃ la, la = L.length - i := ⟨_, rfl⟩
      obtain ⟨cc, hcc⟩ : ∃ cc, cc = cap - i := ⟨_, rfl⟩
      rw [← hla, ← hcc]
      have hx9 : xs.length + la ≤ 9 := by
        have h1 : (xs ++ L.drop i).length = (ins p L).length := by rw [hins]
        have h2 := ins_len p L
        simp at h1; omega
      have HM : Hid (xs.length + la ≤ maxLen ∧ (xs.length + la) * 48 ≤ 140737488355328 ∧ xs.length + la + 0 ≤ maxLen ∧ (xs.length + la + 0) * 48 ≤ 140737488355328) := by
        unfold maxLen; exact ⟨by omega, by omega, by omega, by omega⟩
      have HO : Hid (wr.ownsRow w.heap.size 45 4 u5 xs.length (cellsOf xs)) := hown
      have HB : Hid (Below w.heap.size w wr) := hB
      have HC : Hid (∀ j u, (cellsOf (L.drop i))[j]? = some u → wr.cell? ((⟨b, o, none⟩ : Addr).add j) = some u) := by
        show ∀ j u, _
        by_cases h : i < L.length
        · obtain rfl := ho h
          exact lies_cells ((hL.drop i).on hb hB)
        · rw [List.drop_eq_nil_of_le (by omega)]
          intro j u hu; simp [cellsOf] at hu
      have HLn : Hid ((cellsOf (L.drop i)).length = la * 4) := by
        show _ = _
        rw [cellsOf_len, hla]; simp
      clear hins ho hown hL hp hB hcc hla
      go_wp2_with (first
        | (at_builtin; refine wpList_append_own _ rfl (.tmp 50) (.tmp 51) 32 rfl w.heap.size 45 i0 _ 4 48 Tryz.underlying32 hi0 hz0 hz1 hz2 rfl (by decide) u5 xs.length (cellsOf xs) rfl HO.out ⟨b, o, none⟩ la cc (cellsOf (L.drop i)) rfl HLn.out HC.out (cellsOf_one _) HM.out.1 HM.out.2.1 hbase ?_; intro v1 w1 hown1 hgrow1 _)
        | (at_builtin; refine wpList_append_own _ rfl (.tmp 52) (.tmp 53) 32 rfl w.heap.size 45 i0 _ 4 48 Tryz.underlying32 hi0 hz0 hz1 hz2 rfl (by decide) v1 (xs.length + la) (cellsOf xs ++ cellsOf (L.drop i)) rfl hown1 ⟨b2, o2, none⟩ 0 0 [] rfl rfl (by intro j u hu; simp at hu) (by intro u hu; simp at hu) HM.out.2.2.1 HM.out.2.2.2 (Nat.le_trans hbase hgrow1.size) ?_; intro v2 w2 hown2 hgrow2 _))
      all_goals
        go_ret
        refine ⟨v2, rfl, ?_, ?_⟩
        · rw [← H1.out, cellsOf_app]
          have e : (xs ++ L.drop i).length = xs.length + la := by
            have h := HLn.out
            rw [cellsOf_len] at h
            rw [List.length_append]; omega
          rw [e]; simpa using hown2
        · have h1 := HB.out.grown hgrow1 HB.out.size (fun k hk => (HO.out.lt k hk).1)
          exact h1.grown hgrow2 h1.size (fun k hk => (hown1.lt k hk).1)

end Go.Proofs.YtffiddpnkiejkaaGreat
