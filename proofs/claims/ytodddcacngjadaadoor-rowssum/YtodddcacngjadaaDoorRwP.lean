/-
  The walk of Pick, for a row of nodes and the one name k.
-/
import Derived.Test.YtodddcacngjadaaDoorRwO
import Derived.Deep.RegionHeldLaw
import Derived.Deep.DeepCutAuto
namespace Go.Proofs.YtodddcacngjadaaDoor
open Go.RowKit
set_option linter.unusedVariables false
set_option linter.unusedSimpArgs false

theorem own_isR {w : World} {base : Nat} {v : Value} {p : Pr} (h : w.ownsRow base 43 4 v 1 p.cells) : IsR w v [p] := by
  have hc : ∀ g, v.ownBlock = some g → ∀ j u, p.cells[j]? = some u → w.cell? ((⟨g, 0, none⟩ : Addr).add j) = some u := fun g hg => h.cells hg
  rcases h.2 with ⟨rfl, h0⟩ | ⟨g, cap, cur, rfl, hb, hg, hle, hcm, hcs, ht⟩
  · exact absurd h0 (by decide)
  · refine ⟨_, cap, rfl, .inr ⟨g, 0, rfl, (Array.getElem?_eq_some_iff.1 hg).1, fun k q hq => ?_⟩⟩
    match k, hq with
    | 0, hq =>
      obtain rfl : p = q := by simpa using hq
      have d0 := hc g rfl 0 _ rfl
      have d1 := hc g rfl 1 _ rfl
      have d2 := hc g rfl 2 _ rfl
      have d3 := hc g rfl 3 _ rfl
      rw [Addr.add_lit] at d0 d1 d2 d3
      exact ⟨d0, d1, d2, d3⟩
    | k + 1, hq => simp at hq
/-- The records that are picked. -/
def PkR (W : World) (k : Nat) (v : Value) (wr : World) : Prop := ∃ C : List Value, C.length = k ∧ wr.ownsRow W.heap.size 45 1 v k C ∧ (∀ (j : Nat) u, C[j]? = some u → wr.ownsRow W.heap.size 43 4 u 1 (prK ((j : Int) + 1)).cells) ∧ Below W.heap.size W wr
theorem pkR_isRs {W wr : World} {k : Nat} {v : Value} (h : PkR W k v wr) : ∃ L : List Rv, L.length = k ∧ IsRs wr v L ∧ ∀ (j : Nat) x, L[j]? = some x → x.rc = [prK ((j : Int) + 1)] := by
  obtain ⟨C, hl, ho, hC, hB⟩ := h
  refine ⟨C.mapIdx fun j u => ⟨u, [prK ((j : Int) + 1)]⟩, by simp [hl], ?_, ?_⟩
  · have hc : ∀ g, v.ownBlock = some g → ∀ j u, C[j]? = some u → wr.cell? ((⟨g, 0, none⟩ : Addr).add j) = some u := fun g hg => ho.cells hg
    rcases ho.2 with ⟨rfl, h0⟩ | ⟨g, cap, cur, rfl, hb, hg, hle, hcm, hcs, ht⟩
    · exact ⟨none, 0, by simp [hl, h0], .inl (List.eq_nil_of_length_eq_zero (by simp [hl, h0]))⟩
    · refine ⟨_, cap, by simp [hl], .inr ⟨g, 0, rfl, (Array.getElem?_eq_some_iff.1 hg).1, fun j x hx => ?_⟩⟩
      rw [List.getElem?_mapIdx] at hx
      obtain ⟨u, hu, rfl⟩ := Option.map_eq_some_iff.1 hx
      have d0 := hc g rfl j u hu
      rw [Addr.add_lit] at d0
      exact ⟨d0, own_isR (hC j u hu)⟩
  · intro j x hx
    rw [List.getElem?_mapIdx] at hx
    obtain ⟨u, hu, rfl⟩ := Option.map_eq_some_iff.1 hx
    rfl
theorem step_append_ownR {P : Program} {ops : Array Oper} {o : Oper} {a : Act} {w : World} {K : Act → World → Prop} {Q : Exit → Act → World → Prop} {E : Prop}
    (hg : o.guard = none) (s x : Operand) (t : TypeId) (ho : o.op = .call { callee := .builtin .append, args := #[s, x], argTypes := #[t, t] })
    (base : Nat) (e : TypeId) (i : TypeInfo) (z : Value) (size bytes : Nat) (ht : P.underlying t = some (.slice e)) (hi : P.info? e = some i) (hz : i.zero = some z)
    (hsize : i.size = size) (hby : i.bytes = bytes) (hzs : z.cells.size = size) (hsz : 0 < size)
    (v : Value) (n : Nat) (xs : List Value) (hs : a.eval s = v) (hown : w.ownsRow base e size v n xs)
    (ad : Addr) (m c : Nat) (news : List Value) (hx : a.eval x = .slice (some ad) m c) (hl : news.length = m * size) (hnews : ∀ j u, news[j]? = some u → w.cell? (ad.add j) = some u) (h1 : ∀ u ∈ news, u.oneCell' = true)
    (h63 : n + m ≤ maxLen) (hbytes : (n + m) * bytes ≤ 140737488355328) (hbase : base ≤ w.heap.size)
    (hK : ∀ v' w', w'.ownsRow base e size v' (n + m) (xs ++ news) → w.grownBy w' v.ownBlock → K (a.put o.dst v') w') :
    if Region.wanted o (yielded ops a.tmps) = true then Oper.wp P o a w K Q else E := by
  have hw : Region.wanted o (yielded ops a.tmps) = true := by simp [Region.wanted, hg]
  rw [if_pos hw]
  exact wp_append_own w s x t ho base e i z size bytes ht hi hz hsize hby hzs hsz v n xs hs hown ad m c news hx hl hnews h1 h63 hbytes hbase (fun v' w' h2 h3 _ => hK v' w' h2 h3)
theorem own_kdrew {w : World} {base : Nat} {e : TypeId} {size : Nat} {v : Value} {n : Nat} {xs : List Value} (h : w.ownsRow base e size v n xs) : w.drew.ownsRow base e size v n xs := h
def PkI (W : World) (n : Nat) (v i : Value) (wr : World) : Prop := ∃ k : Nat, k ≤ n ∧ i = .int .i64 (k : Int) ∧ PkR W k v wr
theorem pkR_step {W wr W1 w1 : World} {k : Nat} {v u v1 : Value} {C : List Value} (hl : C.length = k) (ho : wr.ownsRow W.heap.size 45 1 v k C) (hC : ∀ (j : Nat) u, C[j]? = some u → wr.ownsRow W.heap.size 43 4 u 1 (prK ((j : Int) + 1)).cells) (hB : Below W.heap.size W wr)
    (hB1 : Below wr.heap.size wr W1) (hu : W1.ownsRow wr.heap.size 43 4 u 1 (prK ((k : Int) + 1)).cells) (o : Obj) (hown : w1.ownsRow W.heap.size 45 1 v1 (k + 1) (C ++ [u])) (hg : (W1.alloc o).grownBy w1 v.ownBlock) : PkR W (k + 1) v1 w1 := by
  have hk45 : (W1.alloc o).ownsRow W.heap.size 45 1 v k C := (own_kt ho (Kt.of_below hB1)).alloc _
  have hkt : Kt 43 (W1.alloc o) w1 := Kt.of_own hk45 (by decide) hg
  refine ⟨C ++ [u], by simp [hl], hown, fun j u' hu' => ?_, ?_⟩
  · by_cases hj : j < k
    · rw [List.getElem?_append_left (by omega)] at hu'
      exact own_kt ((own_kt (hC j u' hu') (Kt.of_below hB1)).alloc _) hkt
    · have hjl := (List.getElem?_eq_some_iff.1 hu').1
      simp at hjl
      obtain rfl : j = k := by omega
      rw [List.getElem?_append_right (by omega), hl, Nat.sub_self] at hu'
      obtain rfl : u = u' := by simpa using hu'
      exact own_kt ((own_base hu hB.size).alloc _) hkt
  · exact below_grown (b_allocR (on1R hB hB1) _) hg (b_allocR (on1R hB hB1) _).size (fun j hj => (hk45.lt j hj).1)

set_option maxHeartbeats 8000000 in
set_option maxRecDepth 100000 in
theorem pick_row {an am : Option Addr} {cn cm n : Nat} {vw : Value} {N : List Nd} {w : World} (hln : N.length = n) (hN : IsN w (.slice an n cn) N) (hT : IsT w (.slice am 0 cm) []) (hrow : ∀ (j : Nat) (x : Nd), N[j]? = some x → x.id = (j : Int) + 1 ∧ x.kd = ⟨#[97]⟩ ∧ x.rc = [prK ((j : Int) + 1)]) (hg : gErr N [] = 0) (hzN : SzN N)
    (hW : IsW w vw n) (hl : n ≤ 50) (i' : Int) (ha : n = 0 ∨ i' = 0 ∨ i' = 1) (b c : Nat) (hb : b < w.heap.size) (hc : w.cell? ⟨b, 0, none⟩ = some (.string ⟨#[107]⟩)) :
    Calls Tryd.prog 5 #[.agg #[.slice an n cn, .slice am 0 cm], vw, .int .i64 i', .slice (some ⟨b, 0, none⟩) 1 c] w fun e w' => ∃ v, e = .returned (.tuple #[v, .nilIface]) ∧ Below w.heap.size w w' ∧ ∃ W, w.heap.size ≤ W.heap.size ∧ PkR W n v w' := by
  obtain ⟨i0, hi0, hz0, hz1, hz2⟩ := info_partsR infoRc
  obtain ⟨W0, hW0⟩ : ∃ W0, W0 = (w.alloc (.cells #[.slice an n cn, .slice am 0 cm] 25)).alloc (.cells #[.slice (some ⟨b, 0, none⟩) 1 c] 34) := ⟨_, rfl⟩
  have hB0 : Below w.heap.size w W0 := by rw [hW0]; exact b_allocR (b_allocR (Below.refl _ _) _) _
  have hs0 : W0.heap.size = w.heap.size + 2 := by rw [hW0]; simp
  have n0 : W0.heap[w.heap.size]? = some (.cells #[.slice an n cn, .slice am 0 cm] 25 (0, 0)) := by rw [hW0]; exact (heap_alloc_old _ _ (by simp)).trans (heap_alloc_new w _)
  have n1 : W0.heap[w.heap.size + 1]? = some (.cells #[.slice (some ⟨b, 0, none⟩) 1 c] 34 (0, 0)) := by
    rw [hW0]
    have := heap_alloc_new (w.alloc (.cells #[.slice an n cn, .slice am 0 cm] 25)) (.cells #[.slice (some ⟨b, 0, none⟩) 1 c] 34)
    rwa [World.size_alloc] at this
  have HB := Lib.hid (fun (X : World) (hX : Below W0.heap.size W0 X) => (show Below w.heap.size w X ∧ X.cell? ⟨w.heap.size, 0, none⟩ = some (.slice an n cn) ∧ X.cell? ⟨w.heap.size, 1, none⟩ = some (.slice am 0 cm) ∧ X.cell? ⟨w.heap.size + 1, 0, none⟩ = some (.slice (some ⟨b, 0, none⟩) 1 c) ∧ w.heap.size + 1 < X.heap.size from
    ⟨on1R hB0 hX, cell_at ((hX.block _ (by omega)).trans n0) rfl, cell_at ((hX.block _ (by omega)).trans n0) rfl, cell_at ((hX.block _ (by omega)).trans n1) rfl, by have := hX.size; omega⟩))
  have c9 := fun (X : World) (hX : Below w.heap.size w X) => gcheck_any (hN.on hX) (hT.on hX) hzN (fun t ht => by simp at ht) (by rw [hln]; unfold maxLen; omega) (by simp)
  rw [hg, errV_0] at c9
  have c10 := fun (X : World) (hX : Below w.heap.size w X) => nodesAt_row (hN.on hX) (fun j x hx => (hrow j x hx).1) (by rw [hln]; exact hW.on hX) (by omega) i' (by rw [hln]; exact ha)
  have c11 := fun (X : World) (hX : Below w.heap.size w X) => checkNames_k b c X (Nat.lt_of_lt_of_le hb hX.size) ((hX.cell (p := ⟨b, 0, none⟩) hb).trans hc)
  rw [hln] at c10
  obtain ⟨aw, cw, rfl, _⟩ := hW
  have hgt : ((200 : Int) < (n : Int)) = False := by simp; omega
  obtain ⟨_, p0, p1, p2, _⟩ := HB.out W0 (Below.refl _ _)
  have HR := Lib.hid hrow
  have HNN := Lib.hid hN
  have HCC := Lib.hid (And.intro hb hc)
  clear hN hT hzN hg n0 n1 hrow ha
  go_enter Tryd.func5, Tryd.ntmps5
  go_upto_region 1 with fail
  rw [← hW0]
  have HW0 := Lib.hid hW0
  clear hW0
  go_wp2_with (first | (go_at_call 9; refine (c9 W0 hB0).mono ?_; rintro e W1 ⟨rfl, hB1⟩; obtain ⟨hb1, r0, r1, r2, _⟩ := HB.out W1 hB1) | (go_at_call 10; refine (c10 W1 hb1).mono ?_; rintro e W2 ⟨vf, rfl, ho2, hB2⟩; obtain ⟨hb2, t0, t1, t2, t3⟩ := HB.out W2 (on1R hB1 hB2)) | (go_at_call 11; refine (c11 W2 hb2).mono ?_; rintro e w' ⟨rfl, rfl⟩; refine Hid.out ?_))
  refine Lib.hid ?_
  obtain ⟨b2, hc2⟩ : ∃ q, q = w' := ⟨_, rfl⟩
  have hI2 := ho2
  have hrecs : ∀ x ∈ N, IsR w' x.rv x.rc := fun x hx => by
    obtain ⟨j, hj⟩ := List.mem_iff_getElem?.1 hx
    obtain ⟨_, _, _, _, h0 | ⟨bn, on, _, _, hLN⟩⟩ := HNN.out
    · rw [h0] at hx; simp at hx
    · exact (hLN j x hj).2.2.2.on hb2
  rw [← hln] at hI2
  have hI3 := own_isN hI2 hrecs
  obtain ⟨af, cf, rfl, hcf, hcl⟩ := hI3
  have HCL := Lib.hid hcl
  have HX := Lib.hid (And.intro hb2 (And.intro t2 t3))
  have hbb : b < w'.heap.size := Nat.lt_of_lt_of_le HCC.out.1 hb2.size
  have hcc : w'.cell? ⟨b, 0, none⟩ = some (.string ⟨#[107]⟩) := (hb2.cell (p := ⟨b, 0, none⟩) HCC.out.1).trans HCC.out.2
  have HBC := Lib.hid (And.intro hbb hcc)
  clear hI2 hcl c9 c10 c11 ho2 hrecs hcc hbb hb1 hb2 r0 r1 r2 t0 t1 hB1 hB2 p0 p1 p2 HNN hB0 hc2 b2
  rw [hln]
  go_wp2
  go_loopw [15, 46] (fun v i wr => PkI w' n v i wr) (fun _ i _ => n - (intOf i).toNat)
  case atStart => exact ⟨0, Nat.zero_le _, rfl, [], rfl, World.ownsRow_nil _ _ _ _, fun j u hu => by simp at hu, Below.refl _ _⟩
  case round =>
    obtain ⟨k, hk, rfl, C, hCl, hO, hC, hB⟩ := hrel
    by_cases hlt : k < n
    · obtain ⟨x, hx⟩ : ∃ x, N[k]? = some x := ⟨_, List.getElem?_eq_getElem (by omega)⟩
      obtain ⟨b3, off, rfl, hbl, hL⟩ := HCL.out.resolve_left (fun e => by rw [e] at hln; simp at hln; omega)
      obtain ⟨d0, d1, d2, hR⟩ := (hL.on hbl hB) k x hx
      obtain ⟨_, _, hrc⟩ := HR.out k x hx
      rw [hrc] at hR
      obtain ⟨xi, xk, xv, xc⟩ := x
      simp only at d0 d1 d2 hR hrc
      obtain ⟨ra, rn, hrv⟩ : ∃ ra rn, xv = .slice ra 1 rn := by obtain ⟨a, c, e, _⟩ := hR; exact ⟨a, c, e⟩
      subst hrv
      have hBX := on1R HX.out.1 hB
      have hBA : Below wr.heap.size wr (wr.alloc (.cells #[.int .i64 xi, .string xk, .slice ra 1 rn] 47)) := b_allocR (Below.refl _ _) _
      have cK := fun (X : World) (hX : Below wr.heap.size wr X) => kept_k ((k : Int) + 1) (w.heap.size + 1) b c (hR.on hX) (Nat.lt_of_lt_of_le HBC.out.1 (on1R hB hX).size) (((on1R hB hX).cell (p := ⟨b, 0, none⟩) HBC.out.1).trans HBC.out.2) (((on1R hB hX).cell (p := ⟨w.heap.size + 1, 0, none⟩) HX.out.2.2).trans HX.out.2.1) (Nat.lt_of_lt_of_le HX.out.2.2 (on1R hB hX).size)
      have cK1 := cK _ hBA
      have cK2 := cK _ (b_drewK hBA 1)
      have q2 : (wr.alloc (.cells #[.int .i64 xi, .string xk, .slice ra 1 rn] 47)).cell? ⟨wr.heap.size, 2, none⟩ = some (.slice ra 1 rn) := cell_at (heap_alloc_new wr _) rfl
      have HM : Hid (k + 1 ≤ maxLen ∧ (k + 1) * 24 ≤ 140737488355328) := ⟨by unfold maxLen; omega, by omega⟩
      have HK : Hid (wr.ownsRow w'.heap.size 45 1 u15 k C ∧ (∀ (j : Nat) u, C[j]? = some u → wr.ownsRow w'.heap.size 43 4 u 1 (prK ((j : Int) + 1)).cells) ∧ Below w'.heap.size w' wr ∧ Below wr.heap.size wr (wr.alloc (.cells #[.int .i64 xi, .string xk, .slice ra 1 rn] 47))) := ⟨hO, hC, hB, hBA⟩
      have HCl := Lib.hid hCl
      clear cK hO hC hB hBX hBA hL hR hrc hx hCl
      go_wp2_with (first | (go_at_call 14; refine cK1.mono ?_; rintro e W4 ⟨u4, rfl, hu4, hB4⟩; obtain ⟨ua, uc, rfl⟩ := own_slice hu4; have HU := Lib.hid (And.intro (own_base hu4 (show wr.heap.size ≤ _ by simp)) (on1R HK.out.2.2.2 hB4)); have HO1 := Lib.hid ((own_kt HK.out.1 (Kt.of_below HU.out.2)).alloc (.cells #[.slice ua 1 uc] 45)); have HSZ : Hid (w'.heap.size ≤ (W4.alloc (.cells #[.slice ua 1 uc] 45)).heap.size) := (by have := HK.out.2.2.1.size; have := HU.out.2.size; show _ ≤ _; simp; omega); clear hu4 hB4) | (at_builtin; refine wpList_append_own _ rfl (.tmp 50) (.tmp 55) 29 rfl w'.heap.size 45 i0 _ 1 24 Tryd.underlying29 hi0 hz0 hz1 hz2 rfl (by decide) u15 k C rfl HO1.out ⟨W4.heap.size, 0, none⟩ 1 1 [.slice ua 1 uc] rfl rfl (new_at W4 [.slice ua 1 uc] 45) (by simp [Value.oneCell']) HM.out.1 HM.out.2 HSZ.out ?_; intro v1 w1 hown hgrow _))
      have R : PkI w' n v1 (.int .i64 ((k : Int) + 1)) w1 := ⟨k + 1, by omega, by go_num, pkR_step HCl.out HK.out.1 HK.out.2.1 HK.out.2.2.1 HU.out.2 HU.out.1 _ hown hgrow⟩
      refine ⟨?_, ?_⟩
      · first | exact R | ((repeat apply Exists.intro); refine ⟨?_, rfl⟩; exact R)
      · simp [intOf]; omega
    · obtain rfl : k = n := by omega
      have HF : Hid (Below w.heap.size w wr ∧ ∃ W : World, w.heap.size ≤ W.heap.size ∧ PkR W k u15 wr) := ⟨on1R HX.out.1 hB, w', HX.out.1.size, C, hCl, hO, hC, hB⟩
      clear hO hC hB
      go_wp2
      go_ret2
      exact ⟨_, rfl, HF.out⟩

set_option maxHeartbeats 8000000 in
set_option maxRecDepth 100000 in
theorem pick_out {an am : Option Addr} {cn cm n : Nat} {vw vk : Value} {N : List Nd} {w : World} (hln : N.length = n) (hN : IsN w (.slice an n cn) N) (hT : IsT w (.slice am 0 cm) []) (hrow : ∀ (j : Nat) (x : Nd), N[j]? = some x → x.id = (j : Int) + 1 ∧ x.kd = ⟨#[97]⟩ ∧ x.rc = [prK ((j : Int) + 1)]) (hg : gErr N [] = 0) (hzN : SzN N)
    (hW : IsW w vw n) (hl : n ≤ 50) (hp : 0 < n) (i' : Int) (ha : i' < 0 ∨ 1 < i') (b c : Nat) :
    Calls Tryd.prog 5 #[.agg #[.slice an n cn, .slice am 0 cm], vw, .int .i64 i', .slice (some ⟨b, 0, none⟩) 1 c] w fun e w' => e = .returned (.tuple #[.slice none 0 0, .iface 51 (.int .i64 1)]) ∧ Below w.heap.size w w' := by
  obtain ⟨W0, hW0⟩ : ∃ W0, W0 = (w.alloc (.cells #[.slice an n cn, .slice am 0 cm] 25)).alloc (.cells #[.slice (some ⟨b, 0, none⟩) 1 c] 34) := ⟨_, rfl⟩
  have hB0 : Below w.heap.size w W0 := by rw [hW0]; exact b_allocR (b_allocR (Below.refl _ _) _) _
  have hs0 : W0.heap.size = w.heap.size + 2 := by rw [hW0]; simp
  have n0 : W0.heap[w.heap.size]? = some (.cells #[.slice an n cn, .slice am 0 cm] 25 (0, 0)) := by rw [hW0]; exact (heap_alloc_old _ _ (by simp)).trans (heap_alloc_new w _)
  have HB := Lib.hid (fun (X : World) (hX : Below W0.heap.size W0 X) => (show Below w.heap.size w X ∧ X.cell? ⟨w.heap.size, 0, none⟩ = some (.slice an n cn) ∧ X.cell? ⟨w.heap.size, 1, none⟩ = some (.slice am 0 cm) from
    ⟨on1R hB0 hX, cell_at ((hX.block _ (by omega)).trans n0) rfl, cell_at ((hX.block _ (by omega)).trans n0) rfl⟩))
  have c9 := fun (X : World) (hX : Below w.heap.size w X) => gcheck_any (hN.on hX) (hT.on hX) hzN (fun t ht => by simp at ht) (by rw [hln]; unfold maxLen; omega) (by simp)
  rw [hg, errV_0] at c9
  have c10 := fun (X : World) (hX : Below w.heap.size w X) => nodesAt_out (hN.on hX) (fun j x hx => (hrow j x hx).1) (by rw [hln]; exact hW.on hX) (by omega) (by omega) i' ha
  obtain ⟨aw, cw, rfl, _⟩ := hW
  have hgt : ((200 : Int) < (n : Int)) = False := by simp; omega
  obtain ⟨_, p0, p1⟩ := HB.out W0 (Below.refl _ _)
  clear hN hT hzN hg n0 hrow ha
  go_enter Tryd.func5, Tryd.ntmps5
  go_upto_region 1 with fail
  rw [← hW0]
  clear hW0
  go_wp2_with (first | (go_at_call 9; refine (c9 W0 hB0).mono ?_; rintro e W1 ⟨rfl, hB1⟩; obtain ⟨hb1, r0, r1⟩ := HB.out W1 hB1) | (go_at_call 10; refine (c10 W1 hb1).mono ?_; rintro e W2 ⟨rfl, hB2⟩))
  go_ret2
  exact ⟨rfl, on1R hb1 hB2⟩
end Go.Proofs.YtodddcacngjadaaDoor
