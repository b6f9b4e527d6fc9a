/-
  Rows that a call itself made, of kinds, fields and names; the walk of slices.Reverse.
-/
import Derived.Test.YtgjlonilbhlneaaGreatDoorM02
import Derived.Shelf.SlicesQ.Reverse
import Derived.Lib.OwnBridge
import Derived.Laws.AppendOwnNone
namespace Go.Proofs.YtgjlonilbhlneaaGreatDoor
open Go.RowKit Go.Shelf
set_option linter.unusedVariables false
set_option linter.unusedSimpArgs false

theorem flat_len {α : Type} (enc : α → List Value) (s : Nat) (hs : ∀ x, (enc x).length = s) (L : List α) : (L.flatMap enc).length = L.length * s := by
  induction L with
  | nil => simp
  | cons x r ih => simp only [List.flatMap_cons, List.length_append, List.length_cons, ih, hs, Nat.add_mul]; omega
theorem flat_at {α : Type} (enc : α → List Value) (s : Nat) (hs : ∀ x, (enc x).length = s) : ∀ (L : List α) (k : Nat) (x : α) (i : Nat), L[k]? = some x → i < s → (L.flatMap enc)[k * s + i]? = (enc x)[i]? := by
  intro L
  induction L with
  | nil => intro k x i h; simp at h
  | cons y r ih =>
    intro k x i h hi
    rw [List.flatMap_cons]
    cases k with
    | zero =>
      simp at h; subst h
      rw [Nat.zero_mul, Nat.zero_add, List.getElem?_append_left (by rw [hs]; exact hi)]
    | succ k =>
      rw [List.getElem?_append_right (by rw [hs, Nat.add_mul]; omega), hs, show (k + 1) * s + i - s = k * s + i by rw [Nat.add_mul]; omega]
      exact ih k x i (by simpa using h) hi

def cellsK (L : List Kd) : List Value := L.flatMap Kd.cells
def cellsF (L : List Fd) : List Value := L.flatMap Fd.cells
def cellsS (L : List Nm) : List Value := L.map fun n => .string (bs n)
theorem cellsK_len (L : List Kd) : (cellsK L).length = L.length * 3 := flat_len _ 3 (fun _ => rfl) L
theorem cellsF_len (L : List Fd) : (cellsF L).length = L.length * 4 := flat_len _ 4 (fun _ => rfl) L
theorem cellsS_len (L : List Nm) : (cellsS L).length = L.length * 1 := by simp [cellsS]
theorem cellsK_app (L M : List Kd) : cellsK (L ++ M) = cellsK L ++ cellsK M := by simp [cellsK]
theorem cellsF_app (L M : List Fd) : cellsF (L ++ M) = cellsF L ++ cellsF M := by simp [cellsF]
theorem cellsS_app (L M : List Nm) : cellsS (L ++ M) = cellsS L ++ cellsS M := by simp [cellsS]
def OneK (L : List Kd) : Prop := ∀ k ∈ L, k.vo.oneCell' = true ∧ k.vf.oneCell' = true
theorem IsS.one {w : World} {v : Value} {l : List Nm} (h : IsS w v l) : v.oneCell' = true := by
  rcases h with ⟨ao, c, rfl, _⟩ | ⟨b, off, cap, rfl, _⟩ <;> rfl
theorem IsF.one {w : World} {v : Value} {l : List Fd} (h : IsF w v l) : v.oneCell' = true := by
  rcases h with ⟨ao, c, rfl, _⟩ | ⟨b, off, cap, rfl, _⟩ <;> rfl
theorem Parts.one {w : World} {L : List Kd} (h : Parts w L) : OneK L := fun k hk => ⟨(h k hk).1.one, (h k hk).2.one⟩
theorem cellsF_one (L : List Fd) : ∀ u ∈ cellsF L, u.oneCell' = true := by
  intro u hu
  obtain ⟨p, hm, hp⟩ := List.mem_flatMap.1 hu
  simp [Fd.cells] at hp
  rcases hp with rfl | rfl | rfl | rfl <;> rfl
theorem cellsS_one (L : List Nm) : ∀ u ∈ cellsS L, u.oneCell' = true := by
  intro u hu
  obtain ⟨p, hm, rfl⟩ := List.mem_map.1 hu
  rfl

theorem info61 : (Tryz.prog.info? 55).map (fun i => (i.zero, i.size, i.bytes)) = some (some (.agg #[.string ⟨#[]⟩, .slice none 0 0, .slice none 0 0]), 3, 64) := by kernel_rfl
theorem info59 : (Tryz.prog.info? 52).map (fun i => (i.zero, i.size, i.bytes)) = some (some (.agg #[.string ⟨#[]⟩, .int .i64 0, .bool false, .bool false]), 4, 32) := by kernel_rfl
theorem info9 : (Tryz.prog.info? 9).map (fun i => (i.zero, i.size, i.bytes)) = some (some (.string ⟨#[]⟩), 1, 16) := by kernel_rfl

theorem own_isK {w : World} {base : Nat} {v : Value} {M : List Kd} (h : w.ownsRow base 55 3 v M.length (cellsK M)) : IsK w v M := by
  have hc : ∀ g, v.ownBlock = some g → ∀ j u, (cellsK M)[j]? = some u → w.cell? ((⟨g, 0, none⟩ : Addr).add j) = some u := fun g hg => h.cells hg
  rcases h.2 with ⟨rfl, h0⟩ | ⟨g, cap, cur, rfl, hb, hg, hle, hcm, hcs, ht⟩
  · exact .inl ⟨rfl, List.eq_nil_of_length_eq_zero h0⟩
  · refine .inr ⟨g, 0, cap, rfl, hle, hcm, (Array.getElem?_eq_some_iff.1 hg).1, fun k p hp => ?_⟩
    have hat := flat_at Kd.cells 3 (fun _ => rfl) M k p
    have hc' := hc g rfl
    have d0 := hc' _ _ ((hat 0 hp (by decide)).trans rfl)
    have d1 := hc' _ _ ((hat 1 hp (by decide)).trans rfl)
    have d2 := hc' _ _ ((hat 2 hp (by decide)).trans rfl)
    rw [Addr.add_lit] at d0 d1 d2
    exact ⟨d0, by rw [Nat.add_assoc]; exact d1, by rw [Nat.add_assoc]; exact d2⟩
theorem own_isF {w : World} {base : Nat} {v : Value} {M : List Fd} (h : w.ownsRow base 52 4 v M.length (cellsF M)) : IsF w v M := by
  have hc : ∀ g, v.ownBlock = some g → ∀ j u, (cellsF M)[j]? = some u → w.cell? ((⟨g, 0, none⟩ : Addr).add j) = some u := fun g hg => h.cells hg
  rcases h.2 with ⟨rfl, h0⟩ | ⟨g, cap, cur, rfl, hb, hg, hle, hcm, hcs, ht⟩
  · exact .inl ⟨none, 0, rfl, List.eq_nil_of_length_eq_zero h0, by decide, fun _ => rfl⟩
  · refine .inr ⟨g, 0, cap, rfl, hle, hcm, (Array.getElem?_eq_some_iff.1 hg).1, fun k p hp => ?_⟩
    have hat := flat_at Fd.cells 4 (fun _ => rfl) M k p
    have hc' := hc g rfl
    have d0 := hc' _ _ ((hat 0 hp (by decide)).trans rfl)
    have d1 := hc' _ _ ((hat 1 hp (by decide)).trans rfl)
    have d2 := hc' _ _ ((hat 2 hp (by decide)).trans rfl)
    have d3 := hc' _ _ ((hat 3 hp (by decide)).trans rfl)
    rw [Addr.add_lit] at d0 d1 d2 d3
    exact ⟨d0, by rw [Nat.add_assoc]; exact d1, by rw [Nat.add_assoc]; exact d2, by rw [Nat.add_assoc]; exact d3⟩
theorem own_isS {w : World} {base : Nat} {v : Value} {M : List Nm} (h : w.ownsRow base 9 1 v M.length (cellsS M)) : IsS w v M := by
  have hc : ∀ g, v.ownBlock = some g → ∀ j u, (cellsS M)[j]? = some u → w.cell? ((⟨g, 0, none⟩ : Addr).add j) = some u := fun g hg => h.cells hg
  rcases h.2 with ⟨rfl, h0⟩ | ⟨g, cap, cur, rfl, hb, hg, hle, hcm, hcs, ht⟩
  · exact .inl ⟨none, 0, rfl, List.eq_nil_of_length_eq_zero h0, by decide, fun _ => rfl⟩
  · refine .inr ⟨g, 0, cap, rfl, hle, hcm, (Array.getElem?_eq_some_iff.1 hg).1, fun k p hp => ?_⟩
    have d0 := hc g rfl k (.string (bs p)) (by simp [cellsS, hp])
    rw [Addr.add_lit] at d0
    exact d0
theorem own_slice {w : World} {base : Nat} {e : TypeId} {size : Nat} {v : Value} {n : Nat} {xs : List Value} (h : w.ownsRow base e size v n xs) : ∃ ao cp, v = .slice ao n cp := by
  rcases h.2 with ⟨rfl, rfl⟩ | ⟨g, cap, cur, rfl, _⟩
  · exact ⟨none, 0, rfl⟩
  · exact ⟨_, _, rfl⟩
theorem own_base {w : World} {base base' : Nat} {e : TypeId} {size : Nat} {v : Value} {n : Nat} {xs : List Value} (h : w.ownsRow base e size v n xs) (hb : base' ≤ base) : w.ownsRow base' e size v n xs := by
  refine ⟨h.1, ?_⟩
  rcases h.2 with h | ⟨g, cap, cur, hv, hg, rest⟩
  · exact .inl h
  · exact .inr ⟨g, cap, cur, hv, Nat.le_trans hb hg, rest⟩
theorem own_apart {w : World} {base base' : Nat} {e e' : TypeId} {size size' : Nat} {v v' : Value} {n n' : Nat} {xs xs' : List Value} (h : w.ownsRow base e size v n xs) (h' : w.ownsRow base' e' size' v' n' xs') (hne : e ≠ e') :
    v.ownBlock = none ∨ v.ownBlock ≠ v'.ownBlock := by
  rcases h.2 with ⟨rfl, _⟩ | ⟨g, cap, cur, rfl, hb, hg, _⟩
  · exact .inl rfl
  · right
    rcases h'.2 with ⟨rfl, _⟩ | ⟨g', cap', cur', rfl, hb', hg', _⟩
    · intro h; cases h
    · intro e1
      have e2 : g = g' := by simpa [Value.ownBlock] using e1
      subst e2
      rw [hg] at hg'
      injection hg' with e3
      injection e3 with _ e4 _
      exact hne e4
theorem own_lit {w : World} {e : TypeId} {size : Nat} (cur : Array Value) (n : Nat) (hs : cur.size = n * size) (hm : n ≤ maxLen) : (w.alloc (.cells cur e)).ownsRow w.heap.size e size (.slice (some ⟨w.heap.size, 0, none⟩) n n) n cur.toList :=
  ⟨by simpa using hs, .inr ⟨w.heap.size, n, cur, rfl, Nat.le_refl _, heap_alloc_new w _, Nat.le_refl _, hm, hs, List.take_of_length_le (by simp; omega)⟩⟩
theorem new_at (w : World) (l : List Value) (e : TypeId) : ∀ j u, l[j]? = some u → (w.alloc (.cells l.toArray e)).cell? ((⟨w.heap.size, 0, none⟩ : Addr).add j) = some u := by
  intro j u hu
  rw [Addr.add_lit, Nat.zero_add, World.cell?_alloc_at (w := w) l.toArray e w.heap.size j rfl]
  simpa using hu

def one1 (v : Value) : Value := if v.oneCell' = true then v else .nilIface
theorem one1_one (v : Value) : (one1 v).oneCell' = true := by unfold one1; split <;> first | assumption | rfl
theorem one1_self {v : Value} (h : v.oneCell' = true) : one1 v = v := by unfold one1; rw [if_pos h]
def encK (k : Kd) : List Value := [.string (bs k.nm), one1 k.vo, one1 k.vf]
theorem encK_self {L : List Kd} (h : OneK L) : L.flatMap encK = cellsK L := by
  unfold cellsK
  induction L with
  | nil => rfl
  | cons k r ih =>
    have h1 := h k (by simp)
    rw [List.flatMap_cons, List.flatMap_cons, ih (fun x hx => h x (by simp [hx]))]
    simp [encK, Kd.cells, one1_self h1.1, one1_self h1.2]

def revRen : Go.Shelf.Ren := ⟨fun | 35 => 89 | n => n, fun | 22 => 22 | 23 => 55 | n => n, fun | n => n⟩
theorem revLays : Go.Proofs.SlLaysE0.n35 Tryz.prog revRen := {
  mixed := by kernel_rfl
  f35 := ⟨ "slices.Reverse[[]kinshape/api.Kind,kinshape/api.Kind]", by decide, Tryz.func89.trans (congrArg some (by kernel_rfl))⟩
  t0 := Tryz.underlying0
  a0 := Tryz.isAgg0
  z0 := Tryz.sizeOf0
  v0 := Tryz.zeroValue0
  t3 := Tryz.underlying3
  a3 := Tryz.isAgg3
  z3 := Tryz.sizeOf3
  v3 := Tryz.zeroValue3
  t4 := Tryz.underlying4
  a4 := Tryz.isAgg4
  z4 := Tryz.sizeOf4
  v4 := Tryz.zeroValue4
  t22 := Tryz.underlying22
  a22 := Tryz.isAgg22
  z22 := Tryz.sizeOf22
  v22 := Tryz.zeroValue22 }

theorem holds_own {w : World} {base g n cap : Nat} {e : TypeId} {size : Nat} {xs : List Value} (h : w.ownsRow base e size (.slice (some ⟨g, 0, none⟩) n cap) n xs) : Go.Sort.Holds id w g 0 xs.toArray := by
  have hc := h.cells (g := g) rfl
  rcases h.2 with ⟨h0, _⟩ | ⟨g', cap', cur, e0, hb, hg, hn, hm, hs, ht⟩
  · cases h0
  · injection e0 with e1 _ _
    injection e1 with e1
    injection e1 with e1
    subst e1
    intro j hj
    have hj' : j < xs.length := by simpa using hj
    have := hc j xs[j] (List.getElem?_eq_getElem hj')
    rw [Addr.add_lit] at this
    refine ⟨by rw [this]; simp [getElem!_pos, hj'], by simp [World.frozen?, hg]⟩
theorem own_putRow {w : World} {base g n cap q : Nat} {e : TypeId} {size : Nat} {xs ys : List Value} (h : w.ownsRow base e size (.slice (some ⟨g, 0, none⟩) n cap) n xs) (hy : ys.length = xs.length) :
    (Go.Sort.putRow id (Go.Sort.ahead w q) g 0 ys.toArray).ownsRow base e size (.slice (some ⟨g, 0, none⟩) n cap) n ys := by
  have hl := h.1
  rcases h.2 with ⟨h0, _⟩ | ⟨g', cap', cur, e0, hb, hg, hn, hm, hs, ht⟩
  · cases h0
  · injection e0 with e1 _ e3
    injection e1 with e1
    injection e1 with e1
    subst e1; subst e3
    refine ⟨by omega, .inr ⟨g, cap, Go.Sort.putCells id 0 ys.toArray cur, rfl, hb, ?_, hn, hm, by simpa [Go.Sort.putCells] using hs, ?_⟩⟩
    · simp [Go.Sort.putRow, Go.Sort.mapBlock, Go.Sort.ahead, Array.getElem?_modify, hg, Go.Sort.onCells]
    · apply List.ext_getElem?
      intro j
      rw [List.getElem?_take, Array.getElem?_toList]
      by_cases hj : j < n * size
      · have hjc : j < cur.size := by
          have := Nat.mul_le_mul_right size hn
          omega
        rw [if_pos hj]
        simp only [Go.Sort.putCells, Array.getElem?_mapIdx, Array.getElem?_eq_getElem hjc, Option.map_some]
        rw [if_pos (by simp; omega), List.getElem?_eq_getElem (by omega)]
        simp [getElem!_pos, show j < ys.length by omega]
      · rw [if_neg hj, List.getElem?_eq_none (by omega)]
theorem flatK_flat {α : Type} [Inhabited α] (enc : α → List Value) (s : Nat) (h0 : 0 < s) (hs : ∀ x, (enc x).length = s) (L : List α) : Go.Sort.flatK enc s L.toArray = (L.flatMap enc).toArray := by
  refine Go.Sort.ext_get! (by simp [flat_len enc s hs]) fun t ht => ?_
  have ht' : t < L.length * s := by simpa using ht
  rw [Go.Sort.get_flatK enc s L.toArray t (by simpa using ht')]
  have hq : t / s < L.length := (Nat.div_lt_iff_lt_mul h0).2 ht'
  have hr : t % s < s := Nat.mod_lt _ h0
  have hat := flat_at enc s hs L (t / s) L[t / s] (t % s) (List.getElem?_eq_getElem hq) hr
  rw [show t / s * s + t % s = t by rw [Nat.mul_comm]; exact Nat.div_add_mod t s] at hat
  have hl : t < (L.flatMap enc).length := by rw [flat_len enc s hs]; exact ht'
  have e1 : (L.flatMap enc).toArray[t]! = (L.flatMap enc)[t] := by rw [getElem!_pos _ t (by simpa using hl)]; simp
  have e2 : L.toArray[t / s]! = L[t / s] := by simp [getElem!_pos, hq]
  rw [e1, e2]
  rw [List.getElem?_eq_getElem hl, List.getElem?_eq_getElem (by rw [hs]; exact hr)] at hat
  rw [getElem!_pos (enc L[t / s]) (t % s) (by rw [hs]; exact hr)]
  exact (Option.some.inj hat).symm

theorem reverse_own {w : World} {base : Nat} {v : Value} {L : List Kd} (h : w.ownsRow base 55 3 v L.length (cellsK L)) (hone : OneK L) (hn : L.length ≤ 12) :
    Calls Tryz.prog 89 #[v] w fun e w' => e = .returned (.tuple #[]) ∧ w'.ownsRow base 55 3 v L.length (cellsK L.reverse) ∧ (∀ B w0, Below B w0 w → B ≤ base → Below B w0 w') := by
  have hh := h
  rcases h.2 with ⟨rfl, h0⟩ | ⟨g, cap, cur, rfl, hb, hg, hle, hcm, hcs, ht⟩
  · obtain rfl := List.eq_nil_of_length_eq_zero h0
    refine (AnyQ.slices_Reverse_empty revLays none 0 w).mono ?_
    rintro e w' ⟨rfl, rfl⟩
    exact ⟨rfl, hh, fun B w0 hB _ => hB⟩
  · haveI : Inhabited Kd := ⟨⟨[], [], [], .nilIface, .nilIface⟩⟩
    have hone' : OneK L.reverse := fun k hk => hone k (by simpa using hk)
    have hH : Go.Sort.HoldsK encK 3 w g 0 L.toArray := by
      unfold Go.Sort.HoldsK
      rw [flatK_flat encK 3 (by decide) (fun _ => rfl), encK_self hone]
      exact holds_own hh
    have c := AnyQ.slices_Reverse revLays 3 Tryz.isAgg55 Tryz.sizeOf55 encK (fun _ => rfl) (fun x u hu => by
      simp [encK] at hu
      rcases hu with rfl | rfl | rfl
      · rfl
      · exact one1_one _
      · exact one1_one _) g 0 cap L.toArray w hH (by simp; omega)
    have c' : Calls Tryz.prog 89 #[.slice (some ⟨g, 0, none⟩) L.length cap] w fun e w' => e = .returned (.tuple #[]) ∧ ∃ n, w' = Go.Sort.putRowK encK 3 (Go.Sort.ahead w n) g 0 L.toArray.reverse := c
    refine c'.mono ?_
    rintro e w' ⟨rfl, q, rfl⟩
    have e1 : Go.Sort.putRowK encK 3 (Go.Sort.ahead w q) g 0 L.toArray.reverse = Go.Sort.putRow id (Go.Sort.ahead w q) g 0 (cellsK L.reverse).toArray := by
      unfold Go.Sort.putRowK
      rw [show L.toArray.reverse = L.reverse.toArray by simp, flatK_flat encK 3 (by decide) (fun _ => rfl), encK_self hone']
    rw [e1]
    exact ⟨rfl, own_putRow hh (by rw [cellsK_len, cellsK_len]; simp), fun B w0 hB hBb => Lib.below_putRow hB (Nat.le_trans hBb hb)⟩
end Go.Proofs.YtgjlonilbhlneaaGreatDoor

/-
  The walk of kind.kinOf.
-/
namespace Go.Proofs.YtgjlonilbhlneaaGreatDoor
open Go.RowKit
set_option linter.unusedVariables false
set_option linter.unusedSimpArgs false

def KR (w : World) (L : List Kd) (nm0 : Nm) (v3 v4 i : Value) (wr : World) : Prop :=
  ∃ (j : Nat) (ns : List Nm) (kk : List Kd), j ≤ L.length ∧ i = .int .i64 ((j : Int) - 1) ∧ ns.length + 4 * j ≤ 1 + 4 * L.length ∧ kk.length + j ≤ L.length ∧
    back L.reverse [nm0] = kk ++ back (L.take j).reverse ns ∧ (∀ k ∈ kk, k ∈ L) ∧ wr.ownsRow w.heap.size 9 1 v3 ns.length (cellsS ns) ∧ wr.ownsRow w.heap.size 55 3 v4 kk.length (cellsK kk) ∧ Below w.heap.size w wr
theorem take_rev {L : List Kd} {k : Nat} {p : Kd} (h : L[k]? = some p) : (L.take (k + 1)).reverse = p :: (L.take k).reverse := by rw [takeK h]; simp
theorem kr_no {w wr : World} {L : List Kd} {nm0 : Nm} {k : Nat} {p : Kd} {ns : List Nm} {kk : List Kd} {v3 v4 i : Value} (hp : L[k]? = some p) (hn : hasN ns p.nm = false) (hi : i = .int .i64 ((k : Int) - 1))
    (h1 : ns.length + 4 * (k + 1) ≤ 1 + 4 * L.length) (h2 : kk.length + (k + 1) ≤ L.length) (h3 : back L.reverse [nm0] = kk ++ back (L.take (k + 1)).reverse ns) (h4 : ∀ k ∈ kk, k ∈ L)
    (ho3 : wr.ownsRow w.heap.size 9 1 v3 ns.length (cellsS ns)) (ho4 : wr.ownsRow w.heap.size 55 3 v4 kk.length (cellsK kk)) (hB : Below w.heap.size w wr) : KR w L nm0 v3 v4 i wr := by
  have hk := (List.getElem?_eq_some_iff.1 hp).1
  refine ⟨k, ns, kk, by omega, hi, by omega, by omega, ?_, h4, ho3, ho4, hB⟩
  rw [h3, take_rev hp]
  simp [back, hn]
theorem kr_yes {w wr : World} {L : List Kd} {nm0 : Nm} {k : Nat} {p : Kd} {ns : List Nm} {kk : List Kd} {v3 v4 i : Value} (hp : L[k]? = some p) (hn : hasN ns p.nm = true) (hi : i = .int .i64 ((k : Int) - 1))
    (h1 : ns.length + 4 * (k + 1) ≤ 1 + 4 * L.length) (h2 : kk.length + (k + 1) ≤ L.length) (h3 : back L.reverse [nm0] = kk ++ back (L.take (k + 1)).reverse ns) (h4 : ∀ k ∈ kk, k ∈ L) (h5 : p.of.length ≤ 4)
    (ho3 : wr.ownsRow w.heap.size 9 1 v3 (ns.length + p.of.length) (cellsS ns ++ cellsS p.of)) (ho4 : wr.ownsRow w.heap.size 55 3 v4 (kk.length + 1) (cellsK kk ++ p.cells)) (hB : Below w.heap.size w wr) : KR w L nm0 v3 v4 i wr := by
  have hk := (List.getElem?_eq_some_iff.1 hp).1
  refine ⟨k, ns ++ p.of, kk ++ [p], by omega, hi, by simp; omega, by simp; omega, ?_, ?_, ?_, ?_, hB⟩
  · rw [h3, take_rev hp]
    simp [back, hn]
  · intro x hx
    rcases List.mem_append.1 hx with hx | hx
    · exact h4 x hx
    · have : x = p := by simpa using hx
      subst this; exact List.mem_of_getElem? hp
  · rw [cellsS_app, List.length_append]; exact ho3
  · rw [cellsK_app, List.length_append]
    have : cellsK [p] = p.cells := by simp [cellsK]
    rw [this]; exact ho4
theorem app_names {w : World} {ops : Array Oper} {rest : List Oper} {o : Oper} {a : Act} {Q : Exit → Act → World → Prop} (hgd : o.guard = none) (s x : Operand)
    (ho : o.op = .call { callee := .builtin .append, args := #[s, x], argTypes := #[45, 45] }) (base : Nat)
    (v : Value) (ns l : List Nm) (hs : a.eval s = v) (hown : w.ownsRow base 9 1 v ns.length (cellsS ns)) (u : Value) (hx : a.eval x = u) (hl : IsS w u l) (h63 : ns.length + l.length ≤ 1000) (hbase : base ≤ w.heap.size)
    (h : ∀ v' w', w'.ownsRow base 9 1 v' (ns.length + l.length) (cellsS ns ++ cellsS l) → w.grownBy w' v.ownBlock → wpList Tryz.prog ops Q rest (a.put o.dst v') w') : wpList Tryz.prog ops Q (o :: rest) a w := by
  obtain ⟨i0, hi0, hz0, hz1, hz2⟩ := info_parts info9
  rcases hl with ⟨ao, c0, rfl, rfl, hc0, hcn⟩ | ⟨b, off, cap, rfl, hc, hm, hb, hl⟩
  · cases ao with
    | some ad =>
      refine wpList_append_own w hgd s x 45 ho base 9 i0 _ 1 16 Tryz.underlying45 hi0 hz0 hz1 hz2 rfl (by decide) v ns.length (cellsS ns) hs hown ad 0 c0 [] hx rfl (fun j u hu => by simp at hu) (fun u hu => by simp at hu) (by unfold maxLen; omega) (by omega) hbase (fun v' w' h1 h2 _ => h v' w' h1 h2)
    | none =>
      obtain rfl := hcn rfl
      refine wpList_append_own_none hgd s x 45 ho base 9 i0 1 Tryz.underlying45 hi0 v ns.length (cellsS ns) hs hown hx ?_
      exact h v w (by simpa [cellsS] using hown) ⟨rfl, rfl, rfl, Nat.le_refl _, fun _ _ _ => rfl⟩
  · refine wpList_append_own w hgd s x 45 ho base 9 i0 _ 1 16 Tryz.underlying45 hi0 hz0 hz1 hz2 rfl (by decide) v ns.length (cellsS ns) hs hown ⟨b, off, none⟩ l.length cap (cellsS l) hx (cellsS_len l) ?_ (cellsS_one l) (by unfold maxLen; omega) (by omega) hbase (fun v' w' h1 h2 _ => h v' w' h1 h2)
    intro j u hu
    rw [Addr.add_lit]
    unfold cellsS at hu
    rw [List.getElem?_map] at hu
    cases hn : l[j]? with
    | none => rw [hn] at hu; cases hu
    | some n =>
      rw [hn] at hu
      obtain rfl := Option.some.inj hu
      exact hl j n hn

set_option maxHeartbeats 4000000 in
set_option maxRecDepth 100000 in
theorem kinOf_some (b off cap : Nat) (L : List Kd) (z : Kd) (w : World) (hz : L.getLast? = some z) (hb : b < w.heap.size) (hL : LiesK w b off L) (hP : Parts w L) (hS : Small L) (hn : L.length ≤ 12) :
    Calls Tryz.prog 64 #[.slice (some ⟨b, off, none⟩) L.length cap] w fun e w' => ∃ v, e = .returned v ∧ w'.ownsRow w.heap.size 55 3 v (kinOf L).length (cellsK (kinOf L)) ∧ Below w.heap.size w w' := by
  obtain ⟨i0, hi0, hz0, hz1, hz2⟩ := info_parts info61
  have hl0 : 0 < L.length := by
    rcases Nat.eq_zero_or_pos L.length with h | h
    · rw [List.eq_nil_of_length_eq_zero h] at hz; simp at hz
    · exact h
  obtain ⟨m, hm⟩ : ∃ m, L.length = m + 1 := ⟨L.length - 1, by omega⟩
  have hzm : L[m]? = some z := by rw [List.getLast?_eq_getElem?, hm] at hz; simpa using hz
  obtain ⟨c0, c1, c2⟩ := hL m z hzm
  have hK : kinOf L = (back L.reverse [z.nm]).reverse := by unfold kinOf; rw [hz]
  have HH : Hid (LiesK w b off L ∧ Parts w L ∧ Small L ∧ L.length ≤ 12 ∧ L.length = m + 1 ∧ kinOf L = (back L.reverse [z.nm]).reverse) := ⟨hL, hP, hS, hn, hm, hK⟩
  have hm12 : m < 12 := by omega
  rw [hm]
  clear hz hL hP hS hn hzm hK hl0 hm c1 c2
  go_enter Tryz.func64, Tryz.ntmps64
  go_wp2
  go_loopw [3, 4, 5] (fun v3 v4 i wr => KR w L z.nm v3 v4 i wr) (fun _ _ i _ => (intOf i + 1).toNat)
  case atStart =>
    obtain ⟨hL, hP, hS, hn, hm, hK⟩ := HH.out
    refine ⟨m + 1, [z.nm], [], by omega, by simp, by simp; omega, by simp; omega, by rw [← hm, List.take_length]; rfl, by simp, ?_, World.ownsRow_nil _ _ _ _, b_alloc (Below.refl _ _) (Nat.le_refl _) _⟩
    exact own_lit #[.string (bs z.nm)] 1 rfl (by decide)
  case round =>
    obtain ⟨j, ns, kk, hj, rfl, h1, h2, h3, h4, ho3, ho4, hB⟩ := hrel
    cases j with
    | zero =>
      have HK : Hid (kinOf L = kk.reverse) := by
        show _ = _
        rw [HH.out.2.2.2.2.2, h3]; simp [back]
      have hone : OneK kk := fun k hk => HH.out.2.1.one k (h4 k hk)
      have cr := reverse_own ho4 hone (by have := HH.out.2.2.2.1; omega)
      have HB : Hid (Below w.heap.size w wr) := hB
      clear h1 h2 h3 h4 ho3 hj hone hB
      go_wp2_with (go_at_call 89; refine cr.mono ?_; rintro e w' ⟨rfl, hown, hbel⟩)
      go_ret
      refine ⟨_, rfl, ?_, hbel _ _ HB.out (Nat.le_refl _)⟩
      rw [HK.out]; simpa using hown
    | succ k =>
      obtain ⟨hL, hP, hS, hn, hm, hK⟩ := HH.out
      have hkl : k < L.length := by omega
      obtain ⟨p, hp⟩ : ∃ p, L[k]? = some p := ⟨L[k], by simp [hkl]⟩
      obtain ⟨d0, d1, d2⟩ := hL k p hp
      have e0 := (hB.cell (p := ⟨b, off + k * 3, none⟩) hb).trans d0
      have e1 := (hB.cell (p := ⟨b, off + k * 3 + 1, none⟩) hb).trans d1
      have e2 := (hB.cell (p := ⟨b, off + k * 3 + 2, none⟩) hb).trans d2
      have hpm : p ∈ L := List.mem_of_getElem? hp
      have cc := contains_any (own_isS ho3) (by omega) p.nm
      have ek : (((k + 1 : Nat) : Int) - 1) = (k : Int) := by omega
      have hk1 : k < m + 1 := by omega
      have HR : Hid (L[k]? = some p ∧ ns.length + 4 * (k + 1) ≤ 1 + 4 * L.length ∧ kk.length + (k + 1) ≤ L.length ∧ back L.reverse [z.nm] = kk ++ back (L.take (k + 1)).reverse ns ∧ (∀ k ∈ kk, k ∈ L) ∧ p.of.length ≤ 4 ∧ L.length ≤ 12 ∧ p.vo.oneCell' = true ∧ p.vf.oneCell' = true) :=
        ⟨hp, h1, h2, h3, h4, (hS p hpm).1, hn, (hP.one p hpm).1, (hP.one p hpm).2⟩
      have HO : Hid (wr.ownsRow w.heap.size 9 1 u3 ns.length (cellsS ns) ∧ wr.ownsRow w.heap.size 55 3 u4 kk.length (cellsK kk) ∧ Below w.heap.size w wr ∧ IsS w p.vo p.of) := ⟨ho3, ho4, hB, (hP p hpm).1⟩
      rw [ek]
      clear hL hP hS hn hm hK hkl hp d0 d1 d2 h1 h2 h3 h4 ho3 ho4 hB hpm ek hj
      cases hq : hasN ns p.nm with
      | false =>
        have HQ : Hid (hasN ns p.nm = false) := hq
        rw [hq] at cc
        clear hq
        go_wp2_with (go_at_call 42; refine cc.mono ?_; rintro e w' ⟨rfl, rfl⟩)
        refine ⟨?_, ?_⟩
        · have R : KR w L z.nm u3 u4 (.int .i64 ((k : Int) - 1)) w' := kr_no HR.out.1 HQ.out rfl HR.out.2.1 HR.out.2.2.1 HR.out.2.2.2.1 HR.out.2.2.2.2.1 HO.out.1 HO.out.2.1 HO.out.2.2.1
          first | exact R | ((repeat apply Exists.intro); refine ⟨?_, rfl⟩; exact R)
        · simp [intOf]
          try omega
      | true =>
        have HQ : Hid (hasN ns p.nm = true) := hq
        rw [hq] at cc
        clear hq
        go_wp2_with (go_at_call 42; refine cc.mono ?_; rintro e w' ⟨rfl, rfl⟩; refine Hid.out ?_)
        refine Lib.hid ?_
        have hB0 : Below w.heap.size w (w'.alloc (.cells #[.string (bs p.nm), p.vo, p.vf] 55)) := b_alloc HO.out.2.2.1 (Nat.le_refl _) _
        have hcl : ∀ u ∈ p.cells, u.oneCell' = true := by
          intro u hu
          simp [Kd.cells] at hu
          rcases hu with rfl | rfl | rfl
          · rfl
          · exact HR.out.2.2.2.2.2.2.2.1
          · exact HR.out.2.2.2.2.2.2.2.2
        have HM : Hid (kk.length + 1 ≤ maxLen ∧ (kk.length + 1) * 64 ≤ 140737488355328) := by
          have h1 := HR.out.2.2.1
          have h2 := HR.out.2.2.2.2.2.2.1
          unfold maxLen; exact ⟨by omega, by omega⟩
        go_wp2_with (at_builtin; refine wpList_append_own _ rfl (.tmp 28) (.tmp 33) 22 rfl w.heap.size 55 i0 _ 3 64 Tryz.underlying22 hi0 hz0 hz1 hz2 rfl (by decide) u4 kk.length (cellsK kk) rfl (HO.out.2.1.alloc _) ⟨w'.heap.size, 0, none⟩ 1 1 p.cells rfl rfl (new_at _ _ _) hcl HM.out.1 HM.out.2 hB0.size ?_; intro v1 w1 hown1 hgrow1 _; refine Hid.out ?_)
        refine Lib.hid ?_
        have hB1 : Below w.heap.size w w1 := hB0.grown hgrow1 hB0.size (fun k hk => (HO.out.2.1.lt k hk).1)
        have ho3 : w1.ownsRow w.heap.size 9 1 u3 ns.length (cellsS ns) := (HO.out.1.alloc _).kept hgrow1 (own_apart HO.out.1 HO.out.2.1 (by decide))
        have g1 := (hB1.cell (p := ⟨b, off + k * 3 + 1, none⟩) hb).trans ((HO.out.2.2.1.cell (p := ⟨b, off + k * 3 + 1, none⟩) hb).symm.trans e1)
        have HN : Hid (ns.length + p.of.length ≤ 1000) := by
          have h1 := HR.out.2.1
          have h2 := HR.out.2.2.2.2.2.2.1
          have h3 := HR.out.2.2.2.2.2.1
          show _ ≤ _
          omega
        have HO3 : Hid (w1.ownsRow w.heap.size 9 1 u3 ns.length (cellsS ns) ∧ w1.ownsRow w.heap.size 55 3 v1 (kk.length + 1) (cellsK kk ++ p.cells) ∧ IsS w1 p.vo p.of) := ⟨ho3, hown1, HO.out.2.2.2.on hB1⟩
        clear e0 e1 e2 hown1 ho3 cc
        go_wp2_with (at_builtin; refine app_names rfl (.tmp 35) (.tmp 40) rfl w.heap.size u3 ns p.of rfl HO3.out.1 p.vo rfl HO3.out.2.2 HN.out hB1.size ?_; intro v2 w2 hown2 hgrow2; refine Hid.out ?_)
        refine Lib.hid ?_
        have hB2 : Below w.heap.size w w2 := hB1.grown hgrow2 hB1.size (fun k hk => (HO3.out.1.lt k hk).1)
        have ho4 : w2.ownsRow w.heap.size 55 3 v1 (kk.length + 1) (cellsK kk ++ p.cells) := HO3.out.2.1.kept hgrow2 (own_apart HO3.out.2.1 HO3.out.1 (by decide))
        have R : KR w L z.nm v2 v1 (.int .i64 ((k : Int) - 1)) w2 := kr_yes HR.out.1 HQ.out rfl HR.out.2.1 HR.out.2.2.1 HR.out.2.2.2.1 HR.out.2.2.2.2.1 HR.out.2.2.2.2.2.1 hown2 ho4 hB2
        have HRR : Hid (KR w L z.nm v2 v1 (.int .i64 ((k : Int) - 1)) w2) := R
        clear R hown2 ho4
        go_wp2
        refine ⟨?_, ?_⟩
        · first | exact HRR.out | ((repeat apply Exists.intro); refine ⟨?_, rfl⟩; exact HRR.out)
        · simp [intOf]
          try omega
end Go.Proofs.YtgjlonilbhlneaaGreatDoor
