/-
  Rows that a call itself made, of kinds, fields and names; the walk of slices.Reverse.
-/
import Derived.Test.YtgjlonilbhlneaaDoorKinA
import Derived.Shelf.SlicesQ.Reverse
import Derived.Lib.OwnBridge
import Derived.Laws.AppendOwnNone
namespace Go.Proofs.YtgjlonilbhlneaaDoor
open Go.RowKit Go.Shelf
set_option linter.unusedVariables false
set_option linter.unusedSimpArgs false

theorem flat_len {α : Type} (enc : α → List Value) (s : Nat) (hs : ∀ x, (enc x).length = s) (L : List α) : (L.flatMap enc).length = L.length * s := by
  induction L with
  | nil => simp
  | cons x r ih => simp only [List.flatMap_cons, List.length_append, List.length_cons, ih, hs, Nat.add_mul]; omega
theorem flat_at {α : Type} (enc : α → List Value) (s : Nat) (hs : ∀ x, (enc x).length = s) : ∀ (L : List α) (k : Nat) (x : α) (i : Nat), L[k]? = some x → i < s → (L.flatMap enc)[k * s + i]? = (enc x)[i]? := by
  intro L
  induction L with
  | nil => intro k x i h; simp at h
  | cons y r ih =>
    intro k x i h hi
    rw [List.flatMap_cons]
    cases k with
    | zero =>
      simp at h; subst h
      rw [Nat.zero_mul, Nat.zero_add, List.getElem?_append_left (by rw [hs]; exact hi)]
    | succ k =>
      rw [List.getElem?_append_right (by rw [hs, Nat.add_mul]; omega), hs, show (k + 1) * s + i - s = k * s + i by rw [Nat.add_mul]; omega]
      exact ih k x i (by simpa using h) hi

/-- All cells. -/
def cellsK (L : List Kd) : List Value := L.flatMap Kd.cells
def cellsF (L : List Fd) : List Value := L.flatMap Fd.cells
def cellsS (L : List Nm) : List Value := L.map fun n => .string (bs n)
theorem cellsK_len (L : List Kd) : (cellsK L).length = L.length * 3 := flat_len _ 3 (fun _ => rfl) L
theorem cellsF_len (L : List Fd) : (cellsF L).length = L.length * 4 := flat_len _ 4 (fun _ => rfl) L
theorem cellsS_len (L : List Nm) : (cellsS L).length = L.length * 1 := by simp [cellsS]
theorem cellsK_app (L M : List Kd) : cellsK (L ++ M) = cellsK L ++ cellsK M := by simp [cellsK]
theorem cellsF_app (L M : List Fd) : cellsF (L ++ M) = cellsF L ++ cellsF M := by simp [cellsF]
theorem cellsS_app (L M : List Nm) : cellsS (L ++ M) = cellsS L ++ cellsS M := by simp [cellsS]
/-- What it has is one cell each. -/
def OneK (L : List Kd) : Prop := ∀ k ∈ L, k.vo.oneCell' = true ∧ k.vf.oneCell' = true
theorem IsS.one {w : World} {v : Value} {l : List Nm} (h : IsS w v l) : v.oneCell' = true := by
  rcases h with ⟨ao, c, rfl, _⟩ | ⟨b, off, cap, rfl, _⟩ <;> rfl
theorem IsF.one {w : World} {v : Value} {l : List Fd} (h : IsF w v l) : v.oneCell' = true := by
  rcases h with ⟨ao, c, rfl, _⟩ | ⟨b, off, cap, rfl, _⟩ <;> rfl
theorem Parts.one {w : World} {L : List Kd} (h : Parts w L) : OneK L := fun k hk => ⟨(h k hk).1.one, (h k hk).2.one⟩
theorem cellsK_one {L : List Kd} (h : OneK L) : ∀ u ∈ cellsK L, u.oneCell' = true := by
  intro u hu
  obtain ⟨p, hm, hp⟩ := List.mem_flatMap.1 hu
  simp [Kd.cells] at hp
  rcases hp with rfl | rfl | rfl
  · rfl
  · exact (h p hm).1
  · exact (h p hm).2
theorem cellsF_one (L : List Fd) : ∀ u ∈ cellsF L, u.oneCell' = true := by
  intro u hu
  obtain ⟨p, hm, hp⟩ := List.mem_flatMap.1 hu
  simp [Fd.cells] at hp
  rcases hp with rfl | rfl | rfl | rfl <;> rfl
theorem cellsS_one (L : List Nm) : ∀ u ∈ cellsS L, u.oneCell' = true := by
  intro u hu
  obtain ⟨p, hm, rfl⟩ := List.mem_map.1 hu
  rfl

theorem info61 : (Tryd.prog.info? 33).map (fun i => (i.zero, i.size, i.bytes)) = some (some (.agg #[.string ⟨#[]⟩, .slice none 0 0, .slice none 0 0]), 3, 64) := by kernel_rfl
theorem info59 : (Tryd.prog.info? 52).map (fun i => (i.zero, i.size, i.bytes)) = some (some (.agg #[.string ⟨#[]⟩, .int .i64 0, .bool false, .bool false]), 4, 32) := by kernel_rfl
theorem info9 : (Tryd.prog.info? 9).map (fun i => (i.zero, i.size, i.bytes)) = some (some (.string ⟨#[]⟩), 1, 16) := by kernel_rfl

theorem own_isK {w : World} {base : Nat} {v : Value} {M : List Kd} (h : w.ownsRow base 33 3 v M.length (cellsK M)) : IsK w v M := by
  have hc : ∀ g, v.ownBlock = some g → ∀ j u, (cellsK M)[j]? = some u → w.cell? ((⟨g, 0, none⟩ : Addr).add j) = some u := fun g hg => h.cells hg
  rcases h.2 with ⟨rfl, h0⟩ | ⟨g, cap, cur, rfl, hb, hg, hle, hcm, hcs, ht⟩
  · exact .inl ⟨rfl, List.eq_nil_of_length_eq_zero h0⟩
  · refine .inr ⟨g, 0, cap, rfl, hle, hcm, (Array.getElem?_eq_some_iff.1 hg).1, fun k p hp => ?_⟩
    have hat := flat_at Kd.cells 3 (fun _ => rfl) M k p
    have hc' := hc g rfl
    have d0 := hc' _ _ ((hat 0 hp (by decide)).trans rfl)
    have d1 := hc' _ _ ((hat 1 hp (by decide)).trans rfl)
    have d2 := hc' _ _ ((hat 2 hp (by decide)).trans rfl)
    rw [Addr.add_lit] at d0 d1 d2
    exact ⟨d0, by rw [Nat.add_assoc]; exact d1, by rw [Nat.add_assoc]; exact d2⟩
theorem own_isF {w : World} {base : Nat} {v : Value} {M : List Fd} (h : w.ownsRow base 52 4 v M.length (cellsF M)) : IsF w v M := by
  have hc : ∀ g, v.ownBlock = some g → ∀ j u, (cellsF M)[j]? = some u → w.cell? ((⟨g, 0, none⟩ : Addr).add j) = some u := fun g hg => h.cells hg
  rcases h.2 with ⟨rfl, h0⟩ | ⟨g, cap, cur, rfl, hb, hg, hle, hcm, hcs, ht⟩
  · exact .inl ⟨none, 0, rfl, List.eq_nil_of_length_eq_zero h0, by decide, fun _ => rfl⟩
  · refine .inr ⟨g, 0, cap, rfl, hle, hcm, (Array.getElem?_eq_some_iff.1 hg).1, fun k p hp => ?_⟩
    have hat := flat_at Fd.cells 4 (fun _ => rfl) M k p
    have hc' := hc g rfl
    have d0 := hc' _ _ ((hat 0 hp (by decide)).trans rfl)
    have d1 := hc' _ _ ((hat 1 hp (by decide)).trans rfl)
    have d2 := hc' _ _ ((hat 2 hp (by decide)).trans rfl)
    have d3 := hc' _ _ ((hat 3 hp (by decide)).trans rfl)
    rw [Addr.add_lit] at d0 d1 d2 d3
    exact ⟨d0, by rw [Nat.add_assoc]; exact d1, by rw [Nat.add_assoc]; exact d2, by rw [Nat.add_assoc]; exact d3⟩
theorem own_isS {w : World} {base : Nat} {v : Value} {M : List Nm} (h : w.ownsRow base 9 1 v M.length (cellsS M)) : IsS w v M := by
  have hc : ∀ g, v.ownBlock = some g → ∀ j u, (cellsS M)[j]? = some u → w.cell? ((⟨g, 0, none⟩ : Addr).add j) = some u := fun g hg => h.cells hg
  rcases h.2 with ⟨rfl, h0⟩ | ⟨g, cap, cur, rfl, hb, hg, hle, hcm, hcs, ht⟩
  · exact .inl ⟨none, 0, rfl, List.eq_nil_of_length_eq_zero h0, by decide, fun _ => rfl⟩
  · refine .inr ⟨g, 0, cap, rfl, hle, hcm, (Array.getElem?_eq_some_iff.1 hg).1, fun k p hp => ?_⟩
    have d0 := hc g rfl k (.string (bs p)) (by simp [cellsS, hp])
    rw [Addr.add_lit] at d0
    exact d0
theorem own_slice {w : World} {base : Nat} {e : TypeId} {size : Nat} {v : Value} {n : Nat} {xs : List Value} (h : w.ownsRow base e size v n xs) : ∃ ao cp, v = .slice ao n cp := by
  rcases h.2 with ⟨rfl, rfl⟩ | ⟨g, cap, cur, rfl, _⟩
  · exact ⟨none, 0, rfl⟩
  · exact ⟨_, _, rfl⟩
theorem own_base {w : World} {base base' : Nat} {e : TypeId} {size : Nat} {v : Value} {n : Nat} {xs : List Value} (h : w.ownsRow base e size v n xs) (hb : base' ≤ base) : w.ownsRow base' e size v n xs := by
  refine ⟨h.1, ?_⟩
  rcases h.2 with h | ⟨g, cap, cur, hv, hg, rest⟩
  · exact .inl h
  · exact .inr ⟨g, cap, cur, hv, Nat.le_trans hb hg, rest⟩
/-- Rows of other elements lie in other blocks. -/
theorem own_apart {w : World} {base base' : Nat} {e e' : TypeId} {size size' : Nat} {v v' : Value} {n n' : Nat} {xs xs' : List Value} (h : w.ownsRow base e size v n xs) (h' : w.ownsRow base' e' size' v' n' xs') (hne : e ≠ e') :
    v.ownBlock = none ∨ v.ownBlock ≠ v'.ownBlock := by
  rcases h.2 with ⟨rfl, _⟩ | ⟨g, cap, cur, rfl, hb, hg, _⟩
  · exact .inl rfl
  · right
    rcases h'.2 with ⟨rfl, _⟩ | ⟨g', cap', cur', rfl, hb', hg', _⟩
    · intro h; cases h
    · intro e1
      have e2 : g = g' := by simpa [Value.ownBlock] using e1
      subst e2
      rw [hg] at hg'
      injection hg' with e3
      injection e3 with _ e4 _
      exact hne e4
theorem own_lit {w : World} {e : TypeId} {size : Nat} (cur : Array Value) (n : Nat) (hs : cur.size = n * size) (hm : n ≤ maxLen) : (w.alloc (.cells cur e)).ownsRow w.heap.size e size (.slice (some ⟨w.heap.size, 0, none⟩) n n) n cur.toList :=
  ⟨by simpa using hs, .inr ⟨w.heap.size, n, cur, rfl, Nat.le_refl _, heap_alloc_new w _, Nat.le_refl _, hm, hs, List.take_of_length_le (by simp; omega)⟩⟩
theorem new_at (w : World) (l : List Value) (e : TypeId) : ∀ j u, l[j]? = some u → (w.alloc (.cells l.toArray e)).cell? ((⟨w.heap.size, 0, none⟩ : Addr).add j) = some u := by
  intro j u hu
  rw [Addr.add_lit, Nat.zero_add, World.cell?_alloc_at (w := w) l.toArray e w.heap.size j rfl]
  simpa using hu

/-- The value, if it is one cell. -/
def one1 (v : Value) : Value := if v.oneCell' = true then v else .nilIface
theorem one1_one (v : Value) : (one1 v).oneCell' = true := by unfold one1; split <;> first | assumption | rfl
theorem one1_self {v : Value} (h : v.oneCell' = true) : one1 v = v := by unfold one1; rw [if_pos h]
def encK (k : Kd) : List Value := [.string (bs k.nm), one1 k.vo, one1 k.vf]
theorem encK_self {L : List Kd} (h : OneK L) : L.flatMap encK = cellsK L := by
  unfold cellsK
  induction L with
  | nil => rfl
  | cons k r ih =>
    have h1 := h k (by simp)
    rw [List.flatMap_cons, List.flatMap_cons, ih (fun x hx => h x (by simp [hx]))]
    simp [encK, Kd.cells, one1_self h1.1, one1_self h1.2]

def revRen : Go.Shelf.Ren := ⟨fun | 35 => 45 | n => n, fun | 22 => 22 | 23 => 33 | n => n, fun | n => n⟩
theorem revLays : Go.Proofs.SlLaysE0.n35 Tryd.prog revRen := {
  mixed := by kernel_rfl
  f35 := ⟨ "slices.Reverse[[]kinshape/api.Kind,kinshape/api.Kind]", by decide, Tryd.func45.trans (congrArg some (by kernel_rfl))⟩
  t0 := Tryd.underlying0
  a0 := Tryd.isAgg0
  z0 := Tryd.sizeOf0
  v0 := Tryd.zeroValue0
  t3 := Tryd.underlying3
  a3 := Tryd.isAgg3
  z3 := Tryd.sizeOf3
  v3 := Tryd.zeroValue3
  t4 := Tryd.underlying4
  a4 := Tryd.isAgg4
  z4 := Tryd.sizeOf4
  v4 := Tryd.zeroValue4
  t22 := Tryd.underlying22
  a22 := Tryd.isAgg22
  z22 := Tryd.sizeOf22
  v22 := Tryd.zeroValue22 }

theorem holds_own {w : World} {base g n cap : Nat} {e : TypeId} {size : Nat} {xs : List Value} (h : w.ownsRow base e size (.slice (some ⟨g, 0, none⟩) n cap) n xs) : Go.Sort.Holds id w g 0 xs.toArray := by
  have hc := h.cells (g := g) rfl
  rcases h.2 with ⟨h0, _⟩ | ⟨g', cap', cur, e0, hb, hg, hn, hm, hs, ht⟩
  · cases h0
  · injection e0 with e1 _ _
    injection e1 with e1
    injection e1 with e1
    subst e1
    intro j hj
    have hj' : j < xs.length := by simpa using hj
    have := hc j xs[j] (List.getElem?_eq_getElem hj')
    rw [Addr.add_lit] at this
    refine ⟨by rw [this]; simp [getElem!_pos, hj'], by simp [World.frozen?, hg]⟩
theorem own_putRow {w : World} {base g n cap q : Nat} {e : TypeId} {size : Nat} {xs ys : List Value} (h : w.ownsRow base e size (.slice (some ⟨g, 0, none⟩) n cap) n xs) (hy : ys.length = xs.length) :
    (Go.Sort.putRow id (Go.Sort.ahead w q) g 0 ys.toArray).ownsRow base e size (.slice (some ⟨g, 0, none⟩) n cap) n ys := by
  have hl := h.1
  rcases h.2 with ⟨h0, _⟩ | ⟨g', cap', cur, e0, hb, hg, hn, hm, hs, ht⟩
  · cases h0
  · injection e0 with e1 _ e3
    injection e1 with e1
    injection e1 with e1
    subst e1; subst e3
    refine ⟨by omega, .inr ⟨g, cap, Go.Sort.putCells id 0 ys.toArray cur, rfl, hb, ?_, hn, hm, by simpa [Go.Sort.putCells] using hs, ?_⟩⟩
    · simp [Go.Sort.putRow, Go.Sort.mapBlock, Go.Sort.ahead, Array.getElem?_modify, hg, Go.Sort.onCells]
    · apply List.ext_getElem?
      intro j
      rw [List.getElem?_take, Array.getElem?_toList]
      by_cases hj : j < n * size
      · have hjc : j < cur.size := by
          have := Nat.mul_le_mul_right size hn
          omega
        rw [if_pos hj]
        simp only [Go.Sort.putCells, Array.getElem?_mapIdx, Array.getElem?_eq_getElem hjc, Option.map_some]
        rw [if_pos (by simp; omega), List.getElem?_eq_getElem (by omega)]
        simp [getElem!_pos, show j < ys.length by omega]
      · rw [if_neg hj, List.getElem?_eq_none (by omega)]
theorem flatK_flat {α : Type} [Inhabited α] (enc : α → List Value) (s : Nat) (h0 : 0 < s) (hs : ∀ x, (enc x).length = s) (L : List α) : Go.Sort.flatK enc s L.toArray = (L.flatMap enc).toArray := by
  refine Go.Sort.ext_get! (by simp [flat_len enc s hs]) fun t ht => ?_
  have ht' : t < L.length * s := by simpa using ht
  rw [Go.Sort.get_flatK enc s L.toArray t (by simpa using ht')]
  have hq : t / s < L.length := (Nat.div_lt_iff_lt_mul h0).2 ht'
  have hr : t % s < s := Nat.mod_lt _ h0
  have hat := flat_at enc s hs L (t / s) L[t / s] (t % s) (List.getElem?_eq_getElem hq) hr
  rw [show t / s * s + t % s = t by rw [Nat.mul_comm]; exact Nat.div_add_mod t s] at hat
  have hl : t < (L.flatMap enc).length := by rw [flat_len enc s hs]; exact ht'
  have e1 : (L.flatMap enc).toArray[t]! = (L.flatMap enc)[t] := by rw [getElem!_pos _ t (by simpa using hl)]; simp
  have e2 : L.toArray[t / s]! = L[t / s] := by simp [getElem!_pos, hq]
  rw [e1, e2]
  rw [List.getElem?_eq_getElem hl, List.getElem?_eq_getElem (by rw [hs]; exact hr)] at hat
  rw [getElem!_pos (enc L[t / s]) (t % s) (by rw [hs]; exact hr)]
  exact (Option.some.inj hat).symm

theorem reverse_own {w : World} {base : Nat} {v : Value} {L : List Kd} (h : w.ownsRow base 33 3 v L.length (cellsK L)) (hone : OneK L) (hn : L.length ≤ 12) :
    Calls Tryd.prog 45 #[v] w fun e w' => e = .returned (.tuple #[]) ∧ w'.ownsRow base 33 3 v L.length (cellsK L.reverse) ∧ (∀ B w0, Below B w0 w → B ≤ base → Below B w0 w') := by
  have hh := h
  rcases h.2 with ⟨rfl, h0⟩ | ⟨g, cap, cur, rfl, hb, hg, hle, hcm, hcs, ht⟩
  · obtain rfl := List.eq_nil_of_length_eq_zero h0
    refine (AnyQ.slices_Reverse_empty revLays none 0 w).mono ?_
    rintro e w' ⟨rfl, rfl⟩
    exact ⟨rfl, hh, fun B w0 hB _ => hB⟩
  · haveI : Inhabited Kd := ⟨⟨[], [], [], .nilIface, .nilIface⟩⟩
    have hone' : OneK L.reverse := fun k hk => hone k (by simpa using hk)
    have hH : Go.Sort.HoldsK encK 3 w g 0 L.toArray := by
      unfold Go.Sort.HoldsK
      rw [flatK_flat encK 3 (by decide) (fun _ => rfl), encK_self hone]
      exact holds_own hh
    have c := AnyQ.slices_Reverse revLays 3 Tryd.isAgg33 Tryd.sizeOf33 encK (fun _ => rfl) (fun x u hu => by
      simp [encK] at hu
      rcases hu with rfl | rfl | rfl
      · rfl
      · exact one1_one _
      · exact one1_one _) g 0 cap L.toArray w hH (by simp; omega)
    have c' : Calls Tryd.prog 45 #[.slice (some ⟨g, 0, none⟩) L.length cap] w fun e w' => e = .returned (.tuple #[]) ∧ ∃ n, w' = Go.Sort.putRowK encK 3 (Go.Sort.ahead w n) g 0 L.toArray.reverse := c
    refine c'.mono ?_
    rintro e w' ⟨rfl, q, rfl⟩
    have e1 : Go.Sort.putRowK encK 3 (Go.Sort.ahead w q) g 0 L.toArray.reverse = Go.Sort.putRow id (Go.Sort.ahead w q) g 0 (cellsK L.reverse).toArray := by
      unfold Go.Sort.putRowK
      rw [show L.toArray.reverse = L.reverse.toArray by simp, flatK_flat encK 3 (by decide) (fun _ => rfl), encK_self hone']
    rw [e1]
    exact ⟨rfl, own_putRow hh (by rw [cellsK_len, cellsK_len]; simp), fun B w0 hB hBb => Lib.below_putRow hB (Nat.le_trans hBb hb)⟩
end Go.Proofs.YtgjlonilbhlneaaDoor
