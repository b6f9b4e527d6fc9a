/-
  All of what is wrong, or too much; what it gives, in two cases.
-/
import Derived.Test.YtikjmingkadjcaaGreatDoorA32
import Derived.Test.YtikjmingkadjcaaGreatDoorA20
import Derived.Test.YtikjmingkadjcaaGreatDoorA05
import Derived.Test.YtikjmingkadjcaaGreatDoorA09
import Derived.Test.YtikjmingkadjcaaGreatDoorA21
namespace Go.Proofs.YtikjmingkadjcaaGreatDoor
open Go.RowKit
set_option linter.unusedVariables false
set_option linter.unusedSimpArgs false

def AllOk (N : List Nd) (T : List Te) (L : List Opx) : Prop := L.length ≤ 40 ∧ gErr N T = 0 ∧ opS.err L (cN N) T = 0
abbrev noG (k z : Int) : Ending := .returned (.tuple #[.agg #[.slice none 0 0, .slice none 0 0], .int .i64 k, .iface 79 (.int .i64 z)])

set_option maxHeartbeats 4000000 in
set_option maxRecDepth 100000 in
theorem all_full {vn vt vl : Value} {N : List Nd} {T : List Te} {L : List Opx} {w : World} (hN : IsN w vn N) (hT : IsT w vt T) (hL : IsO w vl L) (hl : 40 < L.length) (hm : L.length ≤ maxLen) :
    Calls Tryz.prog 27 #[.agg #[vn, vt], vl] w fun e w' => e = noG 0 4 ∧ Below w.heap.size w w' := by
  obtain ⟨an, cn, hvn, _⟩ := hN
  obtain ⟨am, cm, hvt, _⟩ := hT
  obtain ⟨ao, co, hvl, _⟩ := hL
  subst hvn hvt hvl
  unfold maxLen at hm
  have hlen : ((L.length : Int) > 40) := by omega
  go_enter Tryz.func27, Tryz.ntmps27
  go_wp2
  refine bodyPost_ret (v := .tuple #[.agg #[.slice none 0 0, .slice none 0 0], .int .i64 0, .iface 79 (.int .i64 4)]) ?_ rfl ⟨rfl, ?_⟩
  · simp [results, Tryz.results27, go_sem]
  · first
      | exact (((Below.refl _ _).alloc (Nat.le_refl _) _).alloc (by simp) _)
      | exact ((((Below.refl _ _).alloc (Nat.le_refl _) _).alloc (by simp) _).setCell (by simp) _).setCell (by simp) _

set_option maxHeartbeats 4000000 in
set_option maxRecDepth 100000 in
theorem all_wrong {vn vt vl : Value} {N : List Nd} {T : List Te} {L : List Opx} {w : World} (hN : IsN w vn N) (hT : IsT w vt T) (zN : SzN N) (zT : SzT T) (lN : N.length ≤ maxLen) (lT : T.length ≤ maxLen) (hL : IsO w vl L) (hl : L.length ≤ 40) (h0 : gErr N T ≠ 0) :
    Calls Tryz.prog 27 #[.agg #[vn, vt], vl] w fun e w' => e = noG 0 (gErr N T) ∧ Below w.heap.size w w' := by
  obtain ⟨W0, hW0⟩ : ∃ W0, W0 = (w.alloc (.cells #[vn, vt] 29)).alloc (.cells #[.slice none 0 0, .slice none 0 0] 29) := ⟨_, rfl⟩
  have hB0 : Below w.heap.size w W0 := by rw [hW0]; exact b_alloc (b_alloc (Below.refl _ _) _) _
  have hs0 : W0.heap.size = w.heap.size + 2 := by rw [hW0]; simp
  have n1 : W0.heap[w.heap.size + 1]? = some (.cells #[.slice none 0 0, .slice none 0 0] 29 (0, 0)) := by
    have := heap_alloc_new (w.alloc (.cells #[vn, vt] 29)) (.cells #[.slice none 0 0, .slice none 0 0] 29)
    rw [World.size_alloc] at this; rw [hW0]; exact this
  have cG := gcheck_any (hN.on hB0) (hT.on hB0) zN zT lN lT
  rw [errV_ne h0] at cG
  obtain ⟨an, cn, hvn, _⟩ := hN
  obtain ⟨am, cm, hvt, _⟩ := hT
  obtain ⟨ao, co, hvl, _⟩ := hL
  subst hvn hvt hvl
  have HI : Hid (Below w.heap.size w W0 ∧ W0.heap[w.heap.size + 1]? = some (.cells #[.slice none 0 0, .slice none 0 0] 29 (0, 0))) := ⟨hB0, n1⟩
  generalize gErr N T = z at *
  clear hB0 n1 h0
  have hlen : ¬ ((L.length : Int) > 40) := by omega
  go_enter Tryz.func27, Tryz.ntmps27
  subst hW0
  go_wp2_with (first | (go_at_call 40; refine cG.mono ?_; rintro e W1 ⟨rfl, hB1⟩; refine Hid.out ?_))
  refine Lib.hid ?_
  have hbw := on1K HI.out.1 hB1 (Nat.le_refl _)
  have m1 := (hB1.block (w.heap.size + 1) (by rw [hs0]; omega)).trans HI.out.2
  have y0 : W1.cell? ⟨w.heap.size + 1, 0, none⟩ = some (.slice none 0 0) := cell_at m1 rfl
  have y1 : W1.cell? ⟨w.heap.size + 1, 1, none⟩ = some (.slice none 0 0) := cell_at m1 rfl
  have f0 : W1.frozen? ⟨w.heap.size + 1, 0, none⟩ = false := frz_at m1
  have f1 : W1.frozen? ⟨w.heap.size + 1, 1, none⟩ = false := frz_at m1
  have HU := Lib.hid (heap_setCell_same _ _ 1 _ 29 (.slice none 0 0) (heap_setCell_same _ _ 0 _ 29 (.slice none 0 0) m1))
  have HF := Lib.hid hbw
  clear hbw m1 hB1 HI cG
  go_wp2
  have v0 := cell_at (i := 0) HU.out rfl
  have v1 := cell_at (i := 1) HU.out rfl
  have z1 := HF.out
  refine bodyPost_ret (v := .tuple #[.agg #[.slice none 0 0, .slice none 0 0], .int .i64 0, .iface 79 (.int .i64 z)]) ?_ rfl ⟨rfl, (z1.setCell (by show _ ≤ w.heap.size + 1; omega) _).setCell (by show _ ≤ w.heap.size + 1; omega) _⟩
  simp [results, Tryz.results27, go_sem, v0, v1]

theorem all_no {vn vt vl : Value} {N : List Nd} {T : List Te} {L : List Opx} {w : World} (hN : IsN w vn N) (hT : IsT w vt T) (zN : SzN N) (zT : SzT T) (lN : N.length ≤ maxLen) (lT : T.length ≤ maxLen) (hL : IsO w vl L) (zL : ∀ o ∈ L, OpSz o) (lL : L.length ≤ maxLen) (h0 : ¬ AllOk N T L) :
    Calls Tryz.prog 27 #[.agg #[vn, vt], vl] w fun e w' => ∃ k z, z ≠ 0 ∧ e = noG k z ∧ Below w.heap.size w w' := by
  by_cases h1 : L.length ≤ 40
  · by_cases h2 : gErr N T = 0
    · have h3 : opS.err L (cN N) T ≠ 0 := fun h => h0 ⟨h1, h2, h⟩
      refine (all_in opS hN hT zN zT h2 hL h1 zL (fun o _ => apply_all o) (fun o _ => keeps_all o)).mono ?_
      rintro e w' ⟨hB, ⟨h, _⟩ | ⟨_, rfl⟩⟩
      · exact absurd h h3
      · exact ⟨_, _, h3, by rw [errV_ne h3], hB⟩
    · refine (all_wrong hN hT zN zT lN lT hL h1 h2).mono ?_
      rintro e w' ⟨rfl, hB⟩
      exact ⟨_, _, h2, rfl, hB⟩
  · refine (all_full hN hT hL (by omega) lL).mono ?_
    rintro e w' ⟨rfl, hB⟩
    exact ⟨_, _, by decide, rfl, hB⟩
theorem all_yes {vn vt vl : Value} {N : List Nd} {T : List Te} {L : List Opx} {w : World} (hN : IsN w vn N) (hT : IsT w vt T) (zN : SzN N) (zT : SzT T) (hL : IsO w vl L) (zL : ∀ o ∈ L, OpSz o) (h0 : AllOk N T L) :
    Calls Tryz.prog 27 #[.agg #[vn, vt], vl] w fun e w' => ∃ a l c b m d M, e = .returned (.tuple #[.agg #[.slice a l c, .slice b m d], .int .i64 0, .nilIface]) ∧ cN M = (opS.res L (cN N) T).1 ∧ OwnNs w' w.heap.size (.slice a l c) M ∧ OwnTs w' w.heap.size (.slice b m d) (opS.res L (cN N) T).2 ∧ gErr M (opS.res L (cN N) T).2 = 0 ∧ Below w.heap.size w w' := by
  refine (all_in opS hN hT zN zT h0.2.1 hL h0.1 zL (fun o _ => apply_all o) (fun o _ => keeps_all o)).mono ?_
  rintro e w' ⟨hB, ⟨_, un, ut, M, rfl, q1, q2, q3, q4⟩ | ⟨h, _⟩⟩
  · obtain ⟨a, c, e1⟩ := own_slice q2.1
    obtain ⟨b, d, e2⟩ := own_slice q3
    subst e1 e2
    exact ⟨_, _, _, _, _, _, M, rfl, q1, q2, q3, q4, hB⟩
  · exact absurd h0.2.2 h
end Go.Proofs.YtikjmingkadjcaaGreatDoor

/-
  What package guard tells, in plain words; the walks of guard.Check and guard.May.
-/
namespace Go.Proofs.YtikjmingkadjcaaGreatDoor
open Go.RowKit
set_option linter.unusedVariables false
set_option linter.unusedSimpArgs false

theorem nErr_sz {b : ByteArray} (h : nErr b.data.toList = 0) : b.size ≤ maxLen := by
  have := nErr_short h
  rw [size_len]
  unfold maxLen
  omega
theorem gErr_sz {M : List Nd} {T : List Te} (h : gErr M T = 0) : SzN M ∧ SzT T := by
  obtain ⟨⟨_, _, h1⟩, ⟨_, _, h2⟩⟩ := (gErr_iff M T).1 h
  refine ⟨fun n hn => ?_, fun t ht => ?_⟩
  case refine_2 =>
    have ho := h2 t ht
    unfold teE at ho
    split at ho
    · rename_i h3; exact nErr_sz h3
    · rename_i h3; exact absurd ho h3
  obtain ⟨_, e2, e3⟩ := (ndE_iff n).1 (h1 n hn)
  have := rErr_le e3
  exact ⟨nErr_sz e2, sz_of e3, by unfold maxLen; omega⟩
theorem allF_c (L : List Kd) (B : List Bd) (N : List Nd) (T : List Te) : allF L B (cN N) T = allF L B N T := by
  unfold allF nodeF endO cN
  rw [List.foldl_map, List.foldl_map]
  rfl
end Go.Proofs.YtikjmingkadjcaaGreatDoor

/-
  What ops do not touch stands behind them as it stood: nodes, ties with an end that is not touched, the kinds of nodes that do not go.
-/
namespace Go.Proofs.YtikjmingkadjcaaGreatDoor
set_option linter.unusedVariables false
set_option linter.unusedSimpArgs false

section
variable {α : Type}
theorem srt_ext {r : α → α → Prop} (ha : ∀ a b, r a b → ¬ r b a) : ∀ {l m : List α}, l.Pairwise r → m.Pairwise r → (∀ x, x ∈ l ↔ x ∈ m) → l = m
  | [], [], _, _, _ => rfl
  | [], b :: m, _, _, h => by have := (h b).2 (List.mem_cons_self ..); cases this
  | a :: l, [], _, _, h => by have := (h a).1 (List.mem_cons_self ..); cases this
  | a :: l, b :: m, hl, hm, h => by
    obtain ⟨l1, l2⟩ := List.pairwise_cons.1 hl
    obtain ⟨m1, m2⟩ := List.pairwise_cons.1 hm
    have hab : a = b := by
      rcases List.mem_cons.1 ((h a).1 (List.mem_cons_self ..)) with e | e
      · exact e
      · rcases List.mem_cons.1 ((h b).2 (List.mem_cons_self ..)) with e' | e'
        · exact e'.symm
        · exact absurd (m1 a e) (ha _ _ (l1 b e'))
    subst hab
    have hx : ∀ x, r a x → x ≠ a := fun x hr e => by subst e; exact ha _ _ hr hr
    rw [srt_ext ha l2 m2 (fun x => ⟨fun hh => ?_, fun hh => ?_⟩)]
    · rcases List.mem_cons.1 ((h x).1 (List.mem_cons_of_mem _ hh)) with e | e
      · exact absurd e (hx x (l1 x hh))
      · exact e
    · rcases List.mem_cons.1 ((h x).2 (List.mem_cons_of_mem _ hh)) with e | e
      · exact absurd e (hx x (m1 x hh))
      · exact e
theorem mem_erase_at {l : List α} {k : Nat} {y : α} (hk : l[k]? = some y) (hn : l.Nodup) (x : α) : x ∈ l.eraseIdx k ↔ x ∈ l ∧ x ≠ y := by
  rw [List.mem_eraseIdx_iff_getElem?]
  constructor
  · rintro ⟨i, hi, hx⟩
    refine ⟨List.mem_of_getElem? hx, fun e => hi ?_⟩
    subst e
    obtain ⟨a1, a2⟩ := List.getElem?_eq_some_iff.1 hx
    exact (List.getElem?_inj a1 hn).1 (hx.trans hk.symm)
  · rintro ⟨hx, hne⟩
    obtain ⟨i, hi⟩ := List.getElem?_of_mem hx
    refine ⟨i, fun e => hne ?_, hi⟩
    subst e
    exact Option.some.inj (hi.symm.trans hk)
theorem mem_set_at {l : List α} {k : Nat} {z y : α} (hk : l[k]? = some z) (hn : l.Nodup) (x : α) : x ∈ l.set k y ↔ (x ∈ l ∧ x ≠ z) ∨ x = y := by
  have hl := (List.getElem?_eq_some_iff.1 hk).1
  constructor
  · intro hx
    obtain ⟨i, hi⟩ := List.getElem?_of_mem hx
    rw [List.getElem?_set] at hi
    by_cases e : k = i
    · rw [if_pos e, if_pos (e ▸ hl)] at hi
      exact .inr (Option.some.inj hi).symm
    · rw [if_neg e] at hi
      refine .inl ⟨List.mem_of_getElem? hi, fun e' => e ?_⟩
      subst e'
      exact (List.getElem?_inj hl hn).1 (hk.trans hi.symm)
  · rintro (⟨hx, hne⟩ | rfl)
    · obtain ⟨i, hi⟩ := List.getElem?_of_mem hx
      refine List.mem_of_getElem? (i := i) ?_
      rw [List.getElem?_set, if_neg, hi]
      intro e
      subst e
      exact hne (Option.some.inj (hi.symm.trans hk))
    · refine List.mem_of_getElem? (i := k) ?_
      rw [List.getElem?_set, if_pos rfl, if_pos hl]
end

theorem SrtN.nodup {N : List Nd} (h : SrtN N) : N.Nodup := List.Pairwise.imp (fun {a b} hab e => by subst e; omega) h
theorem SrtT.nodup {T : List Te} (h : SrtT T) : T.Nodup := List.Pairwise.imp (fun {a b} hab e => by subst e; have := (tCmp_zero a a).2 rfl; omega) h
theorem srtN_uniq {N : List Nd} (h : SrtN N) {a b : Nd} (ha : a ∈ N) (hb : b ∈ N) (e : a.id = b.id) : a = b := by
  obtain ⟨i, hi⟩ := List.getElem?_of_mem ha
  obtain ⟨j, hj⟩ := List.getElem?_of_mem hb
  obtain ⟨i1, rfl⟩ := List.getElem?_eq_some_iff.1 hi
  obtain ⟨j1, rfl⟩ := List.getElem?_eq_some_iff.1 hj
  rcases Nat.lt_trichotomy i j with h' | h' | h'
  · have := List.pairwise_iff_getElem.1 h i j i1 j1 h'; omega
  · subst h'; rfl
  · have := List.pairwise_iff_getElem.1 h j i j1 i1 h'; omega
theorem srtN_ext {A B : List Nd} (h1 : SrtN A) (h2 : SrtN B) (h : ∀ x, x ∈ A ↔ x ∈ B) : A = B := srt_ext (fun a b hab hba => by omega) h1 h2 h
theorem srtT_ext {A B : List Te} (h1 : SrtT A) (h2 : SrtT B) (h : ∀ x, x ∈ A ↔ x ∈ B) : A = B := srt_ext (fun a b hab hba => by have := tCmp_anti a b; omega) h1 h2 h

def oth (id : Int) (t : Te) : Option Int := if t.fr = id then some t.tt else if t.tt = id then some t.fr else none
def endsOf (T : List Te) (id : Int) : List Int := T.filterMap (oth id)
def touB (T : List Te) (o : Opx) : List Int := if o.wh = 5 ∨ o.wh = 6 then [o.te.fr, o.te.tt] else if o.wh = 2 then endsOf T o.nd.id ++ [o.nd.id] else [o.nd.id]
def touA (T : List Te) (O : List Opx) : List Int := O.flatMap (touB T)
def gonB (o : Opx) : List Int := if o.wh = 2 then [o.nd.id] else []
def gonA (O : List Opx) : List Int := O.flatMap gonB
theorem end_iff (t : Te) (id : Int) : t.end id = true ↔ t.fr = id ∨ t.tt = id := by unfold Te.end; simp
theorem oth_end {T : List Te} {t : Te} (ht : t ∈ T) {id : Int} (h : t.end id = true) : t.fr ∈ endsOf T id ++ [id] ∧ t.tt ∈ endsOf T id ++ [id] := by
  have key : ∀ j, oth id t = some j → j ∈ endsOf T id := fun j hj => List.mem_filterMap.2 ⟨t, ht, hj⟩
  by_cases a : t.fr = id
  · have k := key t.tt (by unfold oth; rw [if_pos a])
    exact ⟨by simp [a], by simp [k]⟩
  · have b : t.tt = id := ((end_iff t id).1 h).resolve_left a
    have k := key t.fr (by unfold oth; rw [if_neg a, if_pos b])
    exact ⟨by simp [k], by simp [b]⟩

theorem fnd_at {id : Int} {M : List Nd} (h : fndN id M = true) : ∃ g, M[loN id M]? = some g ∧ g.id = id := by
  unfold fndN at h
  cases e : M[loN id M]? with
  | none => rw [e] at h; cases h
  | some g => rw [e] at h; exact ⟨g, rfl, by simpa using h⟩
theorem fndT_at {t : Te} {T : List Te} (h : fndT t T = true) : T[loT t T]? = some t := by
  unfold fndT at h
  cases e : T[loT t T]? with
  | none => rw [e] at h; cases h
  | some g =>
    rw [e] at h
    have h' : tCmp g t = 0 := by simpa using h
    rw [(tCmp_zero g t).1 h']
theorem mem_mid {α : Type} {M : List α} {k : Nat} {x y : α} : y ∈ M.take k ++ x :: M.drop k ↔ y ∈ M ∨ y = x := by
  constructor
  · exact mem_ins3
  · rintro (h | rfl)
    · rw [← List.take_append_drop k M] at h
      rcases List.mem_append.1 h with h | h
      · exact List.mem_append.2 (.inl h)
      · exact List.mem_append.2 (.inr (List.mem_cons_of_mem _ h))
    · simp
theorem put_at {id : Int} {M : List Nd} {r : List Pr} (hs : SrtN M) (h : fndN id M = true) (x : Nd) (hx : x.id ≠ id) : x ∈ putR id M r ↔ x ∈ M := by
  obtain ⟨g, e, hg⟩ := fnd_at h
  unfold putR
  rw [e]
  show x ∈ M.set (loN id M) _ ↔ _
  rw [mem_set_at e hs.nodup]
  constructor
  · rintro (⟨h, _⟩ | rfl)
    · exact h
    · exact absurd hg hx
  · exact fun h => .inl ⟨h, fun e' => hx (by rw [e', hg])⟩
theorem put_kd {id : Int} {M : List Nd} {r : List Pr} (hs : SrtN M) (h : fndN id M = true) {x : Nd} (hx : x ∈ M) : ∃ y ∈ putR id M r, y.id = x.id ∧ y.kd = x.kd := by
  by_cases e : x.id = id
  · obtain ⟨g, e1, hg⟩ := fnd_at h
    obtain rfl : x = g := srtN_uniq hs hx (List.mem_of_getElem? e1) (e.trans hg.symm)
    refine ⟨⟨x.id, x.kd, .nilIface, r⟩, ?_, rfl, rfl⟩
    unfold putR
    rw [e1]
    show _ ∈ M.set (loN id M) _
    exact (mem_set_at e1 hs.nodup _).2 (.inr rfl)
  · exact ⟨x, (put_at hs h x e).2 hx, rfl, rfl⟩

theorem opE_cases {o : Opx} {M : List Nd} {T : List Te} (e : opE o M T = 0) :
    (o.wh = 1 ∧ opM o M T = newM o.nd M ∧ opT o M T = T) ∨ (o.wh = 2 ∧ fndN o.nd.id M = true ∧ opM o M T = M.eraseIdx (loN o.nd.id M) ∧ opT o M T = T.filter (keepT o.nd.id)) ∨
    ((o.wh = 3 ∨ o.wh = 4) ∧ fndN o.nd.id M = true ∧ (∃ r, opM o M T = putR o.nd.id M r) ∧ opT o M T = T) ∨ (o.wh = 5 ∧ opM o M T = M ∧ opT o M T = bindT o.te T) ∨ (o.wh = 6 ∧ fndT o.te T = true ∧ opM o M T = M ∧ opT o M T = T.eraseIdx (loT o.te T)) := by
  unfold opE at e
  unfold opM opT
  by_cases h1 : o.wh = 1
  · rw [if_pos h1, if_neg (by omega), if_neg (by omega), if_neg (by omega)]
    exact .inl ⟨h1, rfl, rfl⟩
  by_cases h2 : o.wh = 2
  · rw [if_neg h1, if_pos h2] at e
    rw [if_neg h1, if_pos h2, if_pos h2]
    refine .inr (.inl ⟨h2, ?_, rfl, rfl⟩)
    unfold goneE at e
    by_cases hf : fndN o.nd.id M = true
    · exact hf
    · rw [if_neg hf] at e; cases e
  by_cases h3 : o.wh = 3
  · rw [if_neg h1, if_neg h2, if_pos h3] at e
    rw [if_neg h1, if_neg h2, if_pos h3, if_neg h2, if_neg (by omega), if_neg (by omega)]
    refine .inr (.inr (.inl ⟨.inl h3, ?_, ⟨_, rfl⟩, rfl⟩))
    by_cases hf : fndN o.nd.id M = true
    · exact hf
    · rw [if_neg hf] at e; cases e
  by_cases h4 : o.wh = 4
  · rw [if_neg h1, if_neg h2, if_neg h3, if_pos h4] at e
    rw [if_neg h1, if_neg h2, if_neg h3, if_pos h4, if_neg h2, if_neg (by omega), if_neg (by omega)]
    refine .inr (.inr (.inl ⟨.inr h4, ?_, ⟨_, rfl⟩, rfl⟩))
    by_cases hf : fndN o.nd.id M = true
    · exact hf
    · rw [if_neg hf] at e; cases e
  by_cases h5 : o.wh = 5
  · rw [if_neg h1, if_neg h2, if_neg h3, if_neg h4, if_neg h2, if_pos h5]
    exact .inr (.inr (.inr (.inl ⟨h5, rfl, rfl⟩)))
  by_cases h6 : o.wh = 6
  · rw [if_neg h1, if_neg h2, if_neg h3, if_neg h4, if_neg h5, if_pos h6] at e
    rw [if_neg h1, if_neg h2, if_neg h3, if_neg h4, if_neg h2, if_neg h5, if_pos h6]
    refine .inr (.inr (.inr (.inr ⟨h6, ?_, rfl, rfl⟩)))
    by_cases hf : fndT o.te T = true
    · exact hf
    · rw [if_neg hf] at e; cases e
  rw [if_neg h1, if_neg h2, if_neg h3, if_neg h4, if_neg h5, if_neg h6] at e
  cases e

theorem opM_un {o : Opx} {M : List Nd} {T : List Te} (hs : SrtN M) (e : opE o M T = 0) (x : Nd) (hx : ¬ (o.wh = 5 ∨ o.wh = 6) → x.id ≠ o.nd.id) : x ∈ opM o M T ↔ x ∈ M := by
  rcases opE_cases e with ⟨h, e1, _⟩ | ⟨h, hf, e1, _⟩ | ⟨h, hf, ⟨r, e1⟩, _⟩ | ⟨h, e1, _⟩ | ⟨h, _, e1, _⟩
  · have hi := hx (by omega)
    rw [e1]
    unfold newM
    rw [mem_mid]
    exact ⟨fun q => q.resolve_right fun q => hi (by rw [q]; rfl), .inl⟩
  · have hi := hx (by omega)
    obtain ⟨g, e2, hg⟩ := fnd_at hf
    rw [e1, mem_erase_at e2 hs.nodup]
    exact ⟨fun q => q.1, fun q => ⟨q, fun q2 => hi (by rw [q2, hg])⟩⟩
  · rw [e1]; exact put_at hs hf x (hx (by omega))
  · rw [e1]
  · rw [e1]
theorem opM_kd {o : Opx} {M : List Nd} {T : List Te} (hs : SrtN M) (e : opE o M T = 0) {x : Nd} (hx : x ∈ M) (hg : x.id ∉ gonB o) : ∃ y ∈ opM o M T, y.id = x.id ∧ y.kd = x.kd := by
  rcases opE_cases e with ⟨h, e1, _⟩ | ⟨h, hf, e1, _⟩ | ⟨h, hf, ⟨r, e1⟩, _⟩ | ⟨h, e1, _⟩ | ⟨h, _, e1, _⟩
  · rw [e1]; exact ⟨x, mem_mid.2 (.inl hx), rfl, rfl⟩
  · obtain ⟨g, e2, hg2⟩ := fnd_at hf
    rw [e1]
    refine ⟨x, (mem_erase_at e2 hs.nodup x).2 ⟨hx, fun q => hg ?_⟩, rfl, rfl⟩
    unfold gonB
    rw [if_pos h, q, hg2]
    simp
  · rw [e1]; exact put_kd hs hf hx
  · rw [e1]; exact ⟨x, hx, rfl, rfl⟩
  · rw [e1]; exact ⟨x, hx, rfl, rfl⟩
theorem opT_un {o : Opx} {M : List Nd} {T : List Te} (hs : SrtT T) (e : opE o M T = 0) (t : Te) (h2 : o.wh = 2 → t ∈ T → t.end o.nd.id = false) (h5 : (o.wh = 5 ∨ o.wh = 6) → t ≠ o.te) : t ∈ opT o M T ↔ t ∈ T := by
  rcases opE_cases e with ⟨h, _, e1⟩ | ⟨h, hf, _, e1⟩ | ⟨h, hf, ⟨r, _⟩, e1⟩ | ⟨h, _, e1⟩ | ⟨h, hf, _, e1⟩
  · rw [e1]
  · rw [e1, List.mem_filter]
    exact ⟨fun q => q.1, fun q => ⟨q, by unfold keepT; rw [h2 h q]; rfl⟩⟩
  · rw [e1]
  · rw [e1]
    unfold bindT
    rw [mem_mid]
    exact ⟨fun q => q.resolve_right (h5 (.inl h)), .inl⟩
  · rw [e1, mem_erase_at (fndT_at hf) hs.nodup]
    exact ⟨fun q => q.1, fun q => ⟨q, h5 (.inr h)⟩⟩

structure Un (T0 : List Te) (X G : List Int) (M0 M : List Nd) (U : List Te) : Prop where
  nd : ∀ x : Nd, x.id ∉ X → (x ∈ M ↔ x ∈ M0)
  te : ∀ t : Te, (t.fr ∉ X ∨ t.tt ∉ X) → (t ∈ U ↔ t ∈ T0)
  kd : ∀ x ∈ M0, x.id ∉ G → ∃ y ∈ M, y.id = x.id ∧ y.kd = x.kd
theorem un_step {T0 : List Te} {X G : List Int} {M0 M : List Nd} {U : List Te} {o : Opx} (h : Un T0 X G M0 M U) (hg : gErr M U = 0) (e : opE o M U = 0) : Un T0 (X ++ touB T0 o) (G ++ gonB o) M0 (opM o M U) (opT o M U) := by
  obtain ⟨⟨_, hs, _⟩, ⟨_, ht, _⟩⟩ := (gErr_iff M U).1 hg
  refine ⟨fun x hx => ?_, fun t hx => ?_, fun x hx hn => ?_⟩
  · obtain ⟨x1, x2⟩ := not_or.1 (fun q => hx (List.mem_append.2 q))
    refine (opM_un hs e x fun hw q => x2 ?_).trans (h.nd x x1)
    unfold touB
    rw [if_neg hw, q]
    split <;> simp
  · have hx1 : t.fr ∉ X ∨ t.tt ∉ X := hx.imp (fun q q2 => q (List.mem_append.2 (.inl q2))) (fun q q2 => q (List.mem_append.2 (.inl q2)))
    have hx2 : t.fr ∉ touB T0 o ∨ t.tt ∉ touB T0 o := hx.imp (fun q q2 => q (List.mem_append.2 (.inr q2))) (fun q q2 => q (List.mem_append.2 (.inr q2)))
    refine (opT_un ht e t (fun hw hm => ?_) (fun hw q => ?_)).trans (h.te t hx1)
    · cases he : t.end o.nd.id with
      | false => rfl
      | true =>
        obtain ⟨a, b⟩ := oth_end ((h.te t hx1).1 hm) he
        unfold touB at hx2
        rw [if_neg (by omega), if_pos hw] at hx2
        exact absurd hx2 (by simp only [a, b, not_true_eq_false, or_self, not_false_eq_true])
    · unfold touB at hx2
      rw [if_pos hw, q] at hx2
      simp at hx2
  · obtain ⟨n1, n2⟩ := not_or.1 (fun q => hn (List.mem_append.2 q))
    obtain ⟨y, y1, y2, y3⟩ := h.kd x hx n1
    obtain ⟨z, z1, z2, z3⟩ := opM_kd hs e y1 (by rw [y2]; exact n2)
    exact ⟨z, z1, z2.trans y2, z3.trans y3⟩
theorem un_all {T0 : List Te} {M0 : List Nd} : ∀ (O : List Opx) (X G : List Int) (M : List Nd) (U : List Te), gErr M U = 0 → opS.err O M U = 0 → Un T0 X G M0 M U → Un T0 (X ++ touA T0 O) (G ++ gonA O) M0 (opS.res O M U).1 (opS.res O M U).2 ∧ gErr (opS.res O M U).1 (opS.res O M U).2 = 0
  | [], X, G, M, U, hg, _, h => by simpa [touA, gonA, OpS.res] using ⟨h, hg⟩
  | o :: O, X, G, M, U, hg, he, h => by
    by_cases e : opE o M U = 0
    · have e' : opS.e o M U = 0 := e
      have he' : opS.err O (opM o M U) (opT o M U) = 0 := by unfold OpS.err at he; rw [if_pos e'] at he; exact he
      have hr : opS.res (o :: O) M U = opS.res O (opM o M U) (opT o M U) := by rw [OpS.res, if_pos e']; rfl
      have := un_all O (X ++ touB T0 o) (G ++ gonB o) (opM o M U) (opT o M U) (keeps_all o M U hg e') he' (un_step h hg e)
      rw [hr]
      simpa [touA, gonA, List.append_assoc] using this
    · have e' : ¬ opS.e o M U = 0 := e
      unfold OpS.err at he
      rw [if_neg e'] at he
      exact absurd he e'
end Go.Proofs.YtikjmingkadjcaaGreatDoor

/-
  The faults behind ops: where the graph ahead of them conforms, a fault of a node that is not touched is that of a key that another one has.
-/
namespace Go.Proofs.YtikjmingkadjcaaGreatDoor
set_option linter.unusedVariables false
set_option linter.unusedSimpArgs false

/-! ### Which faults there may be -/
/-! ### What conforms has none of them -/
/-! ### Counts and ends -/
end Go.Proofs.YtikjmingkadjcaaGreatDoor

/-
  The walk of guard.Check where it tells an error; the walk of guard.May.
-/
namespace Go.Proofs.YtikjmingkadjcaaGreatDoor
open Go.RowKit
set_option linter.unusedVariables false
set_option linter.unusedSimpArgs false
theorem isG_sl {w : World} {v : Value} {N : List Nd} {T : List Te} (h : IsG w v N T) : ∃ a n c b m d, v = .agg #[.slice a n c, .slice b m d] := by
  obtain ⟨vn, vt, rfl, ⟨an, cn, rfl, _⟩, ⟨am, cm, rfl, _⟩, _⟩ := h
  exact ⟨_, _, _, _, _, _, rfl⟩
end Go.Proofs.YtikjmingkadjcaaGreatDoor

/-
  The walk of index.keyNames.
-/
namespace Go.Proofs.YtikjmingkadjcaaGreatDoor
open Go.RowKit
set_option linter.unusedVariables false
set_option linter.unusedSimpArgs false

def keysF (l : List Fd) : List Nm := (l.filter Fd.key).map Fd.nm
theorem keysF_yes {l : List Fd} {k : Nat} {f : Fd} (h : l[k]? = some f) (hk : f.key = true) : keysF (l.take (k + 1)) = keysF (l.take k) ++ [f.nm] := by
  unfold keysF
  rw [List.take_add_one, h, List.filter_append, List.map_append]
  simp [hk]
theorem keysF_no {l : List Fd} {k : Nat} {f : Fd} (h : l[k]? = some f) (hk : f.key = false) : keysF (l.take (k + 1)) = keysF (l.take k) := by
  unfold keysF
  rw [List.take_add_one, h, List.filter_append, List.map_append]
  simp [hk]
theorem keysF_len (l : List Fd) : (keysF l).length ≤ l.length := by
  unfold keysF
  rw [List.length_map]
  exact List.length_filter_le _ _
theorem isF_atI {w : World} {v : Value} {l : List Fd} (h : IsF w v l) : ∃ ao c, v = .slice ao l.length c ∧ ∀ j f, l[j]? = some f → ∃ b o, ao = some ⟨b, o, none⟩ ∧ b < w.heap.size ∧ w.cell? ⟨b, o + j * 4, none⟩ = some (.string (bs f.nm)) ∧ w.cell? ⟨b, o + j * 4 + 1, none⟩ = some (.int .i64 f.t) ∧ w.cell? ⟨b, o + j * 4 + 2, none⟩ = some (.bool f.must) ∧ w.cell? ⟨b, o + j * 4 + 3, none⟩ = some (.bool f.key) := by
  rcases h with ⟨ao, c, rfl, rfl, _⟩ | ⟨b, off, cap, rfl, hc, hm, hb, hl⟩
  · exact ⟨ao, c, rfl, fun j g hg => by simp at hg⟩
  · exact ⟨_, _, rfl, fun j g hg => ⟨b, off, rfl, hb, hl j g hg⟩⟩
theorem infoStr : (Tryz.prog.info? 9).map (fun i => (i.zero, i.size, i.bytes)) = some (some (.string ⟨#[]⟩), 1, 16) := by kernel_rfl
set_option maxHeartbeats 4000000 in
set_option maxRecDepth 100000 in
theorem keyNames_any {v : Value} {l : List Fd} {w : World} (h : IsF w v l) (hn : l.length ≤ 1000) :
    Calls Tryz.prog 51 #[v] w fun e w' => ∃ u, e = .returned u ∧ w'.ownsRow w.heap.size 9 1 u (keysF l).length (cellsS (keysF l)) ∧ Below w.heap.size w w' := by
  obtain ⟨ao, c, rfl, hv⟩ := isF_atI h
  obtain ⟨i9, hi9, hz90, hz91, hz92⟩ := info_parts infoStr
  have HV := Lib.hid hv
  clear h hv
  go_enter Tryz.func51, Tryz.ntmps51
  go_wp2
  go_loopw [3, 8] (fun s3 s8 wr => ∃ k : Nat, k ≤ l.length ∧ s8 = .int .i64 k ∧ wr.ownsRow w.heap.size 9 1 s3 (keysF (l.take k)).length (cellsS (keysF (l.take k))) ∧ Below w.heap.size w wr) (fun _ s8 _ => l.length - (intOf s8).toNat)
  case atStart => exact ⟨0, Nat.zero_le _, rfl, World.ownsRow_nil _ _ _ _, Below.refl _ _⟩
  case round =>
    obtain ⟨k, hk, rfl, hrow, hB⟩ := hrel
    obtain ⟨a3, c3, e3⟩ := own_sliceC hrow
    subst e3
    by_cases hlt : k < l.length
    · obtain ⟨f, hf⟩ : ∃ f, l[k]? = some f := ⟨l[k], by simp [hlt]⟩
      obtain ⟨b, o, rfl, hbl, d0, d1, d2, d3⟩ := HV.out k f hf
      have d0 := (hB.cell (p := ⟨b, o + k * 4, none⟩) hbl).trans d0
      have d1 := (hB.cell (p := ⟨b, o + k * 4 + 1, none⟩) hbl).trans d1
      have d2 := (hB.cell (p := ⟨b, o + k * 4 + 2, none⟩) hbl).trans d2
      have d3 := (hB.cell (p := ⟨b, o + k * 4 + 3, none⟩) hbl).trans d3
      have HF := Lib.hid hf
      have hkl : Hid ((keysF (l.take k)).length ≤ 1000) := by have := keysF_len (l.take k); rw [List.length_take] at this; show _ ≤ _; omega
      obtain ⟨nm, t, mu, ky⟩ := f
      simp only at d0 d1 d2 d3
      have hBa : Below wr.heap.size wr (wr.alloc (.cells #[.string (bs nm), .int .i64 t, .bool mu, .bool ky] 101)) := (Below.refl _ _).alloc (Nat.le_refl _) _
      have HR : Hid ((wr.alloc (.cells #[.string (bs nm), .int .i64 t, .bool mu, .bool ky] 101)).ownsRow w.heap.size 9 1 (.slice a3 (keysF (l.take k)).length c3) (keysF (l.take k)).length (cellsS (keysF (l.take k))) ∧ Below w.heap.size w (wr.alloc (.cells #[.string (bs nm), .int .i64 t, .bool mu, .bool ky] 101))) := ⟨hrow.alloc _, hB.trans (hBa.mono hB.size)⟩
      have hbn : ¬ b = wr.heap.size := by have := hB.size; omega
      clear hrow hf hbl hBa
      cases ky
      · have HN := Lib.hid (keysF_no HF.out rfl)
        clear hB
        go_wp2
        go_roundw
        case rel => exact ⟨k + 1, by omega, by go_num, by rw [HN.out]; exact HR.out.1, HR.out.2⟩
        case measure => simp [intOf]; omega
      · have HN := Lib.hid (keysF_yes HF.out rfl)
        have HA : Hid (((wr.alloc (.cells #[.string (bs nm), .int .i64 t, .bool mu, .bool true] 101)).alloc (.cells #[.string (bs nm)] 9)).ownsRow w.heap.size 9 1 (.slice a3 (keysF (l.take k)).length c3) (keysF (l.take k)).length (cellsS (keysF (l.take k))) ∧ Below w.heap.size w ((wr.alloc (.cells #[.string (bs nm), .int .i64 t, .bool mu, .bool true] 101)).alloc (.cells #[.string (bs nm)] 9))) := ⟨HR.out.1.alloc _, HR.out.2.alloc HR.out.2.size _⟩
        have HM : Hid ((keysF (l.take k)).length + 1 ≤ maxLen ∧ ((keysF (l.take k)).length + 1) * 16 ≤ 140737488355328) := by have := hkl.out; unfold maxLen; exact ⟨by omega, by omega⟩
        have hna : ∀ j u, [Value.string (bs nm)][j]? = some u → ((wr.alloc (.cells #[.string (bs nm), .int .i64 t, .bool mu, .bool true] 101)).alloc (.cells #[.string (bs nm)] 9)).cell? ((⟨wr.heap.size + 1, 0, none⟩ : Addr).add j) = some u := by
          have := new_atC (wr.alloc (.cells #[.string (bs nm), .int .i64 t, .bool mu, .bool true] 101)) [.string (bs nm)] 9
          rw [World.size_alloc] at this
          exact this
        have HNA := Lib.hid hna
        clear hna hB
        go_wp2_with (first | (at_builtin; refine wpList_append_own _ rfl (.tmp 14) (.tmp 17) 31 rfl w.heap.size 9 i9 _ 1 16 Tryz.underlying31 hi9 hz90 hz91 hz92 rfl (by decide) (.slice a3 (keysF (l.take k)).length c3) (keysF (l.take k)).length (cellsS (keysF (l.take k))) rfl HA.out.1 ⟨wr.heap.size + 1, 0, none⟩ 1 1 [.string (bs nm)] rfl rfl HNA.out (by simp [Value.oneCell']) HM.out.1 HM.out.2 HA.out.2.size ?_; intro v1 w1 hown1 hgrow1 _; have HRR : Hid (w1.ownsRow w.heap.size 9 1 v1 (keysF (l.take (k + 1))).length (cellsS (keysF (l.take (k + 1)))) ∧ Below w.heap.size w w1) := (by refine ⟨?_, HA.out.2.grown hgrow1 HA.out.2.size (fun g hg => (HA.out.1.lt g hg).1)⟩; rw [HN.out, List.length_append, cellsS_app]; exact hown1); clear hown1 hgrow1))
        go_roundw
        case rel => exact ⟨k + 1, by omega, by go_num, HRR.out.1, HRR.out.2⟩
        case measure => simp [intOf]; omega
    · obtain rfl : k = l.length := by omega
      rw [List.take_length] at hrow
      have HR := Lib.hid hrow
      clear hrow
      go_wp2
      go_ret
      refine ⟨_, rfl, ?_, hB⟩
      have h := HR.out
      simp only [List.take_length] at h ⊢
      exact h
end Go.Proofs.YtikjmingkadjcaaGreatDoor

/-
  The walk of schema.Copy.
-/
namespace Go.Proofs.YtikjmingkadjcaaGreatDoor
open Go.RowKit
set_option linter.unusedVariables false
set_option linter.unusedSimpArgs false

def kq3 (k : Kd) : Nm × List Nm × List Fd := (k.nm, k.of, k.fs)
def cellsBd (L : List Bd) : List Value := L.flatMap Bd.cells
def OwnKs (w : World) (base : Nat) (v : Value) (L : List Kd) : Prop := w.ownsRow base 34 3 v L.length (cellsK L) ∧ ∀ k ∈ L, w.ownsRow base 9 1 k.vo k.of.length (cellsS k.of) ∧ w.ownsRow base 101 4 k.vf k.fs.length (cellsF k.fs)
def OwnBs (w : World) (base : Nat) (v : Value) (B : List Bd) : Prop := w.ownsRow base 103 5 v B.length (cellsBd B)
theorem OwnKs.kt {w w' : World} {base : Nat} {v : Value} {L : List Kd} (h : OwnKs w base v L) (h36 : Kt 34 w w') (h9 : Kt 9 w w') (h32 : Kt 101 w w') : OwnKs w' base v L := ⟨own_kt h.1 h36, fun k hk => ⟨own_kt (h.2 k hk).1 h9, own_kt (h.2 k hk).2 h32⟩⟩
theorem infoKd : (Tryz.prog.info? 34).map (fun i => (i.zero, i.size, i.bytes)) = some (some (.agg #[.string ⟨#[]⟩, .slice none 0 0, .slice none 0 0]), 3, 64) := by kernel_rfl
theorem infoFdI : (Tryz.prog.info? 101).map (fun i => (i.zero, i.size, i.bytes)) = some (some (.agg #[.string ⟨#[]⟩, .int .i64 0, .bool false, .bool false]), 4, 32) := by kernel_rfl
theorem infoBdI : (Tryz.prog.info? 103).map (fun i => (i.zero, i.size, i.bytes)) = some (some (.agg #[.string ⟨#[]⟩, .string ⟨#[]⟩, .string ⟨#[]⟩, .int .i64 0, .int .i64 0]), 5, 64) := by kernel_rfl
theorem hasS {w : World} {v : Value} {l : List Nm} (h : IsS w v l) : HasC w v l.length (cellsS l) := by
  rcases h with ⟨ao, c, rfl, rfl, _⟩ | ⟨b, off, cap, rfl, _, _, hb, hl⟩
  · exact ⟨ao, c, rfl, .inl ⟨rfl, rfl⟩⟩
  · refine ⟨_, cap, rfl, .inr ⟨b, off, rfl, hb, fun j u hu => ?_⟩⟩
    unfold cellsS at hu
    rw [List.getElem?_map] at hu
    obtain ⟨n, h1, rfl⟩ := Option.map_eq_some_iff.1 hu
    rw [Addr.add_lit]
    exact hl j n h1
theorem fd_len (f : Fd) : f.cells.length = 4 := rfl
theorem bd_len (x : Bd) : x.cells.length = 5 := rfl
theorem hasF {w : World} {v : Value} {l : List Fd} (h : IsF w v l) : HasC w v l.length (cellsF l) := by
  rcases h with ⟨ao, c, rfl, rfl, _⟩ | ⟨b, off, cap, rfl, _, _, hb, hl⟩
  · exact ⟨ao, c, rfl, .inl ⟨rfl, rfl⟩⟩
  · refine ⟨_, cap, rfl, .inr ⟨b, off, rfl, hb, fun j u hu => ?_⟩⟩
    obtain ⟨k, x, i, hk, hi, rfl, hx⟩ := flatK_inv fd_len l hu
    obtain ⟨c0, c1, c2, c3⟩ := hl k x hk
    rw [Addr.add_lit, ← Nat.add_assoc]
    have : i = 0 ∨ i = 1 ∨ i = 2 ∨ i = 3 := by omega
    rcases this with rfl | rfl | rfl | rfl <;> (simp only [Fd.cells] at hx; simp at hx; subst hx)
    · exact c0
    · exact c1
    · exact c2
    · exact c3
theorem hasB {w : World} {v : Value} {l : List Bd} (h : IsB w v l) : HasC w v l.length (cellsBd l) := by
  rcases h with ⟨rfl, rfl⟩ | ⟨b, off, cap, rfl, _, _, hb, hl⟩
  · exact ⟨none, 0, rfl, .inl ⟨rfl, rfl⟩⟩
  · refine ⟨_, cap, rfl, .inr ⟨b, off, rfl, hb, fun j u hu => ?_⟩⟩
    obtain ⟨k, x, i, hk, hi, rfl, hx⟩ := flatK_inv bd_len l hu
    obtain ⟨c0, c1, c2, c3, c4⟩ := hl k x hk
    rw [Addr.add_lit, ← Nat.add_assoc]
    have : i = 0 ∨ i = 1 ∨ i = 2 ∨ i = 3 ∨ i = 4 := by omega
    rcases this with rfl | rfl | rfl | rfl | rfl <;> (simp only [Bd.cells] at hx; simp at hx; subst hx)
    · exact c0
    · exact c1
    · exact c2
    · exact c3
    · exact c4
theorem fd_one (L : List Fd) : ∀ u ∈ cellsF L, u.oneCell' = true := by
  intro u hu
  obtain ⟨p, _, hp⟩ := List.mem_flatMap.1 hu
  simp [Fd.cells] at hp
  rcases hp with rfl | rfl | rfl | rfl <;> rfl
theorem bd_oneI (L : List Bd) : ∀ u ∈ cellsBd L, u.oneCell' = true := by
  intro u hu
  obtain ⟨p, _, hp⟩ := List.mem_flatMap.1 hu
  simp [Bd.cells] at hp
  rcases hp with rfl | rfl | rfl | rfl | rfl <;> rfl
theorem str_one (L : List Nm) : ∀ u ∈ cellsS L, u.oneCell' = true := by
  intro u hu
  obtain ⟨p, _, rfl⟩ := List.mem_map.1 hu
  rfl
theorem clone_names (w : World) (base : Nat) (hb : base ≤ w.heap.size) {v : Value} {L : List Nm} (h : IsS w v L) (hl : L.length ≤ 1000) (ty : TypeId) :
    ∃ v' w', (Builtin.append_ #[31, 31] ty #[.slice none 0 0, v]).run Tryz.prog w = .ok v' w' ∧ (w'.ownsRow base 9 1 v' L.length (cellsS L) ∧ w.grownBy w' none) := by
  obtain ⟨i0, hi0, hz0, hz1, hz2⟩ := info_parts infoStr
  exact run_clone w base 31 ty 9 i0 _ 1 16 Tryz.underlying31 hi0 hz0 hz1 hz2 rfl (by decide) v _ _ (hasS h) (cellsS_len L) (str_one L) (by unfold maxLen; omega) (by omega) hb
theorem clone_fields (w : World) (base : Nat) (hb : base ≤ w.heap.size) {v : Value} {L : List Fd} (h : IsF w v L) (hl : L.length ≤ 1000) (ty : TypeId) :
    ∃ v' w', (Builtin.append_ #[32, 32] ty #[.slice none 0 0, v]).run Tryz.prog w = .ok v' w' ∧ (w'.ownsRow base 101 4 v' L.length (cellsF L) ∧ w.grownBy w' none) := by
  obtain ⟨i0, hi0, hz0, hz1, hz2⟩ := info_parts infoFdI
  exact run_clone w base 32 ty 101 i0 _ 4 32 Tryz.underlying32 hi0 hz0 hz1 hz2 rfl (by decide) v _ _ (hasF h) (flatK_len fd_len L) (fd_one L) (by unfold maxLen; omega) (by omega) hb
theorem clone_bonds (w : World) (base : Nat) (hb : base ≤ w.heap.size) {v : Value} {L : List Bd} (h : IsB w v L) (hl : L.length ≤ 1000) (ty : TypeId) :
    ∃ v' w', (Builtin.append_ #[23, 23] ty #[.slice none 0 0, v]).run Tryz.prog w = .ok v' w' ∧ (OwnBs w' base v' L ∧ w.grownBy w' none) := by
  obtain ⟨i0, hi0, hz0, hz1, hz2⟩ := info_parts infoBdI
  exact run_clone w base 23 ty 103 i0 _ 5 64 Tryz.underlying23 hi0 hz0 hz1 hz2 rfl (by decide) v _ _ (hasB h) (flatK_len bd_len L) (bd_oneI L) (by unfold maxLen; omega) (by omega) hb
end Go.Proofs.YtikjmingkadjcaaGreatDoor
