/-
  Maps that the call has made, of any keys and any elements: what lies in them as a function of the key; make, look-up, store, and the entry of 'm[k]++'.
-/
import Derived.Maps.Keyed
import Derived.Maps.OwnOps
import Derived.WalkKit
namespace Go.Proofs.Ytjjnfnlkfojehaa
open Go.RowKit
open Go.MapKept Go.ChangeMaps
open Go.Maps (Keyed)
set_option linter.unusedVariables false
set_option linter.unusedSimpArgs false

section
variable {κ : Type}

/-- One more. -/
def upd [DecidableEq κ] {β : Type} (F : κ → Option β) (x : κ) (v : β) : κ → Option β := fun y => if y = x then some v else F y

/-- Block b is a map with the entries of F. -/
def OwnM (w : World) (P : Program) (k : TypeId) (enc : κ → Value) (b : Nat) (F : κ → Option Value) : Prop :=
  ∃ es clock, w.heap[b]? = some (.map es clock) ∧ Stamped es clock ∧ (∀ e ∈ es.toList, ∃ x l, e.key = enc x ∧ keyOf P k e.key = some l ∧ F x = some e.val) ∧ (∀ x v, F x = some v → ∃ e ∈ es.toList, e.key = enc x ∧ e.val = v)
/-- And the entry of x bears the stamp n. -/
def OwnE (w : World) (P : Program) (k : TypeId) (enc : κ → Value) (b : Nat) (F : κ → Option Value) (x : κ) (n : Nat) : Prop :=
  ∃ es clock, w.heap[b]? = some (.map es clock) ∧ Stamped es clock ∧ (∀ e ∈ es.toList, ∃ x l, e.key = enc x ∧ keyOf P k e.key = some l ∧ F x = some e.val) ∧ (∀ x v, F x = some v → ∃ e ∈ es.toList, e.key = enc x ∧ e.val = v) ∧ ∃ e ∈ es.toList, e.key = enc x ∧ e.born = n

variable {w : World} {P : Program} {k : TypeId} {enc : κ → Value} {b : Nat} {F : κ → Option Value}

theorem OwnE.m {x : κ} {n : Nat} (h : OwnE w P k enc b F x n) : OwnM w P k enc b F := by
  obtain ⟨es, c, h1, h2, h3, h4, _⟩ := h
  exact ⟨es, c, h1, h2, h3, h4⟩
theorem OwnM.lt (h : OwnM w P k enc b F) : b < w.heap.size := by
  obtain ⟨es, c, h1, _⟩ := h
  exact (Array.getElem?_eq_some_iff.1 h1).1
theorem OwnM.of_block {w' : World} (h : OwnM w P k enc b F) (hb : w'.heap[b]? = w.heap[b]?) : OwnM w' P k enc b F := by
  obtain ⟨es, c, h1, h2⟩ := h
  exact ⟨es, c, hb.trans h1, h2⟩
theorem OwnE.of_block {w' : World} {x : κ} {n : Nat} (h : OwnE w P k enc b F x n) (hb : w'.heap[b]? = w.heap[b]?) : OwnE w' P k enc b F x n := by
  obtain ⟨es, c, h1, h2⟩ := h
  exact ⟨es, c, hb.trans h1, h2⟩
theorem OwnM.drew (h : OwnM w P k enc b F) : OwnM w.drew P k enc b F := h
/-- A map has no cells. -/
theorem OwnM.no_cell (h : OwnM w P k enc b F) (i : Nat) (s : Option Nat) : ∀ a : Addr, a.block = b → w.cell? a = none := by
  obtain ⟨es, c, h1, _⟩ := h
  intro a ha
  subst ha
  simp [World.cell?, h1]
theorem OwnM.made (w : World) : OwnM (w.alloc (.map #[] 0)) P k enc w.heap.size (fun _ => none) :=
  ⟨#[], 0, (MapKept.heap_alloc w _).1, stamped_empty 0, by simp, by simp⟩

theorem OwnM.look (h : OwnM w P k enc b F) (K : Keyed P k) (hinj : ∀ x y, enc x = enc y → x = y) {t e : TypeId} (ht : P.underlying t = some (.map k e)) {z : Value} (hz : (zeroValue e).run P w = .ok z w) {x : κ} {l : Lit} (hk : keyOf P k (enc x) = some l) (c : Bool) :
    (Instr.lookup t (.map (some b)) (enc x) c).run P w = .ok (if c then .tuple #[(F x).getD z, .bool (F x).isSome] else (F x).getD z) w := by
  obtain ⟨es, clock, hb, hs, h1, h2⟩ := h
  rcases K.find w hk es.toList (fun e he => by obtain ⟨_, l, _, h, _⟩ := h1 e he; exact ⟨l, h⟩) with ⟨f1, f2⟩ | ⟨j, e0, f1, f2, f3⟩
  · have hF : F x = none := by
      cases hx : F x with
      | none => rfl
      | some v => obtain ⟨e, he, hke, _⟩ := h2 x v hx; exact absurd hke (f2 e he)
    rw [hF]
    simp [Instr.lookup, run_underlying ht, MapKept.run_getObj_map hb, K.check w _ hk, f1, hz, Result.andThen]
  · obtain ⟨y, l', g1, g2, g3⟩ := h1 e0 (List.mem_of_getElem? f2)
    obtain rfl : y = x := hinj _ _ (g1.symm.trans f3)
    rw [g3]
    simp [Instr.lookup, run_underlying ht, MapKept.run_getObj_map hb, K.check w _ hk, f1, Result.andThen]

theorem key_once {es : Array MapEntry} {clock : Nat} (hs : Stamped es clock) {e e' : MapEntry} (he : e ∈ es.toList) (he' : e' ∈ es.toList) (h : e.key = e'.key) : e = e' := by
  have hp := ((stamped_iff es clock).1 hs).2.2
  obtain ⟨i, hi, rfl⟩ := List.getElem_of_mem he
  obtain ⟨j, hj, rfl⟩ := List.getElem_of_mem he'
  by_cases hij : i = j
  · subst hij; rfl
  · rw [List.pairwise_iff_getElem] at hp
    rcases Nat.lt_or_gt_of_ne hij with h1 | h1
    · exact absurd h (hp i j hi hj h1)
    · exact absurd h.symm (hp j i hj hi h1)
theorem mem_modify {es : Array MapEntry} {j : Nat} {e0 : MapEntry} (f : MapEntry → MapEntry) (h : es.toList[j]? = some e0) (x : MapEntry) :
    x ∈ (es.modify j f).toList → x = f e0 ∨ ∃ i, i ≠ j ∧ es.toList[i]? = some x := by
  intro hx
  rw [Array.toList_modify, modify_eq_set _ _ _ _ h] at hx
  obtain ⟨i, hi, ex⟩ := List.getElem_of_mem hx
  rw [List.getElem_set] at ex
  split at ex
  · exact .inl ex.symm
  · rename_i hne
    have hi' : i < es.toList.length := by simpa using hi
    exact .inr ⟨i, fun e => hne e.symm, by rw [List.getElem?_eq_getElem hi', ex]⟩
theorem mem_modify_at {es : Array MapEntry} {j : Nat} {e0 : MapEntry} (f : MapEntry → MapEntry) (h : es.toList[j]? = some e0) : f e0 ∈ (es.modify j f).toList := by
  rw [Array.toList_modify, modify_eq_set _ _ _ _ h]
  have hj := (List.getElem?_eq_some_iff.1 h).1
  exact List.mem_iff_getElem.2 ⟨j, by simpa using hj, by simp⟩
theorem mem_modify_other {es : Array MapEntry} {j : Nat} {e0 : MapEntry} (f : MapEntry → MapEntry) (h : es.toList[j]? = some e0) {e : MapEntry} (he : e ∈ es.toList) (hne : e ≠ e0) : e ∈ (es.modify j f).toList := by
  rw [Array.toList_modify, modify_eq_set _ _ _ _ h]
  obtain ⟨i, hi, rfl⟩ := List.getElem_of_mem he
  have hij : ¬ j = i := fun e => by
    subst e
    rw [List.getElem?_eq_getElem hi] at h
    exact hne (Option.some.inj h)
  exact List.mem_iff_getElem.2 ⟨i, by simpa using hi, by rw [List.getElem_set, if_neg hij]⟩

/-- An entry's element is turned: what the map is then. -/
theorem own_modify [DecidableEq κ] {es : Array MapEntry} {clock : Nat} (hs : Stamped es clock) (h1 : ∀ e ∈ es.toList, ∃ x l, e.key = enc x ∧ keyOf P k e.key = some l ∧ F x = some e.val) (h2 : ∀ x v, F x = some v → ∃ e ∈ es.toList, e.key = enc x ∧ e.val = v) (hinj : ∀ x y, enc x = enc y → x = y)
    {j : Nat} {e0 : MapEntry} (hj : es.toList[j]? = some e0) {x : κ} (hx : e0.key = enc x) (f : MapEntry → MapEntry) (hfk : (f e0).key = e0.key) {v : Value} (hfv : (f e0).val = v) :
    (∀ e ∈ (es.modify j f).toList, ∃ y l, e.key = enc y ∧ keyOf P k e.key = some l ∧ upd F x v y = some e.val) ∧ (∀ y u, upd F x v y = some u → ∃ e ∈ (es.modify j f).toList, e.key = enc y ∧ e.val = u) := by
  have hm0 := List.mem_of_getElem? hj
  constructor
  · intro e he
    rcases mem_modify f hj e he with rfl | ⟨i, hij, hi⟩
    · obtain ⟨y, l, g1, g2, g3⟩ := h1 e0 hm0
      refine ⟨x, l, by rw [hfk, hx], by rw [hfk]; exact g2, ?_⟩
      unfold upd; rw [if_pos rfl, hfv]
    · obtain ⟨y, l, g1, g2, g3⟩ := h1 e (List.mem_of_getElem? hi)
      refine ⟨y, l, g1, g2, ?_⟩
      have hyx : ¬ y = x := fun h => by
        subst h
        have hp := ((stamped_iff es clock).1 hs).2.2
        rw [List.pairwise_iff_getElem] at hp
        obtain ⟨hil, e1⟩ := List.getElem?_eq_some_iff.1 hi
        obtain ⟨hjl, e2⟩ := List.getElem?_eq_some_iff.1 hj
        have ek : es.toList[i].key = es.toList[j].key := by rw [e1, e2, g1, hx]
        rcases Nat.lt_or_gt_of_ne hij with h | h
        · exact hp i j hil hjl h ek
        · exact hp j i hjl hil h ek.symm
      unfold upd; rw [if_neg hyx]; exact g3
  · intro y u hu
    unfold upd at hu
    split at hu
    · rename_i hyx
      subst hyx
      exact ⟨f e0, mem_modify_at f hj, by rw [hfk, hx], by rw [hfv]; exact Option.some.inj hu⟩
    · rename_i hyx
      obtain ⟨e, he, g1, g2⟩ := h2 y u hu
      refine ⟨e, mem_modify_other f hj he (fun h => hyx ?_), g1, g2⟩
      subst h
      exact hinj _ _ (g1.symm.trans hx)
theorem own_push [DecidableEq κ] {es : Array MapEntry} (h1 : ∀ e ∈ es.toList, ∃ x l, e.key = enc x ∧ keyOf P k e.key = some l ∧ F x = some e.val) (h2 : ∀ x v, F x = some v → ∃ e ∈ es.toList, e.key = enc x ∧ e.val = v)
    {x : κ} {l : Lit} (hk : keyOf P k (enc x) = some l) (hno : ∀ e ∈ es.toList, e.key ≠ enc x) (v : Value) (n : Nat) :
    (∀ e ∈ (es.push ⟨enc x, v, n⟩).toList, ∃ y l, e.key = enc y ∧ keyOf P k e.key = some l ∧ upd F x v y = some e.val) ∧ (∀ y u, upd F x v y = some u → ∃ e ∈ (es.push ⟨enc x, v, n⟩).toList, e.key = enc y ∧ e.val = u) := by
  constructor
  · intro e he
    simp only [Array.toList_push, List.mem_append, List.mem_singleton] at he
    rcases he with he | rfl
    · obtain ⟨y, l', g1, g2, g3⟩ := h1 e he
      refine ⟨y, l', g1, g2, ?_⟩
      unfold upd
      rw [if_neg (fun h => hno e he (by rw [g1, h]))]; exact g3
    · exact ⟨x, l, rfl, hk, by unfold upd; rw [if_pos rfl]⟩
  · intro y u hu
    simp only [Array.toList_push, List.mem_append, List.mem_singleton]
    unfold upd at hu
    split at hu
    · rename_i hyx
      subst hyx
      exact ⟨_, .inr rfl, rfl, Option.some.inj hu⟩
    · obtain ⟨e, he, g1, g2⟩ := h2 y u hu
      exact ⟨e, .inl he, g1, g2⟩
theorem grown_setBlock {w : World} {b : Nat} {es : Array MapEntry} {clock : Nat} (hb : w.heap[b]? = some (.map es clock)) (o : Obj) : w.grownBy (setBlock w b o) (some b) :=
  ⟨rfl, rfl, rfl, by simp [setBlock], fun i _ hi => heap_setBlock_other hb _ (fun e => hi (by rw [e]))⟩

theorem OwnM.put [DecidableEq κ] (h : OwnM w P k enc b F) (K : Keyed P k) (hinj : ∀ x y, enc x = enc y → x = y) {t e : TypeId} (ht : P.underlying t = some (.map k e)) {x : κ} {l : Lit} (hk : keyOf P k (enc x) = some l) (v : Value) :
    ∃ w', (Instr.mapUpdate t (.map (some b)) (enc x) v).run P w = .ok () w' ∧ OwnM w' P k enc b (upd F x v) ∧ w.grownBy w' (some b) := by
  obtain ⟨es, clock, hb, hs, h1, h2⟩ := h
  rcases K.find w hk es.toList (fun e he => by obtain ⟨_, l, _, h, _⟩ := h1 e he; exact ⟨l, h⟩) with ⟨f1, f2⟩ | ⟨j, e0, f1, f2, f3⟩
  · refine ⟨setBlock w b (.map (es.push ⟨enc x, v, clock⟩) (clock + 1)), ?_, ⟨_, _, heap_setBlock_same hb _, stamped_push hs f2, own_push h1 h2 hk f2 v clock⟩, grown_setBlock hb _⟩
    simp [Instr.mapUpdate, run_underlying ht, MapKept.run_getObj_map hb, K.check w false hk, f1, MapKept.run_setObj_map _ hb, Result.andThen, setBlock]
  · have hj : es[j]? = some e0 := by simpa using f2
    refine ⟨setBlock w b (.map (es.modify j (fun e' => { e' with key := enc x, val := v })) clock), ?_, ⟨_, _, heap_setBlock_same hb _, stamped_modify hs _ _ (fun _ _ => rfl) (fun e' _ he' => by rw [hj] at he'; cases he'; exact f3.symm), own_modify hs h1 h2 hinj f2 f3 _ f3.symm rfl⟩, grown_setBlock hb _⟩
    simp [Instr.mapUpdate, run_underlying ht, MapKept.run_getObj_map hb, K.check w false hk, f1, hj, f3, K.stays w hk, MapKept.run_setObj_map _ hb, Result.andThen, setBlock]

theorem OwnM.entry [DecidableEq κ] (h : OwnM w P k enc b F) (K : Keyed P k) (hinj : ∀ x y, enc x = enc y → x = y) {t e : TypeId} (ht : P.underlying t = some (.map k e)) {z : Value} (hz : (zeroValue e).run P w = .ok z w) {x : κ} {l : Lit} (hk : keyOf P k (enc x) = some l) :
    ∃ (w' : World) (n : Nat), (Instr.mapEntry t (.map (some b)) (enc x)).run P w = .ok (.tuple #[(F x).getD z, goInt n]) w' ∧ OwnE w' P k enc b (upd F x ((F x).getD z)) x n ∧ w.grownBy w' (some b) := by
  obtain ⟨es, clock, hb, hs, h1, h2⟩ := h
  rcases K.find w hk es.toList (fun e he => by obtain ⟨_, l, _, h, _⟩ := h1 e he; exact ⟨l, h⟩) with ⟨f1, f2⟩ | ⟨j, e0, f1, f2, f3⟩
  · have hF : F x = none := by
      cases hx : F x with
      | none => rfl
      | some v => obtain ⟨e, he, hke, _⟩ := h2 x v hx; exact absurd hke (f2 e he)
    rw [hF]
    obtain ⟨p1, p2⟩ := own_push h1 h2 hk f2 z clock
    refine ⟨setBlock w b (.map (es.push ⟨enc x, z, clock⟩) (clock + 1)), clock, ?_, ⟨_, _, heap_setBlock_same hb _, stamped_push hs f2, p1, p2, ⟨enc x, z, clock⟩, by simp, rfl, rfl⟩, grown_setBlock hb _⟩
    simp [Instr.mapEntry, run_underlying ht, MapKept.run_getObj_map hb, K.check w false hk, f1, hz, MapKept.run_setObj_map _ hb, Result.andThen, setBlock]
  · have hj : es[j]? = some e0 := by simpa using f2
    have hm0 := List.mem_of_getElem? f2
    obtain ⟨y, l', g1, g2, g3⟩ := h1 e0 hm0
    obtain rfl : y = x := hinj _ _ (g1.symm.trans f3)
    rw [g3]
    obtain ⟨p1, p2⟩ := own_modify (F := F) hs h1 h2 hinj f2 f3 (fun e' => { e' with key := enc y }) f3.symm (v := e0.val) rfl
    refine ⟨setBlock w b (.map (es.modify j (fun e' => { e' with key := enc y })) clock), e0.born, ?_, ⟨_, _, heap_setBlock_same hb _, stamped_modify hs _ _ (fun _ _ => rfl) (fun e' _ he' => by rw [hj] at he'; cases he'; exact f3.symm), p1, p2, { e0 with key := enc y }, mem_modify_at _ f2, rfl, rfl⟩, grown_setBlock hb _⟩
    simp [Instr.mapEntry, run_underlying ht, MapKept.run_getObj_map hb, K.check w false hk, f1, hj, f3, K.stays w hk, MapKept.run_setObj_map _ hb, Result.andThen, setBlock]

theorem OwnE.store [DecidableEq κ] {x : κ} {n : Nat} (h : OwnE w P k enc b F x n) (hinj : ∀ x y, enc x = enc y → x = y) (t : TypeId) (v : Value) :
    ∃ w', (Instr.entryStore t (.map (some b)) (goInt n) v).run P w = .ok () w' ∧ OwnM w' P k enc b (upd F x v) ∧ w.grownBy w' (some b) := by
  obtain ⟨es, clock, hb, hs, h1, h2, e0, he0, hx, hn⟩ := h
  obtain ⟨j, hjl, ej⟩ := List.getElem_of_mem he0
  have hnd := ((stamped_iff es clock).1 hs).2.1
  have hidx : es.findIdx? (fun e => (e.born : Int) == (n : Int)) = some j := by
    rw [Array.findIdx?_eq_some_iff_getElem]
    refine ⟨by simpa using hjl, by have : es[j]'(by simpa using hjl) = e0 := by simpa using ej
                                   rw [this]; simp [hn], fun i hi => ?_⟩
    have hne : es.toList[i].born ≠ es.toList[j].born := by
      have hp := hnd
      rw [List.Nodup, List.pairwise_map, List.pairwise_iff_getElem] at hp
      exact hp i j (by omega) hjl hi
    rw [ej, hn] at hne
    have h2 : ¬ ((es[i]'(by have := hjl; simp at this; omega)).born : Int) = (n : Int) := fun h => hne (by simpa using Int.ofNat.inj h)
    simpa using h2
  have f2 : es.toList[j]? = some e0 := by rw [List.getElem?_eq_getElem hjl, ej]
  refine ⟨setBlock w b (.map (es.modify j (fun e' => { e' with val := v })) clock), ?_, ⟨_, _, heap_setBlock_same hb _, stamped_modify hs _ _ (fun _ _ => rfl) (fun _ _ _ => rfl), own_modify hs h1 h2 hinj f2 hx (fun e' => { e' with val := v }) rfl rfl⟩, grown_setBlock hb _⟩
  simp [Instr.entryStore, goInt, asInt, asIntOf, MapKept.run_getObj_map hb, hidx, MapKept.run_setObj_map _ hb, Result.andThen, setBlock]
end
end Go.Proofs.Ytjjnfnlkfojehaa
