/-
  Maps that the call has made, of any keys and any elements: what lies in them as a function of the key; make, look-up, store, and the entry of 'm[k]++'.
-/
import Derived.Maps.Keyed
import Derived.Maps.OwnOps
import Derived.WalkKit
import Derived.Test.YtifhigajonafdaaGreatProg
import Derived.DeepKeys4
import Derived.Test.YtifhigajonafdaaGreatS22
import Derived.Test.YtifhigajonafdaaGreatS23
import Derived.Test.YtifhigajonafdaaGreatS03
import Derived.Test.YtifhigajonafdaaGreatS11
namespace Go.Proofs.YtifhigajonafdaaGreat
open Go.RowKit
open Go.MapKept Go.ChangeMaps
open Go.Maps (Keyed)
set_option linter.unusedVariables false
set_option linter.unusedSimpArgs false

section
variable {κ : Type}

def upd [DecidableEq κ] {β : Type} (F : κ → Option β) (x : κ) (v : β) : κ → Option β := fun y => if y = x then some v else F y

def OwnM (w : World) (P : Program) (k : TypeId) (enc : κ → Value) (b : Nat) (F : κ → Option Value) : Prop :=
  ∃ es clock, w.heap[b]? = some (.map es clock) ∧ Stamped es clock ∧ (∀ e ∈ es.toList, ∃ x l, e.key = enc x ∧ keyOf P k e.key = some l ∧ F x = some e.val) ∧ (∀ x v, F x = some v → ∃ e ∈ es.toList, e.key = enc x ∧ e.val = v)
def OwnE (w : World) (P : Program) (k : TypeId) (enc : κ → Value) (b : Nat) (F : κ → Option Value) (x : κ) (n : Nat) : Prop :=
  ∃ es clock, w.heap[b]? = some (.map es clock) ∧ Stamped es clock ∧ (∀ e ∈ es.toList, ∃ x l, e.key = enc x ∧ keyOf P k e.key = some l ∧ F x = some e.val) ∧ (∀ x v, F x = some v → ∃ e ∈ es.toList, e.key = enc x ∧ e.val = v) ∧ ∃ e ∈ es.toList, e.key = enc x ∧ e.born = n

variable {w : World} {P : Program} {k : TypeId} {enc : κ → Value} {b : Nat} {F : κ → Option Value}

theorem OwnE.m {x : κ} {n : Nat} (h : OwnE w P k enc b F x n) : OwnM w P k enc b F := by
  obtain ⟨es, c, h1, h2, h3, h4, _⟩ := h
  exact ⟨es, c, h1, h2, h3, h4⟩
theorem OwnM.lt (h : OwnM w P k enc b F) : b < w.heap.size := by
  obtain ⟨es, c, h1, _⟩ := h
  exact (Array.getElem?_eq_some_iff.1 h1).1
theorem OwnM.of_block {w' : World} (h : OwnM w P k enc b F) (hb : w'.heap[b]? = w.heap[b]?) : OwnM w' P k enc b F := by
  obtain ⟨es, c, h1, h2⟩ := h
  exact ⟨es, c, hb.trans h1, h2⟩
theorem OwnE.of_block {w' : World} {x : κ} {n : Nat} (h : OwnE w P k enc b F x n) (hb : w'.heap[b]? = w.heap[b]?) : OwnE w' P k enc b F x n := by
  obtain ⟨es, c, h1, h2⟩ := h
  exact ⟨es, c, hb.trans h1, h2⟩
theorem OwnM.drew (h : OwnM w P k enc b F) : OwnM w.drew P k enc b F := h
theorem OwnM.no_cell (h : OwnM w P k enc b F) (i : Nat) (s : Option Nat) : ∀ a : Addr, a.block = b → w.cell? a = none := by
  obtain ⟨es, c, h1, _⟩ := h
  intro a ha
  subst ha
  simp [World.cell?, h1]
theorem OwnM.made (w : World) : OwnM (w.alloc (.map #[] 0)) P k enc w.heap.size (fun _ => none) :=
  ⟨#[], 0, (MapKept.heap_alloc w _).1, stamped_empty 0, by simp, by simp⟩

theorem OwnM.look (h : OwnM w P k enc b F) (K : Keyed P k) (hinj : ∀ x y, enc x = enc y → x = y) {t e : TypeId} (ht : P.underlying t = some (.map k e)) {z : Value} (hz : (zeroValue e).run P w = .ok z w) {x : κ} {l : Lit} (hk : keyOf P k (enc x) = some l) (c : Bool) :
    (Instr.lookup t (.map (some b)) (enc x) c).run P w = .ok (if c then .tuple #[(F x).getD z, .bool (F x).isSome] else (F x).getD z) w := by
  obtain ⟨es, clock, hb, hs, h1, h2⟩ := h
  rcases K.find w hk es.toList (fun e he => by obtain ⟨_, l, _, h, _⟩ := h1 e he; exact ⟨l, h⟩) with ⟨f1, f2⟩ | ⟨j, e0, f1, f2, f3⟩
  · have hF : F x = none := by
      cases hx : F x with
      | none => rfl
      | some v => obtain ⟨e, he, hke, _⟩ := h2 x v hx; exact absurd hke (f2 e he)
    rw [hF]
    simp [Instr.lookup, run_underlying ht, MapKept.run_getObj_map hb, K.check w _ hk, f1, hz, Result.andThen]
  · obtain ⟨y, l', g1, g2, g3⟩ := h1 e0 (List.mem_of_getElem? f2)
    obtain rfl : y = x := hinj _ _ (g1.symm.trans f3)
    rw [g3]
    simp [Instr.lookup, run_underlying ht, MapKept.run_getObj_map hb, K.check w _ hk, f1, Result.andThen]

theorem mem_modify {es : Array MapEntry} {j : Nat} {e0 : MapEntry} (f : MapEntry → MapEntry) (h : es.toList[j]? = some e0) (x : MapEntry) :
    x ∈ (es.modify j f).toList → x = f e0 ∨ ∃ i, i ≠ j ∧ es.toList[i]? = some x := by
  intro hx
  rw [Array.toList_modify, modify_eq_set _ _ _ _ h] at hx
  obtain ⟨i, hi, ex⟩ := List.getElem_of_mem hx
  rw [List.getElem_set] at ex
  split at ex
  · exact .inl ex.symm
  · rename_i hne
    have hi' : i < es.toList.length := by simpa using hi
    exact .inr ⟨i, fun e => hne e.symm, by rw [List.getElem?_eq_getElem hi', ex]⟩
theorem mem_modify_at {es : Array MapEntry} {j : Nat} {e0 : MapEntry} (f : MapEntry → MapEntry) (h : es.toList[j]? = some e0) : f e0 ∈ (es.modify j f).toList := by
  rw [Array.toList_modify, modify_eq_set _ _ _ _ h]
  have hj := (List.getElem?_eq_some_iff.1 h).1
  exact List.mem_iff_getElem.2 ⟨j, by simpa using hj, by simp⟩
theorem mem_modify_other {es : Array MapEntry} {j : Nat} {e0 : MapEntry} (f : MapEntry → MapEntry) (h : es.toList[j]? = some e0) {e : MapEntry} (he : e ∈ es.toList) (hne : e ≠ e0) : e ∈ (es.modify j f).toList := by
  rw [Array.toList_modify, modify_eq_set _ _ _ _ h]
  obtain ⟨i, hi, rfl⟩ := List.getElem_of_mem he
  have hij : ¬ j = i := fun e => by
    subst e
    rw [List.getElem?_eq_getElem hi] at h
    exact hne (Option.some.inj h)
  exact List.mem_iff_getElem.2 ⟨i, by simpa using hi, by rw [List.getElem_set, if_neg hij]⟩

theorem own_modify [DecidableEq κ] {es : Array MapEntry} {clock : Nat} (hs : Stamped es clock) (h1 : ∀ e ∈ es.toList, ∃ x l, e.key = enc x ∧ keyOf P k e.key = some l ∧ F x = some e.val) (h2 : ∀ x v, F x = some v → ∃ e ∈ es.toList, e.key = enc x ∧ e.val = v) (hinj : ∀ x y, enc x = enc y → x = y)
    {j : Nat} {e0 : MapEntry} (hj : es.toList[j]? = some e0) {x : κ} (hx : e0.key = enc x) (f : MapEntry → MapEntry) (hfk : (f e0).key = e0.key) {v : Value} (hfv : (f e0).val = v) :
    (∀ e ∈ (es.modify j f).toList, ∃ y l, e.key = enc y ∧ keyOf P k e.key = some l ∧ upd F x v y = some e.val) ∧ (∀ y u, upd F x v y = some u → ∃ e ∈ (es.modify j f).toList, e.key = enc y ∧ e.val = u) := by
  have hm0 := List.mem_of_getElem? hj
  constructor
  · intro e he
    rcases mem_modify f hj e he with rfl | ⟨i, hij, hi⟩
    · obtain ⟨y, l, g1, g2, g3⟩ := h1 e0 hm0
      refine ⟨x, l, by rw [hfk, hx], by rw [hfk]; exact g2, ?_⟩
      unfold upd; rw [if_pos rfl, hfv]
    · obtain ⟨y, l, g1, g2, g3⟩ := h1 e (List.mem_of_getElem? hi)
      refine ⟨y, l, g1, g2, ?_⟩
      have hyx : ¬ y = x := fun h => by
        subst h
        have hp := ((stamped_iff es clock).1 hs).2.2
        rw [List.pairwise_iff_getElem] at hp
        obtain ⟨hil, e1⟩ := List.getElem?_eq_some_iff.1 hi
        obtain ⟨hjl, e2⟩ := List.getElem?_eq_some_iff.1 hj
        have ek : es.toList[i].key = es.toList[j].key := by rw [e1, e2, g1, hx]
        rcases Nat.lt_or_gt_of_ne hij with h | h
        · exact hp i j hil hjl h ek
        · exact hp j i hjl hil h ek.symm
      unfold upd; rw [if_neg hyx]; exact g3
  · intro y u hu
    unfold upd at hu
    split at hu
    · rename_i hyx
      subst hyx
      exact ⟨f e0, mem_modify_at f hj, by rw [hfk, hx], by rw [hfv]; exact Option.some.inj hu⟩
    · rename_i hyx
      obtain ⟨e, he, g1, g2⟩ := h2 y u hu
      refine ⟨e, mem_modify_other f hj he (fun h => hyx ?_), g1, g2⟩
      subst h
      exact hinj _ _ (g1.symm.trans hx)
theorem own_push [DecidableEq κ] {es : Array MapEntry} (h1 : ∀ e ∈ es.toList, ∃ x l, e.key = enc x ∧ keyOf P k e.key = some l ∧ F x = some e.val) (h2 : ∀ x v, F x = some v → ∃ e ∈ es.toList, e.key = enc x ∧ e.val = v)
    {x : κ} {l : Lit} (hk : keyOf P k (enc x) = some l) (hno : ∀ e ∈ es.toList, e.key ≠ enc x) (v : Value) (n : Nat) :
    (∀ e ∈ (es.push ⟨enc x, v, n⟩).toList, ∃ y l, e.key = enc y ∧ keyOf P k e.key = some l ∧ upd F x v y = some e.val) ∧ (∀ y u, upd F x v y = some u → ∃ e ∈ (es.push ⟨enc x, v, n⟩).toList, e.key = enc y ∧ e.val = u) := by
  constructor
  · intro e he
    simp only [Array.toList_push, List.mem_append, List.mem_singleton] at he
    rcases he with he | rfl
    · obtain ⟨y, l', g1, g2, g3⟩ := h1 e he
      refine ⟨y, l', g1, g2, ?_⟩
      unfold upd
      rw [if_neg (fun h => hno e he (by rw [g1, h]))]; exact g3
    · exact ⟨x, l, rfl, hk, by unfold upd; rw [if_pos rfl]⟩
  · intro y u hu
    simp only [Array.toList_push, List.mem_append, List.mem_singleton]
    unfold upd at hu
    split at hu
    · rename_i hyx
      subst hyx
      exact ⟨_, .inr rfl, rfl, Option.some.inj hu⟩
    · obtain ⟨e, he, g1, g2⟩ := h2 y u hu
      exact ⟨e, .inl he, g1, g2⟩
theorem grown_setBlock {w : World} {b : Nat} {es : Array MapEntry} {clock : Nat} (hb : w.heap[b]? = some (.map es clock)) (o : Obj) : w.grownBy (setBlock w b o) (some b) :=
  ⟨rfl, rfl, rfl, by simp [setBlock], fun i _ hi => heap_setBlock_other hb _ (fun e => hi (by rw [e]))⟩

theorem OwnM.put [DecidableEq κ] (h : OwnM w P k enc b F) (K : Keyed P k) (hinj : ∀ x y, enc x = enc y → x = y) {t e : TypeId} (ht : P.underlying t = some (.map k e)) {x : κ} {l : Lit} (hk : keyOf P k (enc x) = some l) (v : Value) :
    ∃ w', (Instr.mapUpdate t (.map (some b)) (enc x) v).run P w = .ok () w' ∧ OwnM w' P k enc b (upd F x v) ∧ w.grownBy w' (some b) := by
  obtain ⟨es, clock, hb, hs, h1, h2⟩ := h
  rcases K.find w hk es.toList (fun e he => by obtain ⟨_, l, _, h, _⟩ := h1 e he; exact ⟨l, h⟩) with ⟨f1, f2⟩ | ⟨j, e0, f1, f2, f3⟩
  · refine ⟨setBlock w b (.map (es.push ⟨enc x, v, clock⟩) (clock + 1)), ?_, ⟨_, _, heap_setBlock_same hb _, stamped_push hs f2, own_push h1 h2 hk f2 v clock⟩, grown_setBlock hb _⟩
    simp [Instr.mapUpdate, run_underlying ht, MapKept.run_getObj_map hb, K.check w false hk, f1, MapKept.run_setObj_map _ hb, Result.andThen, setBlock]
  · have hj : es[j]? = some e0 := by simpa using f2
    refine ⟨setBlock w b (.map (es.modify j (fun e' => { e' with key := enc x, val := v })) clock), ?_, ⟨_, _, heap_setBlock_same hb _, stamped_modify hs _ _ (fun _ _ => rfl) (fun e' _ he' => by rw [hj] at he'; cases he'; exact f3.symm), own_modify hs h1 h2 hinj f2 f3 _ f3.symm rfl⟩, grown_setBlock hb _⟩
    simp [Instr.mapUpdate, run_underlying ht, MapKept.run_getObj_map hb, K.check w false hk, f1, hj, f3, K.stays w hk, MapKept.run_setObj_map _ hb, Result.andThen, setBlock]

theorem OwnM.entry [DecidableEq κ] (h : OwnM w P k enc b F) (K : Keyed P k) (hinj : ∀ x y, enc x = enc y → x = y) {t e : TypeId} (ht : P.underlying t = some (.map k e)) {z : Value} (hz : (zeroValue e).run P w = .ok z w) {x : κ} {l : Lit} (hk : keyOf P k (enc x) = some l) :
    ∃ (w' : World) (n : Nat), (Instr.mapEntry t (.map (some b)) (enc x)).run P w = .ok (.tuple #[(F x).getD z, goInt n]) w' ∧ OwnE w' P k enc b (upd F x ((F x).getD z)) x n ∧ w.grownBy w' (some b) := by
  obtain ⟨es, clock, hb, hs, h1, h2⟩ := h
  rcases K.find w hk es.toList (fun e he => by obtain ⟨_, l, _, h, _⟩ := h1 e he; exact ⟨l, h⟩) with ⟨f1, f2⟩ | ⟨j, e0, f1, f2, f3⟩
  · have hF : F x = none := by
      cases hx : F x with
      | none => rfl
      | some v => obtain ⟨e, he, hke, _⟩ := h2 x v hx; exact absurd hke (f2 e he)
    rw [hF]
    obtain ⟨p1, p2⟩ := own_push h1 h2 hk f2 z clock
    refine ⟨setBlock w b (.map (es.push ⟨enc x, z, clock⟩) (clock + 1)), clock, ?_, ⟨_, _, heap_setBlock_same hb _, stamped_push hs f2, p1, p2, ⟨enc x, z, clock⟩, by simp, rfl, rfl⟩, grown_setBlock hb _⟩
    simp [Instr.mapEntry, run_underlying ht, MapKept.run_getObj_map hb, K.check w false hk, f1, hz, MapKept.run_setObj_map _ hb, Result.andThen, setBlock]
  · have hj : es[j]? = some e0 := by simpa using f2
    have hm0 := List.mem_of_getElem? f2
    obtain ⟨y, l', g1, g2, g3⟩ := h1 e0 hm0
    obtain rfl : y = x := hinj _ _ (g1.symm.trans f3)
    rw [g3]
    obtain ⟨p1, p2⟩ := own_modify (F := F) hs h1 h2 hinj f2 f3 (fun e' => { e' with key := enc y }) f3.symm (v := e0.val) rfl
    refine ⟨setBlock w b (.map (es.modify j (fun e' => { e' with key := enc y })) clock), e0.born, ?_, ⟨_, _, heap_setBlock_same hb _, stamped_modify hs _ _ (fun _ _ => rfl) (fun e' _ he' => by rw [hj] at he'; cases he'; exact f3.symm), p1, p2, { e0 with key := enc y }, mem_modify_at _ f2, rfl, rfl⟩, grown_setBlock hb _⟩
    simp [Instr.mapEntry, run_underlying ht, MapKept.run_getObj_map hb, K.check w false hk, f1, hj, f3, K.stays w hk, MapKept.run_setObj_map _ hb, Result.andThen, setBlock]

theorem OwnE.store [DecidableEq κ] {x : κ} {n : Nat} (h : OwnE w P k enc b F x n) (hinj : ∀ x y, enc x = enc y → x = y) (t : TypeId) (v : Value) :
    ∃ w', (Instr.entryStore t (.map (some b)) (goInt n) v).run P w = .ok () w' ∧ OwnM w' P k enc b (upd F x v) ∧ w.grownBy w' (some b) := by
  obtain ⟨es, clock, hb, hs, h1, h2, e0, he0, hx, hn⟩ := h
  obtain ⟨j, hjl, ej⟩ := List.getElem_of_mem he0
  have hnd := ((stamped_iff es clock).1 hs).2.1
  have hidx : es.findIdx? (fun e => (e.born : Int) == (n : Int)) = some j := by
    rw [Array.findIdx?_eq_some_iff_getElem]
    refine ⟨by simpa using hjl, by have : es[j]'(by simpa using hjl) = e0 := by simpa using ej
                                   rw [this]; simp [hn], fun i hi => ?_⟩
    have hne : es.toList[i].born ≠ es.toList[j].born := by
      have hp := hnd
      rw [List.Nodup, List.pairwise_map, List.pairwise_iff_getElem] at hp
      exact hp i j (by omega) hjl hi
    rw [ej, hn] at hne
    have h2 : ¬ ((es[i]'(by have := hjl; simp at this; omega)).born : Int) = (n : Int) := fun h => hne (by simpa using Int.ofNat.inj h)
    simpa using h2
  have f2 : es.toList[j]? = some e0 := by rw [List.getElem?_eq_getElem hjl, ej]
  refine ⟨setBlock w b (.map (es.modify j (fun e' => { e' with val := v })) clock), ?_, ⟨_, _, heap_setBlock_same hb _, stamped_modify hs _ _ (fun _ _ => rfl) (fun _ _ _ => rfl), own_modify hs h1 h2 hinj f2 hx (fun e' => { e' with val := v }) rfl rfl⟩, grown_setBlock hb _⟩
  simp [Instr.entryStore, goInt, asInt, asIntOf, MapKept.run_getObj_map hb, hidx, MapKept.run_setObj_map _ hb, Result.andThen, setBlock]
end
end Go.Proofs.YtifhigajonafdaaGreat

/-
  The keys of this program's maps: strings, numbers, and the two structs of package check; the elements' zero values.
-/
namespace Go.Proofs.YtifhigajonafdaaGreat
open Go.RowKit
open Go.Maps (Keyed)
set_option linter.unusedVariables false
set_option linter.unusedSimpArgs false

theorem lay0 : laidOutB Tryz.prog = true := by kernel_rfl
abbrev KeyV := ByteArray × Int × Int × ByteArray
abbrev EndV := ByteArray × Int
def encS (s : ByteArray) : Value := .string s
def encI (n : Int) : Value := .int .i64 n
def encQ (x : KeyV) : Value := .agg #[.string x.1, .int .i64 x.2.1, .int .i64 x.2.2.1, .string x.2.2.2]
def encE (x : EndV) : Value := .agg #[.string x.1, .int .i64 x.2]
theorem encS_inj : ∀ x y, encS x = encS y → x = y := fun x y h => by simpa [encS] using h
theorem encI_inj : ∀ x y, encI x = encI y → x = y := fun x y h => by simpa [encI] using h
theorem encQ_inj : ∀ x y, encQ x = encQ y → x = y := fun x y h => by
  obtain ⟨a, b, c, d⟩ := x
  obtain ⟨a', b', c', d'⟩ := y
  simpa [encQ] using h
theorem encE_inj : ∀ x y, encE x = encE y → x = y := fun x y h => by
  obtain ⟨a, b⟩ := x
  obtain ⟨a', b'⟩ := y
  simpa [encE] using h
theorem keyedS : Keyed Tryz.prog 9 := Go.Maps.string_keyed Tryz.underlying9
theorem keyedI : Keyed Tryz.prog 3 := Go.Maps.int_keyed Tryz.underlying3
theorem keyedK : Keyed Tryz.prog 234 := Keyed.of_law (deep_law_laid lay0 (m := 4) (by omega) (of_decide_eq_true (by kernel_rfl)) (by kernel_rfl) (by rw [Tryz.underlying234]))
theorem keyedE : Keyed Tryz.prog 151 := Keyed.of_law (deep_law_laid lay0 (m := 4) (by omega) (of_decide_eq_true (by kernel_rfl)) (by kernel_rfl) (by rw [Tryz.underlying151]))
theorem zero76 (w : World) : (zeroValue 142).run Tryz.prog w = .ok (.agg #[.slice none 0 0, .slice none 0 0, .slice none 0 0]) w := by kernel_rfl
theorem zero72 (w : World) : (zeroValue 145).run Tryz.prog w = .ok (.agg #[.string ⟨#[]⟩, .string ⟨#[]⟩, .string ⟨#[]⟩, .int .i64 0, .int .i64 0]) w := by kernel_rfl
theorem zero3 (w : World) : (zeroValue 3).run Tryz.prog w = .ok (.int .i64 0) w := by kernel_rfl
def in64 (n : Int) : Prop := (Lit.int .i64 n).wf = true
theorem in64_of {n : Int} (h1 : -9223372036854775808 ≤ n) (h2 : n ≤ 9223372036854775807) : in64 n := by
  unfold in64
  have e1 : IntKind.i64.min = -9223372036854775808 := by decide
  have e2 : IntKind.i64.max = 9223372036854775807 := by decide
  simp [Lit.wf, e1, e2]
  omega
theorem keyS {s : ByteArray} (h : s.size ≤ maxLen) : ∃ l, keyOf Tryz.prog 9 (encS s) = some l := ⟨_, by
  unfold keyOf
  rw [Tryz.underlying9]
  simp only [encS, mapKey, Tryz.underlying9]
  rw [if_pos h]⟩
theorem keyI {n : Int} (h : in64 n) : ∃ l, keyOf Tryz.prog 3 (encI n) = some l := ⟨_, Go.Maps.keyOf_int_mk Tryz.underlying3 h⟩
theorem kt106 : Tryz.prog.keyType 234 = true := by kernel_rfl
theorem kt83 : Tryz.prog.keyType 151 = true := by kernel_rfl
theorem co106 : Tryz.prog.cellsOf 234 = 4 := by kernel_rfl
theorem co48 : Tryz.prog.cellsOf 50 = 3 := by kernel_rfl
theorem co83 : Tryz.prog.cellsOf 151 = 2 := by kernel_rfl
theorem co9 : Tryz.prog.cellsOf 9 = 1 := by kernel_rfl
theorem co3 : Tryz.prog.cellsOf 3 = 1 := by kernel_rfl
theorem tys : Tryz.prog.types.size + 1 = 281 := by kernel_rfl
theorem klS (d : Nat) {s : ByteArray} (h : s.size ≤ maxLen) : Tryz.prog.keyLits (d + 1) 9 [.string s] = some [.string s.data.toList] := by
  simp only [Program.keyLits, Tryz.underlying9]; rw [if_pos h]
theorem klI (d : Nat) {n : Int} (h : in64 n) : Tryz.prog.keyLits (d + 1) 3 [.int .i64 n] = some [.int .i64 n] := by
  unfold in64 at h
  simp only [Program.keyLits, Tryz.underlying3]; rw [if_pos ⟨trivial, h⟩]
theorem kl83 (d : Nat) {s : ByteArray} {n : Int} (h1 : s.size ≤ maxLen) (h2 : in64 n) : Tryz.prog.keyLits (d + 2) 151 [.string s, .int .i64 n] = some [.string s.data.toList, .int .i64 n] := by
  conv => lhs; unfold Program.keyLits
  rw [Tryz.underlying151]
  simp [co83, co9, co3, klS _ h1, klI _ h2]
theorem kl48 (d : Nat) {t n : Int} {s : ByteArray} (h1 : in64 t) (h2 : in64 n) (h3 : s.size ≤ maxLen) : Tryz.prog.keyLits (d + 2) 50 [.int .i64 t, .int .i64 n, .string s] = some [.int .i64 t, .int .i64 n, .string s.data.toList] := by
  conv => lhs; unfold Program.keyLits
  rw [Tryz.underlying50]
  simp [co48, co9, co3, klS _ h3, klI _ h2, klI _ h1]
theorem kl106 (d : Nat) {f s : ByteArray} {t n : Int} (h0 : f.size ≤ maxLen) (h1 : in64 t) (h2 : in64 n) (h3 : s.size ≤ maxLen) : Tryz.prog.keyLits (d + 3) 234 [.string f, .int .i64 t, .int .i64 n, .string s] = some [.string f.data.toList, .int .i64 t, .int .i64 n, .string s.data.toList] := by
  conv => lhs; unfold Program.keyLits
  rw [Tryz.underlying234]
  simp [co106, co48, co9, klS _ h0, kl48 _ h1 h2 h3]
theorem keyE {x : EndV} (h1 : x.1.size ≤ maxLen) (h2 : in64 x.2) : ∃ l, keyOf Tryz.prog 151 (encE x) = some l := by
  have hf : (encE x).formed Tryz.prog 151 = true := by simp [encE, Value.formed, Tryz.underlying151, co83]
  unfold keyOf
  rw [Tryz.underlying151, kt83, hf, tys]
  have := kl83 279 h1 h2
  simp only [Bool.and_self, if_true]
  rw [show (encE x).cells.toList = [.string x.1, .int .i64 x.2] from rfl, show (281 : Nat) = 279 + 2 from rfl, this]
  exact ⟨_, rfl⟩
theorem keyK {x : KeyV} (h1 : x.1.size ≤ maxLen) (h2 : in64 x.2.1) (h3 : in64 x.2.2.1) (h4 : x.2.2.2.size ≤ maxLen) : ∃ l, keyOf Tryz.prog 234 (encQ x) = some l := by
  have hf : (encQ x).formed Tryz.prog 234 = true := by simp [encQ, Value.formed, Tryz.underlying234, co106]
  unfold keyOf
  rw [Tryz.underlying234, kt106, hf, tys]
  have := kl106 278 h1 h2 h3 h4
  simp only [Bool.and_self, if_true]
  rw [show (encQ x).cells.toList = [.string x.1, .int .i64 x.2.1, .int .i64 x.2.2.1, .string x.2.2.2] from rfl, show (281 : Nat) = 278 + 3 from rfl, this]
  exact ⟨_, rfl⟩
end Go.Proofs.YtifhigajonafdaaGreat

/-
  What package check says, in plain functions; and how what it makes lies in memory.
-/
namespace Go.Proofs.YtifhigajonafdaaGreat
open Go.RowKit
set_option linter.unusedVariables false
set_option linter.unusedSimpArgs false

structure Ft where
  wh : Int
  id : Int
  nm : ByteArray
def Ft.cells (f : Ft) : List Value := [.int .i64 f.wh, .int .i64 f.id, .string f.nm]
def cellsX (l : List Ft) : List Value := l.flatMap Ft.cells
theorem cellsX_snoc (l : List Ft) (f : Ft) : cellsX (l ++ [f]) = cellsX l ++ f.cells := by simp [cellsX]
theorem cellsX_app (l m : List Ft) : cellsX (l ++ m) = cellsX l ++ cellsX m := by simp [cellsX]
theorem cellsX_len (l : List Ft) : (cellsX l).length = l.length * 3 := by
  induction l with
  | nil => rfl
  | cons f r ih => simp [cellsX, Ft.cells] at ih ⊢; omega
structure Sh where
  kn : List Nm
  fs : List Fd
  bn : List Bd
def sh0 : Sh := ⟨[], [], []⟩
def shp (L : List Kd) (B : List Bd) (a : Nm) : Sh := ⟨nms (kin L a), fields L a, B.filter fun x => hasN (nms (kin L a)) x.fr⟩
def shO (L : List Kd) (B : List Bd) (M : List Kd) : ByteArray → Option Sh := M.foldl (fun F k => upd F (bs k.nm) (shp L B k.nm)) (fun _ => none)
def bdO (B : List Bd) : ByteArray → Option Bd := B.foldl (fun F x => upd F (bs x.nm) x) (fun _ => none)

def fit1 (p : Pr) (f : Fd) : Bool := f.nm == p.nm.toList && f.t == p.t
def fits (fs : List Fd) (p : Pr) : Bool := fs.any (fit1 p)
def propS (fs : List Fd) (id : Int) (l : List Ft) (p : Pr) : List Ft := if fits fs p = true then l else l ++ [⟨2, id, p.nm⟩]
def propF (fs : List Fd) (id : Int) (rc : List Pr) : List Ft := rc.foldl (propS fs id) []
def getP (nm : Nm) (rc : List Pr) : Option Pr := if idxP nm rc 0 = -1 then none else rc[(idxP nm rc 0).toNat]?
def valP (o : Option Pr) : Int × Int × ByteArray := match o with
  | some p => (p.t, p.n, p.s)
  | none => (0, 0, ⟨#[]⟩)
def keyP (rc : List Pr) (f : Fd) : KeyV := (bs f.nm, valP (getP f.nm rc))
abbrev Tk := KeyV → Option Int
def noF (rc : List Pr) (f : Fd) : Bool := f.must && (getP f.nm rc).isNone
def sameF (rc : List Pr) (T : Tk) (f : Fd) : Bool := (f.key && (valP (getP f.nm rc)).1 == f.t) && (T (keyP rc f)).getD 0 != 0
def fieldS (id : Int) (rc : List Pr) (S : List Ft × Tk) (f : Fd) : List Ft × Tk :=
  if noF rc f = true then (S.1 ++ [⟨3, id, bs f.nm⟩], S.2) else if sameF rc S.2 f = true then (S.1 ++ [⟨4, id, bs f.nm⟩], S.2) else if f.key = true then (S.1, upd S.2 (keyP rc f) id) else S
def fieldF (fs : List Fd) (id : Int) (rc : List Pr) (T : Tk) : List Ft × Tk := fs.foldl (fieldS id rc) ([], T)
def ownF (h : Option Sh) (n : Nd) (T : Tk) : List Ft × Tk := match h with
  | none => ([⟨1, n.id, n.kd⟩], T)
  | some h => (propF h.fs n.id n.rc ++ (fieldF h.fs n.id n.rc T).1, (fieldF h.fs n.id n.rc T).2)
abbrev Ou := EndV → Option Int
def outS (O : Ou) (t : Te) : Ou := upd O (t.bd, t.fr) ((O (t.bd, t.fr)).getD 0 + 1)
def outO (T : List Te) : Ou := T.foldl outS (fun _ => none)
def cnt (O : Ou) (id : Int) (x : Bd) : Int := (O (bs x.nm, id)).getD 0
def bondS (id : Int) (O : Ou) (l : List Ft) (x : Bd) : List Ft :=
  if cnt O id x < x.mn then l ++ [⟨7, id, bs x.nm⟩] else if (decide (0 ≤ x.mx) && decide (x.mx < cnt O id x)) = true then l ++ [⟨8, id, bs x.nm⟩] else l
def bondF (bn : List Bd) (id : Int) (O : Ou) : List Ft := bn.foldl (bondS id O) []
def nodeS (H : ByteArray → Option Sh) (O : Ou) (S : List Ft × Tk) (n : Nd) : List Ft × Tk :=
  (S.1 ++ (ownF (H n.kd) n S.2).1 ++ bondF ((H n.kd).getD sh0).bn n.id O, (ownF (H n.kd) n S.2).2)
def nodeF (H : ByteArray → Option Sh) (O : Ou) (N : List Nd) : List Ft := (N.foldl (nodeS H O) ([], fun _ => none)).1
abbrev En := Int → Option Sh
def endS (H : ByteArray → Option Sh) (E : En) (n : Nd) : En := upd E n.id ((H n.kd).getD sh0)
def endO (H : ByteArray → Option Sh) (N : List Nd) : En := N.foldl (endS H) (fun _ => none)
def badE (E : En) (t : Te) (x : Bd) : Bool := !hasN ((E t.fr).getD sh0).kn x.fr || !hasN ((E t.tt).getD sh0).kn x.tt
def tieS (X : ByteArray → Option Bd) (E : En) (l : List Ft) (t : Te) : List Ft := match X t.bd with
  | none => l ++ [⟨5, t.fr, t.bd⟩]
  | some x => if badE E t x = true then l ++ [⟨6, t.fr, t.bd⟩] else l
def tieF (X : ByteArray → Option Bd) (E : En) (T : List Te) : List Ft := T.foldl (tieS X E) []
def allF (L : List Kd) (B : List Bd) (N : List Nd) (T : List Te) : List Ft := nodeF (shO L B L) (outO T) N ++ tieF (bdO B) (endO (shO L B L) N) T
def inE (L : List Kd) (B : List Bd) (N : List Nd) (T : List Te) : Int := if (sErr L B).2 = 0 then gErr N T else (sErr L B).2

def IsSh (w : World) (v : Value) (h : Sh) : Prop := ∃ vk vf vb, v = .agg #[vk, vf, vb] ∧ IsS w vk h.kn ∧ IsF w vf h.fs ∧ IsB w vb h.bn
theorem IsSh.on {w w' : World} {v : Value} {h : Sh} (hs : IsSh w v h) (hB : Below w.heap.size w w') : IsSh w' v h := by
  obtain ⟨a, b, c, rfl, h1, h2, h3⟩ := hs
  exact ⟨a, b, c, rfl, h1.on hB, h2.on hB, h3.on hB⟩
theorem isSh0 (w : World) : IsSh w (.agg #[.slice none 0 0, .slice none 0 0, .slice none 0 0]) sh0 :=
  ⟨_, _, _, rfl, .inl ⟨none, 0, rfl, rfl, Nat.zero_le _, fun _ => rfl⟩, .inl ⟨none, 0, rfl, rfl, Nat.zero_le _, fun _ => rfl⟩, .inl ⟨rfl, rfl⟩⟩
def ShR (w : World) (o : Option Value) (h : Option Sh) : Prop := (o = none ∧ h = none) ∨ ∃ v s, o = some v ∧ h = some s ∧ IsSh w v s
theorem ShR.on {w w' : World} {o : Option Value} {h : Option Sh} (hs : ShR w o h) (hB : Below w.heap.size w w') : ShR w' o h := by
  rcases hs with h | ⟨v, s, h1, h2, h3⟩
  · exact .inl h
  · exact .inr ⟨v, s, h1, h2, h3.on hB⟩
theorem ShR.getD {w : World} {o : Option Value} {h : Option Sh} (hs : ShR w o h) : IsSh w (o.getD (.agg #[.slice none 0 0, .slice none 0 0, .slice none 0 0])) (h.getD sh0) := by
  rcases hs with ⟨rfl, rfl⟩ | ⟨v, s, rfl, rfl, h3⟩
  · exact isSh0 w
  · exact h3
theorem ShR.some {w : World} {o : Option Value} {h : Option Sh} (hs : ShR w o h) : o.isSome = h.isSome := by
  rcases hs with ⟨rfl, rfl⟩ | ⟨v, s, rfl, rfl, h3⟩ <;> rfl
def MapSh {κ : Type} (w : World) (k : TypeId) (enc : κ → Value) (b : Nat) (H : κ → Option Sh) : Prop := ∃ F, OwnM w Tryz.prog k enc b F ∧ ∀ x, ShR w (F x) (H x)
def MapBd (w : World) (b : Nat) (X : ByteArray → Option Bd) : Prop := OwnM w Tryz.prog 9 encS b (fun x => (X x).map Bd.one)
def MapIn {κ : Type} (w : World) (k : TypeId) (enc : κ → Value) (b : Nat) (T : κ → Option Int) : Prop := OwnM w Tryz.prog k enc b (fun x => (T x).map (.int .i64))
theorem MapSh.on {κ : Type} {w w' : World} {k : TypeId} {enc : κ → Value} {b : Nat} {H : κ → Option Sh} (h : MapSh w k enc b H) (hB : Below w.heap.size w w') : MapSh w' k enc b H := by
  obtain ⟨F, h1, h2⟩ := h
  exact ⟨F, h1.of_block (hB.block _ h1.lt), fun x => (h2 x).on hB⟩
theorem MapBd.on {w w' : World} {b : Nat} {X : ByteArray → Option Bd} (h : MapBd w b X) (hB : Below w.heap.size w w') : MapBd w' b X := OwnM.of_block h (hB.block _ (OwnM.lt h))
theorem MapIn.on {κ : Type} {w w' : World} {k : TypeId} {enc : κ → Value} {b : Nat} {T : κ → Option Int} (h : MapIn w k enc b T) (hB : Below w.heap.size w w') : MapIn w' k enc b T := OwnM.of_block h (hB.block _ (OwnM.lt h))
def IsPl (w : World) (v : Value) (H : ByteArray → Option Sh) (X : ByteArray → Option Bd) : Prop := ∃ b1 b2, v = .agg #[.map (some b1), .map (some b2)] ∧ MapSh w 9 encS b1 H ∧ MapBd w b2 X
theorem IsPl.on {w w' : World} {v : Value} {H : ByteArray → Option Sh} {X : ByteArray → Option Bd} (h : IsPl w v H X) (hB : Below w.heap.size w w') : IsPl w' v H X := by
  obtain ⟨b1, b2, h0, h1, h2⟩ := h
  exact ⟨b1, b2, h0, h1.on hB, h2.on hB⟩
theorem infoX : (Tryz.prog.info? 157).map (fun i => (i.zero, i.size, i.bytes)) = some (some (.agg #[.int .i64 0, .int .i64 0, .string ⟨#[]⟩]), 3, 32) := by kernel_rfl
abbrev OwnX (w : World) (base : Nat) (v : Value) (l : List Ft) : Prop := w.ownsRow base 157 3 v l.length (cellsX l)
theorem foldl_take {α β : Type} (f : β → α → β) (a : β) {l : List α} {k : Nat} {x : α} (h : l[k]? = some x) : (l.take (k + 1)).foldl f a = f ((l.take k).foldl f a) x := by
  rw [takeK h, List.foldl_append]; rfl
end Go.Proofs.YtifhigajonafdaaGreat
